/-
  Words and contracts that the laws lean on, bundled: DrawS, Sames, SumL, SumS, Skews, Big.
-/
import Derived.Test.YtoiipedomgefaaaB5
import Derived.Test.YtoiipedomgefaaaB4
import Derived.Test.YtoiipedomgefaaaB3
import Derived.Test.YtoiipedomgefaaaB2
import Derived.Test.YtoiipedomgefaaaB1
import Derived.Test.YtoiipedomgefaaaProg

/-
  DRAWS OF LISTS AND OF SUMS: spec.l3List, spec.l4Two, spec.l4Summed, spec.l4Bent; spec.DrawSumParts, spec.DrawSumOf, spec.DrawJoinParts, spec.DrawIsLayered, by their contracts.
-/

namespace Go.Proofs.Ytoiipedomgefaaa
set_option maxRecDepth 100000
open Go.RowKit

theorem idR_nat' {n : Nat} (h : n ≤ 8) : idR (n : Int) = upTo n := by
  by_cases h1 : 1 ≤ n
  · rw [idR_yes (by omega) (by omega)]; congr 1
  · obtain rfl : n = 0 := by omega
    rfl
theorem isP_upTo' {n : Nat} (h : n ≤ 8) : isP (upTo n) = true := isP_true.2 ⟨by rw [upTo_length]; exact h, fun x hx => by rw [upTo_length]; exact mem_upTo.1 hx, upTo_nodup n⟩
theorem joinsR_lite (s : Bool) (l : List (List Int)) : Lite 9 (joinsR s l) := by
  have h := joinsR_le s l
  refine ⟨by omega, ?_⟩
  cases hf : allFit l with
  | false => rw [joinsR_no hf]; exact small_nil
  | true =>
    rw [joinsR_yes hf]
    simp only [allFit, Bool.and_eq_true, decide_eq_true_eq] at hf
    exact isP_small (joinAll_isP l hf.1 hf.2)

set_option maxHeartbeats 1600000 in
theorem l4summed_any (B cb : Nat) (w : World) (hc : Cur w B cb) : Calls Try.prog 49 #[.pointer (some ⟨cb, 0, none⟩)] w (DrawnI B cb w 9) := by
  have hS0 := Side.start hc
  have H1 := hide (below_any B cb 4 (by omega) _ hc)
  clear hc
  go_enter Try.func49, Try.ntmps49
  go_wp2_with fail
  refine (unhide H1).mono ?_
  rintro e w1 ⟨v, rfl, ⟨x, rfl, hx0, hx1⟩, hc1, hg1⟩
  rw [if_pos (by omega)] at hx1
  obtain ⟨m, rfl⟩ : ∃ m : Nat, x = m := ⟨x.toNat, by omega⟩
  have hm : m ≤ 9 := by omega
  have hS1 := hS0.drawn hc1 hg1
  have H2 := hide (l2draw_any B cb m (by omega) w1 hc1)
  clear H1 hS0 hc1 hg1 hx0 hx1
  go_wp2_with fail
  refine (unhide H2).mono ?_
  rintro e w2 ⟨A2, c2, zs, rfl, hl, hown, hc2, hg2⟩
  have hS2 := hS1.drawn hc2 hg2
  have hI2 := (Ints.of_own hown).low hS1.size
  have hL2 : Hid (Lite 9 zs) := hide (hl.more hm)
  clear H2 hS1 hl hown hc2 hg2
  go_wp2
  go_loopw [3, 4, 5, 6] (fun v i _ _ wr => ∃ (k : Nat) (p : List Int), k ≤ 3 ∧ i = .int .i64 k ∧ Ints wr w.heap.size v p ∧ Hid (Lite 9 p) ∧ Side B cb w wr) (fun _ i _ _ _ => 3 - (intOf i).toNat)
  case atStart => exact ⟨0, zs, by omega, rfl, hI2, hL2, hS2⟩
  case round =>
    obtain ⟨k, p, hk, rfl, hI, hL, hS⟩ := hrel
    clear hI2 hS2 hL2
    obtain ⟨A3, c3, rfl⟩ := hI.slice
    by_cases hlt : k < 3
    · have H3 := hide (below_any B cb 3 (by omega) wr hS.cur)
      have hlt' : (k : Int) < 3 := by omega
      go_wp2_with fail
      refine (unhide H3).mono ?_
      rintro e w3 ⟨v, rfl, ⟨y, rfl, hy0, hy1⟩, hc3, hg3⟩
      rw [if_pos (by omega)] at hy1
      obtain ⟨n, rfl⟩ : ∃ n : Nat, y = n := ⟨y.toNat, by omega⟩
      have hn : n ≤ 9 := by omega
      have hS3 := hS.drawn hc3 hg3
      have hI3 := hI.drawn hg3 hS.lt
      have H4 := hide (l2draw_any B cb n (by omega) w3 hc3)
      clear H3 hS hI hc3 hg3 hy0 hy1
      go_wp2_with fail
      refine (unhide H4).mono ?_
      rintro e w4 ⟨A4, c4, q, rfl, hl, hown, hc4, hg4⟩
      have hq := Ints.of_own hown
      have haw := away_since hI3 hq.since
      have hS4 := hS3.drawn hc4 hg4
      have hI4 := hI3.drawn hg4 hS3.lt
      have hT := IntsS.two hI4 (hq.low hS3.size) haw hS4.size
      have hLL : Hid (∀ z ∈ [p, q], z.length ≤ 1048576 ∧ Small z) := hide (fun z hz => by
        rcases List.mem_cons.1 hz with rfl | hz
        · exact ⟨Nat.le_trans (unhide hL).1 (by omega), (unhide hL).2⟩
        · rw [List.mem_singleton] at hz
          subst hz
          exact ⟨Nat.le_trans hl.1 (by omega), hl.2⟩)
      have hal := (Below.refl w4.heap.size w4).alloc (Nat.le_refl _) (.cells #[.slice A3 p.length c3, .slice A4 q.length c4] 24)
      have hS5 := hS4.below hal
      have hI5 := hI4.below hal
      have H5 := hide (once_any B cb 2 (by omega) _ hS5.cur)
      clear H4 hl hown hq haw hS3 hI3 hc4 hg4 hS4 hI4 hal
      go_wp2_with fail
      refine (unhide H5).mono ?_
      rintro e w6 ⟨v, rfl, ⟨b, rfl⟩, hc6, hg6⟩
      have hT6 := hT.drawn hg6 hS5.lt
      have hS6 := hS5.drawn hc6 hg6
      have hI6 := hI5.drawn hg6 hS5.lt
      have H6 := hide (sjoins_any _ 2 2 _ b [p, q] w6 hT6 (by omega) (unhide hLL))
      clear H5 hT hS5 hI5 hc6 hg6 hT6
      obtain ⟨f, hf⟩ : ∃ f, allFit [p, q] = f := ⟨_, rfl⟩
      rw [hf] at H6
      go_wp2_with fail
      refine (unhide H6).mono ?_
      rintro e w7 ⟨A7, c7, rfl, own7, hb7⟩
      have hS7 := hS6.below hb7
      have hI7 := hI6.below hb7
      have own8 := own7.low hS6.size
      have hL8 : Hid (Lite 9 (joinsR b [p, q])) := hide (joinsR_lite b _)
      clear H6 hS6 hI6 own7 hb7 hf
      cases f with
      | true =>
        go_wp2
        go_roundw
        case rel => exact ⟨k + 1, _, by omega, by go_num, own8, hL8, hS7⟩
        case measure => simp [intOf]; omega
      | false =>
        go_wp2
        go_roundw
        case rel => exact ⟨k + 1, p, by omega, by go_num, hI7, hL, hS7⟩
        case measure => simp [intOf]; omega
    · obtain rfl : k = 3 := by omega
      have HS := hide hS
      clear hS
      go_wp2
      go_ret
      exact DrawnI.mk hI (unhide hL) (unhide HS)

theorem l4bent_any (B cb : Nat) (w : World) (hc : Cur w B cb) : Calls Try.prog 27 #[.pointer (some ⟨cb, 0, none⟩)] w (DrawnI B cb w 9) := by
  have hS0 := Side.start hc
  have H1 := hide (once_any B cb 3 (by omega) _ hc)
  clear hc
  go_enter Try.func27, Try.ntmps27
  go_wp2_with fail
  refine (unhide H1).mono ?_
  rintro e w1 ⟨v, rfl, ⟨b, rfl⟩, hc1, hg1⟩
  have hS1 := hS0.drawn hc1 hg1
  have H2 := hide (l2bent_any B cb w1 hc1)
  have H3 := hide (l4summed_any B cb w1 hc1)
  clear H1 hS0 hc1 hg1
  cases b with
  | true =>
    clear H3
    go_wp2_with fail
    refine (unhide H2).mono ?_
    rintro e w2 ⟨A2, c2, zs, rfl, hl, hI, hc2, hg2⟩
    have hI2 := hI.low hS1.size
    have HS := hide (hS1.drawn hc2 hg2)
    have HL := hide hl
    clear H2 hS1 hl hI hc2 hg2
    go_wp2
    go_ret
    exact DrawnI.mk hI2 (unhide HL) (unhide HS)
  | false =>
    clear H2
    go_wp2_with fail
    refine (unhide H3).mono ?_
    rintro e w2 ⟨A2, c2, zs, rfl, hl, hI, hc2, hg2⟩
    have hI2 := hI.low hS1.size
    have HS := hide (hS1.drawn hc2 hg2)
    have HL := hide hl
    clear H3 hS1 hl hI hc2 hg2
    go_wp2
    go_ret
    exact DrawnI.mk hI2 (unhide HL) (unhide HS)

theorem dparts_any (A : Option Addr) (n c B : Nat) (bs : List UInt8) (w : World) (hr : Reads w B A n (u8s bs)) (hn : n ≤ 1048576) (hB : B ≤ w.heap.size) :
    Calls Try.prog 6 #[.slice A n c] w (DrewI w 9) := by
  have H1 := hide (new_any A n c B bs w hr hn hB)
  clear hr
  go_enter Try.func6, Try.ntmps6
  go_wp2_with fail
  refine (unhide H1).mono ?_
  rintro e w1 ⟨cb, rfl, hcb, hc1, hb1⟩
  have hS0 := Side.start hc1
  have H2 := hide (l4bent_any B cb w1 hc1)
  clear H1 hc1
  go_wp2_with fail
  refine (unhide H2).mono ?_
  rintro e w2 ⟨A2, c2, zs, rfl, hl, hI, hc2, hg2⟩
  have hb2 := (hS0.drawn hc2 hg2).under hb1 hcb
  have hI2 := hI.low hb1.size
  have HL := hide hl
  clear H2 hS0 hl hI hc2 hg2
  go_wp2
  go_ret
  exact DrewI.mk hI2 (unhide HL) hb2

set_option maxHeartbeats 800000 in
theorem l4two_any (A : Option Addr) (n c B : Nat) (bs : List UInt8) (w : World) (hr : Reads w B A n (u8s bs)) (hn : n ≤ 1048576) (hB : B ≤ w.heap.size) :
    Calls Try.prog 32 #[.slice A n c] w (DrewII w 9) := by
  have H1 := hide (new_any A n c B bs w hr hn hB)
  clear hr
  go_enter Try.func32, Try.ntmps32
  go_wp2_with fail
  refine (unhide H1).mono ?_
  rintro e w1 ⟨cb, rfl, hcb, hc1, hb1⟩
  have hS1 := Side.start hc1
  have H2 := hide (below_any B cb 6 (by omega) w1 hc1)
  have hsz1 := hb1.size
  clear H1 hc1
  go_wp2_with fail
  refine (unhide H2).mono ?_
  rintro e w2 ⟨v, rfl, ⟨y, rfl, hy0, hy1⟩, hc2, hg2⟩
  rw [if_pos (by omega)] at hy1
  obtain ⟨m, rfl⟩ : ∃ m : Nat, y = m := ⟨y.toNat, by omega⟩
  have hm : m ≤ 9 := by omega
  have hS2 := hS1.drawn hc2 hg2
  have H3 := hide (l2draw_any B cb m (by omega) w2 hc2)
  clear H2 hS1 hc2 hg2 hy0 hy1
  go_wp2_with fail
  refine (unhide H3).mono ?_
  rintro e w3 ⟨A3, c3, p, rfl, hl, hown, hc3, hg3⟩
  have hS3 := hS2.drawn hc3 hg3
  have hp3 := (Ints.of_own hown).low hS2.size
  have HP := hide (hl.more hm)
  have H4 := hide (once_any B cb 12 (by omega) w3 hc3)
  clear H3 hS2 hown hl hc3 hg3
  go_wp2_with fail
  refine (unhide H4).mono ?_
  rintro e w4 ⟨v, rfl, ⟨b, rfl⟩, hc4, hg4⟩
  have hS4 := hS3.drawn hc4 hg4
  have hp4 := hp3.drawn hg4 hS3.lt
  have H5 := hide (l2bent_any B cb w4 hc4)
  have H6 := hide (below_any B cb 5 (by omega) w4 hc4)
  clear H4 hS3 hp3 hc4 hg4
  cases b with
  | true =>
    clear H6
    go_wp2_with fail
    refine (unhide H5).mono ?_
    rintro e w5 ⟨A5, c5, q, rfl, hl, hI, hc5, hg5⟩
    have hb5 := (hS4.drawn hc5 hg5).under hb1 hcb
    have hp5 := (hp4.drawn hg5 hS4.lt).low hsz1
    have hq5 := (hI.low hS4.size).low hsz1
    have HQ := hide hl
    clear H5 hS4 hp4 hl hI hc5 hg5
    go_wp2
    go_ret2
    exact DrewII.mk hp5 hq5 (unhide HP) (unhide HQ) hb5
  | false =>
    clear H5
    go_wp2_with fail
    refine (unhide H6).mono ?_
    rintro e w5 ⟨v, rfl, ⟨y, rfl, hy0, hy1⟩, hc5, hg5⟩
    rw [if_pos (by omega)] at hy1
    obtain ⟨m2, rfl⟩ : ∃ m : Nat, y = m := ⟨y.toNat, by omega⟩
    have hm2 : m2 ≤ 9 := by omega
    have hS5 := hS4.drawn hc5 hg5
    have hp5 := hp4.drawn hg5 hS4.lt
    have H7 := hide (l2draw_any B cb m2 (by omega) w5 hc5)
    clear H6 hS4 hp4 hc5 hg5 hy0 hy1
    go_wp2_with fail
    refine (unhide H7).mono ?_
    rintro e w6 ⟨A6, c6, q, rfl, hl, hown, hc6, hg6⟩
    have hb6 := (hS5.drawn hc6 hg6).under hb1 hcb
    have hp6 := (hp5.drawn hg6 hS5.lt).low hsz1
    have hq6 := ((Ints.of_own hown).low hS5.size).low hsz1
    have HQ := hide (hl.more hm2)
    clear H7 hS5 hp5 hl hown hc6 hg6
    go_wp2
    go_ret2
    exact DrewII.mk hp6 hq6 (unhide HP) (unhide HQ) hb6

theorem dsum_any (A : Option Addr) (n c B : Nat) (bs : List UInt8) (w : World) (hr : Reads w B A n (u8s bs)) (hn : n ≤ 1048576) (hB : B ≤ w.heap.size) :
    Calls Try.prog 9 #[.slice A n c] w (DrewII w 9) := by
  have H1 := hide (l4two_any A n c B bs w hr hn hB)
  clear hr
  go_enter Try.func9, Try.ntmps9
  go_wp2_with fail
  refine (unhide H1).mono ?_
  rintro e w1 ⟨A1, c1, p, A2, c2, q, rfl, hl, hl', hp, hq, hb⟩
  have HL := hide hl
  have HL' := hide hl'
  clear H1 hl hl'
  go_wp2
  go_ret2
  exact DrewII.mk hp hq (unhide HL) (unhide HL') hb

theorem djoin_any (A : Option Addr) (n c B : Nat) (bs : List UInt8) (w : World) (hr : Reads w B A n (u8s bs)) (hn : n ≤ 1048576) (hB : B ≤ w.heap.size) :
    Calls Try.prog 14 #[.slice A n c] w (DrewSB w) := by
  have H1 := hide (new_any A n c B bs w hr hn hB)
  clear hr
  go_enter Try.func14, Try.ntmps14
  go_wp2_with fail
  refine (unhide H1).mono ?_
  rintro e w1 ⟨cb, rfl, hcb, hc1, hb1⟩
  have hS1 := Side.start hc1
  have H2 := hide (l3list_any B cb w1 hc1)
  clear H1 hc1
  go_wp2_with fail
  refine (unhide H2).mono ?_
  rintro e w2 ⟨A2, c2, zss, rfl, hn4, hl, hI, hc2, hg2⟩
  have hS2 := hS1.drawn hc2 hg2
  have H3 := hide (once_any B cb 2 (by omega) w2 hc2)
  have HL := hide hl
  have hlt := hS1.lt
  have hsz := hb1.size
  clear H2 hS1 hl hc2 hg2
  go_wp2_with fail
  refine (unhide H3).mono ?_
  rintro e w3 ⟨v, rfl, ⟨b, rfl⟩, hc3, hg3⟩
  have hb3 := (hS2.drawn hc3 hg3).under hb1 hcb
  have hI3 := (hI.drawn hg3 hlt).low hsz
  clear H3 hS2 hI hc3 hg3
  go_wp2
  go_ret2
  exact ⟨A2, c2, zss, b, rfl, hn4, unhide HL, hI3, hb3⟩

set_option maxHeartbeats 1600000 in
theorem dlayer_any (A : Option Addr) (n c B : Nat) (bs : List UInt8) (w : World) (hr : Reads w B A n (u8s bs)) (hn : n ≤ 1048576) (hB : B ≤ w.heap.size) :
    Calls Try.prog 17 #[.slice A n c] w (DrewI w 9) := by
  have H1 := hide (new_any A n c B bs w hr hn hB)
  clear hr
  go_enter Try.func17, Try.ntmps17
  go_wp2_with fail
  refine (unhide H1).mono ?_
  rintro e w1 ⟨cb, rfl, hcb, hc1, hb1⟩
  have hS1 := Side.start hc1
  have H2 := hide (once_any B cb 2 (by omega) w1 hc1)
  have hsz1 := hb1.size
  clear H1 hc1
  go_wp2_with fail
  refine (unhide H2).mono ?_
  rintro e w2 ⟨v, rfl, ⟨b, rfl⟩, hc2, hg2⟩
  have hS2 := hS1.drawn hc2 hg2
  clear H2 hS1 hg2
  cases b with
  | false =>
    have H3 := hide (l2bent_any B cb w2 hc2)
    clear hc2
    go_wp2_with fail
    refine (unhide H3).mono ?_
    rintro e w3 ⟨A3, c3, zs, rfl, hl, hI, hc3, hg3⟩
    have hb3 := (hS2.drawn hc3 hg3).under hb1 hcb
    have hI3 := (hI.low hS2.size).low hsz1
    have HL := hide hl
    clear H3 hS2 hl hI hc3 hg3
    go_wp2
    go_ret
    exact DrewI.mk hI3 (unhide HL) hb3
  | true =>
    have hI0 := IntsS.made0 w2 w1.heap.size hS2.size
    have hS3 := hS2.below ((Below.refl w2.heap.size w2).alloc (Nat.le_refl _) (.cells #[] 24))
    clear hS2 hc2
    go_wp2
    go_loopw [4, 5] (fun v i wr => ∃ (k : Nat) (zss : List (List Int)), k ≤ 3 ∧ i = .int .i64 k ∧ zss.length = k ∧ IntsS wr w1.heap.size v zss ∧ Hid (∀ z ∈ zss, isP z = true) ∧ Side B cb w1 wr) (fun _ i _ => 3 - (intOf i).toNat)
    case atStart => exact ⟨0, [], by omega, rfl, rfl, hI0, fun z hz => by simp at hz, hS3⟩
    case round =>
      obtain ⟨k, zss, hk, rfl, hzl, hI, hL, hS⟩ := hrel
      clear hI0 hS3
      obtain ⟨A4, c4, rfl⟩ := hI.slice
      by_cases hlt : k < 3
      · have H3 := hide (below_any B cb 3 (by omega) wr hS.cur)
        have hlt' : (k : Int) < 3 := by omega
        have HZL := hide hzl
        clear hzl
        go_wp2_with fail
        refine (unhide H3).mono ?_
        rintro e w3 ⟨v, rfl, ⟨y, rfl, hy0, hy1⟩, hc3, hg3⟩
        rw [if_pos (by omega)] at hy1
        obtain ⟨m, rfl⟩ : ∃ m : Nat, y = m := ⟨y.toNat, by omega⟩
        have hm : m ≤ 8 := by omega
        have hS4 := hS.drawn hc3 hg3
        have hI3 := hI.drawn hg3 hS.lt
        have H4 := hide (sid_any (m : Int) (by omega) w3)
        rw [idR_nat' hm] at H4
        clear H3 hS hI hc3 hg3 hy0 hy1
        go_wp2_with fail
        refine (unhide H4).mono ?_
        rintro e w5 ⟨A5, c5, rfl, own5, hb5⟩
        have hP := isP_upTo' hm
        have H5 := hide (l3rev_any A5 _ c5 _ _ w5 (own5.argP hP))
        have hS5 := hS4.below hb5
        have hI5 := hI3.below hb5
        clear H4 hS4 hI3 own5 hb5
        go_wp2_with fail
        refine (unhide H5).mono ?_
        rintro e w6 ⟨A6, c6, rfl, own6, hb6⟩
        rw [List.length_reverse, upTo_length] at own6 ⊢
        have hF : Fresh w6 w1.heap.size (.slice A4 zss.length c4) zss (.slice A6 m c6) := by
          obtain ⟨vs, h1, h2⟩ := hI5
          exact ⟨vs, own_below h1 hb6, h2.keepI (KeepI.of_below hb6), h2.away_new own6.since (Nat.le_refl _)⟩
        have hS6 := hS5.below hb6
        have hu6 := own6.low hS5.size
        have hlen : zss.length ≤ 1048576 := by have := unhide HZL; omega
        have hL2 := hide (show ∀ z ∈ zss ++ [(upTo m).reverse], isP z = true from fun z hz => by
          rcases List.mem_append.1 hz with hz | hz
          · exact unhide hL z hz
          · rw [List.mem_singleton] at hz; subst hz; exact isP_rev hP)
        have hsz := hS6.size
        clear H5 hI5 hS5 own6 hb6 hP hL
        go_wp2_with (first
          | (at_builtin; refine wpList_push_fresh rfl (.tmp 17) (.tmp 22) rfl w1.heap.size w6 _ _ zss _ rfl rfl rfl hF hu6 hlen hsz ?_))
        intro v7 w7 hI7 hb7
        have hS7 := hS6.low hb7
        have hlen7 : (zss ++ [(upTo m).reverse]).length = k + 1 := by rw [List.length_append, unhide HZL]; rfl
        clear hF hu6 hS6 hb7
        go_wp2
        go_roundw
        case rel => exact ⟨k + 1, _, by omega, by go_num, hlen7, hI7, hL2, hS7⟩
        case measure => simp [intOf]; omega
      · obtain rfl : k = 3 := by omega
        have H6 := hide (sjoins_any _ zss.length c4 _ false zss wr hI (by omega) (fun z hz => ⟨by have := isP_le (unhide hL z hz); omega, isP_small (unhide hL z hz)⟩))
        have HZL := hide hzl
        clear hI hzl
        go_wp2_with fail
        refine (unhide H6).mono ?_
        rintro e w7 ⟨A7, c7, rfl, own7, hb7⟩
        have hb8 := (hS.below hb7).under hb1 hcb
        have own8 := (own7.low hS.size).low hsz1
        have HL := hide (joinsR_lite false zss)
        clear H6 hS own7 hb7
        go_wp2
        go_ret
        exact DrewI.mk own8 (unhide HL) hb8
end Go.Proofs.Ytoiipedomgefaaa


/-
  laws.sameInts, laws.sameLists, at equal lists, by their contracts.
-/

namespace Go.Proofs.Ytoiipedomgefaaa
set_option maxRecDepth 100000
open Go.RowKit

set_option maxHeartbeats 400000 in
/-- laws.sameInts: equal lists. -/
theorem samei_any (A A' : Option Addr) (n c n' c' B B' : Nat) (zs : List Int) (w : World) (hr : Reads w B A n (i64s zs)) (hr' : Reads w B' A' n' (i64s zs)) (hn : n ≤ 1099511627776) :
    Calls Try.prog 21 #[.slice A n c, .slice A' n' c'] w fun e w' => e = .returned (.bool true) ∧ Drew w w' := by
  have e1 : zs.length = n := by have := hr.1; rwa [i64_length] at this
  have e2 : zs.length = n' := by have := hr'.1; rwa [i64_length] at this
  obtain rfl : n = n' := by omega
  clear e1 e2
  go_enter Try.func21, Try.ntmps21
  go_wp2
  go_loopw [5] (fun i wr => ∃ k : Nat, k ≤ n ∧ i = .int .i64 k ∧ Drew w wr) (fun i _ => n - (intOf i).toNat)
  case atStart => exact ⟨0, Nat.zero_le _, rfl, Drew.refl _⟩
  case round =>
    obtain ⟨k, hk, rfl, hd⟩ := hrel
    by_cases hlt : k < n
    · obtain ⟨ad, u, rfl, _, hx, hc⟩ := (hr.ofDrew hd).at_ hlt
      obtain ⟨ad', u', rfl, _, hx', hc'⟩ := (hr'.ofDrew hd).at_ hlt
      obtain ⟨s, hs, rfl⟩ := i64_at hx
      obtain ⟨s', hs', rfl⟩ := i64_at hx'
      obtain rfl : s = s' := by rw [hs] at hs'; exact Option.some.inj hs'
      clear hx hx' hs hs' hr hr'
      have HD := hide hd
      clear hd
      go_wp2
      go_quiet (fail)
      go_wp2
      go_roundw
      case rel => exact ⟨k + 1, by omega, by go_num, (unhide HD).more _⟩
      case measure => simp [intOf]; omega
    · go_wp2
      go_ret
      exact ⟨rfl, hd⟩

set_option maxHeartbeats 400000 in
/-- laws.sameLists: equal lists of rows. -/
theorem samess_any (A A' : Option Addr) (n c n' c' B B' : Nat) (zss : List (List Int)) (w : World) (hr : IntsS w B (.slice A n c) zss) (hr' : IntsS w B' (.slice A' n' c') zss) (hn : n ≤ 1048576) (ht : tot zss ≤ 1099511627776) :
    Calls Try.prog 18 #[.slice A n c, .slice A' n' c'] w fun e w' => e = .returned (.bool true) ∧ Drew w w' := by
  have e1 := hr.len
  have e2 := hr'.len
  obtain rfl : n = n' := by omega
  have HE := hide e1
  clear e1 e2
  go_enter Try.func18, Try.ntmps18
  go_wp2
  go_loopw [5] (fun i wr => ∃ k : Nat, k ≤ n ∧ i = .int .i64 k ∧ Drew w wr) (fun i _ => n - (intOf i).toNat)
  case atStart => exact ⟨0, Nat.zero_le _, rfl, Drew.refl _⟩
  case round =>
    obtain ⟨k, hk, rfl, hd⟩ := hrel
    by_cases hlt : k < n
    · obtain ⟨ad, A1, c1, zs, rfl, hz, hc, hI⟩ := (hr.below (hd.below _)).at_ hlt
      obtain ⟨ad', A1', c1', zs', rfl, hz', hc', hI'⟩ := (hr'.below (hd.below _)).at_ hlt
      obtain rfl : zs = zs' := by rw [hz] at hz'; exact Option.some.inj hz'
      have hle := tot_at hz
      have HD := hide hd
      have H1 := hide hI.reads
      have H2 := hide hI'.reads
      clear hz hz' hd hI hI' hr hr'
      go_wp2
      go_quiet ((go_at_call 21; exact Calls.quiet_of (samei_any _ _ _ _ _ _ _ _ zs _ ((unhide H1).drewN _) ((unhide H2).drewN _) (by omega))))
      go_wp2
      go_roundw
      case rel => exact ⟨k + 1, by omega, by go_num, (unhide HD).more _⟩
      case measure => simp [intOf]; omega
    · go_wp2
      go_ret
      exact ⟨rfl, hd⟩
end Go.Proofs.Ytoiipedomgefaaa


/-
  PLAIN: the parts of a sum, joined, are the sum; no permutation is a sum and a skew sum; parts of a sum of two.
-/

namespace Go.Proofs.Ytoiipedomgefaaa
set_option maxRecDepth 100000

theorem most_from : ∀ (l : List Int) (a : Int), a ≤ l.foldl max a ∧ (∀ x ∈ l, x ≤ l.foldl max a) ∧ (l.foldl max a = a ∨ l.foldl max a ∈ l)
  | [], a => ⟨Int.le_refl _, fun x hx => by simp at hx, .inl rfl⟩
  | y :: l, a => by
    obtain ⟨h1, h2, h3⟩ := most_from l (max a y)
    rw [List.foldl_cons]
    refine ⟨by omega, fun x hx => ?_, ?_⟩
    · rcases List.mem_cons.1 hx with rfl | hx
      · omega
      · exact h2 x hx
    · rcases h3 with h3 | h3
      · by_cases h : a ≤ y
        · right; rw [h3, show max a y = y by omega]; simp
        · left; rw [h3]; omega
      · exact .inr (List.mem_cons_of_mem _ h3)
theorem le_most {l : List Int} {x : Int} (h : x ∈ l) : x ≤ most l := (most_from l 0).2.1 x h
theorem most_mem {l : List Int} : most l = 0 ∨ most l ∈ l := (most_from l 0).2.2
theorem most_isP {p : List Int} (h : isP p = true) : most p = p.length := by
  obtain ⟨_, hr, hn⟩ := isP_true.1 h
  have h1 : most p ≤ p.length := by
    rcases most_mem (l := p) with e | e
    · omega
    · exact (hr _ e).2
  by_cases h0 : p.length = 0
  · have := (most_from p 0).1; unfold most; unfold most at h1; omega
  · have h2 := (nodup_iff_all hr).1 hn (p.length - 1) (by omega)
    have h3 := le_most h2
    omega
/-- At a cut the numbers so far are a permutation. -/
theorem cut_isP {p : List Int} (h : isP p = true) {j : Nat} (hj : j ≤ p.length) (hc : most (p.take j) = j) : isP (p.take j) = true := by
  obtain ⟨h8, hr, hn⟩ := isP_true.1 h
  refine isP_true.2 ⟨by rw [List.length_take]; omega, fun x hx => ?_, ?_⟩
  · rw [List.length_take, Nat.min_eq_left hj]
    exact ⟨(hr x (List.mem_of_mem_take hx)).1, by rw [← hc]; exact le_most hx⟩
  · exact nodup_cut (a := 0) hn (b := j)
theorem cnt_app (a b : List Int) (v : Int) : cnt (a ++ b) v = cnt a v + cnt b v := by unfold cnt; rw [List.filter_append, List.length_append]
theorem cnt_upTo (n : Nat) (v : Int) (h1 : 1 ≤ v) (h2 : v ≤ n) : (cnt (upTo n) v : Int) = v - 1 := by
  have : ∀ k : Nat, (cnt (upTo k) v : Int) = min (v - 1) k := fun k => by
    induction k with
    | zero =>
      have : cnt (upTo 0) v = 0 := rfl
      rw [this]; omega
    | succ k ih =>
      rw [upTo_step, cnt_snoc]
      by_cases h : (k : Int) + 1 < v
      · rw [if_pos h]; omega
      · rw [if_neg h]; omega
  rw [this n]; omega
theorem perm_upTo {l : List Int} (h : isP l = true) : l.Perm (upTo l.length) := by
  obtain ⟨_, hr, hn⟩ := isP_true.1 h
  refine (List.perm_ext_iff_of_nodup hn (upTo_nodup _)).2 fun x => ⟨fun hx => mem_upTo.2 (hr x hx), fun hx => ?_⟩
  obtain ⟨h1, h2⟩ := mem_upTo.1 hx
  have := (nodup_iff_all hr).1 hn (x - 1).toNat (by omega)
  rwa [show (((x - 1).toNat : Nat) : Int) + 1 = x by omega] at this
theorem cnt_isP {l : List Int} (h : isP l = true) {v : Int} (hv : v ∈ l) : (cnt l v : Int) = v - 1 := by
  obtain ⟨h1, h2⟩ := (isP_true.1 h).2.1 v hv
  have e : cnt l v = cnt (upTo l.length) v := by unfold cnt; exact ((perm_upTo h).filter _).length_eq
  rw [e]
  exact cnt_upTo _ _ h1 h2
theorem cnt_all {l : List Int} {v : Int} (h : ∀ x ∈ l, x < v) : cnt l v = l.length := by
  unfold cnt
  rw [List.filter_eq_self.2 (fun x hx => by simpa using h x hx)]
/-- The pattern of a part, raised to where it began, is the part. -/
theorem part_back {p : List Int} (h : isP p = true) {f k : Nat} (hfk : f ≤ k) (hk : k < p.length) (hf : most (p.take f) = f) (hc : most (p.take (k + 1)) = (k : Int) + 1) :
    (patL ((p.drop f).take (k + 1 - f))).map (fun v => v + (f : Int)) = (p.drop f).take (k + 1 - f) := by
  obtain ⟨seg, hseg⟩ : ∃ seg, seg = (p.drop f).take (k + 1 - f) := ⟨_, rfl⟩
  rw [← hseg]
  have hsplit : p.take (k + 1) = p.take f ++ seg := by
    rw [hseg, ← List.drop_take, show p.take f = (p.take (k + 1)).take f by rw [List.take_take, Nat.min_eq_left (by omega)], List.take_append_drop]
  have h1 := cut_isP h (j := f) (by omega) hf
  have h2 := cut_isP h (j := k + 1) (by omega) (by rw [hc]; omega)
  have hn := (isP_true.1 h2).2.2
  rw [hsplit] at hn
  have hdis := (List.nodup_append.1 hn).2.2
  unfold patL
  rw [List.map_map]
  refine (List.map_congr_left fun v hv => ?_).trans (List.map_id _)
  simp only [Function.comp, id]
  have hv2 : v ∈ p.take (k + 1) := by rw [hsplit]; exact List.mem_append_right _ hv
  have e1 := cnt_isP h2 hv2
  rw [hsplit, cnt_app] at e1
  have hfl : (p.take f).length = f := by rw [List.length_take]; omega
  have hbig : ∀ x ∈ p.take f, x < v := fun x hx => by
    have hxf := (isP_true.1 h1).2.1 x hx
    rw [hfl] at hxf
    have hvpos := ((isP_true.1 h2).2.1 v hv2).1
    by_cases hvf : v ≤ (f : Int)
    · have hin := (nodup_iff_all (isP_true.1 h1).2.1).1 (isP_true.1 h1).2.2 (v - 1).toNat (by rw [hfl]; omega)
      rw [show (((v - 1).toNat : Nat) : Int) + 1 = v by omega] at hin
      exact absurd rfl (hdis v hin v hv)
    · omega
  rw [cnt_all hbig, hfl] at e1
  omega
theorem prt_cut {p : List Int} (h : isP p = true) : ∀ k, k ≤ p.length → most (p.take (frm p k)) = (frm p k : Int) ∧ joinAll false (prt p k) = p.take (frm p k)
  | 0, _ => by simp [frm, prt, most, joinAll]
  | k + 1, hk => by
    obtain ⟨h1, h2⟩ := prt_cut h k (by omega)
    by_cases hc : most (p.take (k + 1)) = (k : Int) + 1
    · rw [frm_yes hc, prt_yes hc]
      refine ⟨by rw [hc]; omega, ?_⟩
      rw [joinAll_snoc, h2]
      have hfk := frm_le p k
      have hb := part_back h hfk (by omega) h1 hc
      have hfl : (p.take (frm p k)).length = frm p k := by rw [List.length_take]; omega
      simp only [joinL, Bool.false_eq_true, if_false, hfl]
      rw [hb, ← List.drop_take, show p.take (frm p k) = (p.take (k + 1)).take (frm p k) by rw [List.take_take, Nat.min_eq_left (by omega)], List.take_append_drop]
    · rw [frm_no hc, prt_no hc]
      exact ⟨h1, h2⟩
theorem frm_full {p : List Int} (h : isP p = true) : frm p p.length = p.length := by
  cases hn : p.length with
  | zero => rfl
  | succ n =>
    refine frm_yes ?_
    rw [← hn, List.take_length, most_isP h]; omega
theorem join_parts {p : List Int} (h : isP p = true) : joinAll false (partsR p) = p := by
  rw [partsR_yes h, (prt_cut h p.length (Nat.le_refl _)).2, frm_full h, List.take_length]
theorem parts_fit (p : List Int) : allFit (partsR p) = true := allFit_yes (fun _ hz => partsR_isP hz) (partsR_small p).2
theorem skews_fit (p : List Int) : allFit (skewsR p) = true := allFit_yes (fun _ hz => skewsR_isP hz) (skewsR_small p).2
theorem joins_parts {p : List Int} (h : isP p = true) : joinsR false (partsR p) = p := by rw [joinsR_yes (parts_fit p), join_parts h]
theorem cpl_cpl (p : List Int) : cplL (cplL p) = p := by
  unfold cplL
  rw [List.map_map, List.length_map]
  refine (List.map_congr_left fun v _ => ?_).trans (List.map_id _)
  simp only [Function.comp, id]
  omega
theorem cpl_join (a b : List Int) : joinL true (cplL a) (cplL b) = cplL (joinL false a b) := by
  simp only [joinL, if_true, Bool.false_eq_true, if_false, cplL_length]
  unfold cplL
  rw [List.map_append, List.map_map, List.map_map, List.length_append, List.length_map]
  congr 1
  · refine List.map_congr_left fun v _ => ?_
    simp only [Function.comp]; omega
  · refine List.map_congr_left fun v _ => ?_
    simp only [Function.comp]; omega
theorem cpl_joins (l : List (List Int)) : joinAll true (l.map cplL) = cplL (joinAll false l) := by
  have : ∀ (l : List (List Int)) (a : List Int), (l.map cplL).foldl (joinL true) (cplL a) = cplL (l.foldl (joinL false) a) := fun l => by
    induction l with
    | nil => intro a; rfl
    | cons z l ih => intro a; rw [List.map_cons, List.foldl_cons, List.foldl_cons, cpl_join, ih]
  exact this l []
theorem joins_skews {p : List Int} (h : isP p = true) : joinsR true (skewsR p) = p := by
  rw [joinsR_yes (skews_fit p), skewsR_yes h, cpl_joins, join_parts (isP_cpl h), cpl_cpl]
/-- Two parts: there is a cut in between. -/
theorem cut_between {p : List Int} (h : 1 < (prt p p.length).length) : ∃ j, 0 < j ∧ j < p.length ∧ most (p.take j) = j := by
  have hno : ∀ k, (∀ j, 0 < j → j ≤ k → most (p.take j) ≠ j) → prt p k = [] := fun k => by
    induction k with
    | zero => intro _; rfl
    | succ k ih =>
      intro hk
      have : ¬ most (p.take (k + 1)) = (k : Int) + 1 := fun e => hk (k + 1) (by omega) (Nat.le_refl _) (by rw [e]; omega)
      rw [prt_no this]
      exact ih fun j h1 h2 => hk j h1 (by omega)
  cases hn : p.length with
  | zero => rw [hn] at h; simp [prt] at h
  | succ n =>
    rw [hn] at h
    by_cases hall : ∀ j, 0 < j → j ≤ n → most (p.take j) ≠ j
    · have e := hno n hall
      rw [prt, e] at h
      split at h <;> simp at h
    · have : ∃ j, 0 < j ∧ j ≤ n ∧ most (p.take j) = j := by
        refine Classical.byContradiction fun hc => hall fun j h1 h2 e => hc ⟨j, h1, h2, e⟩
      obtain ⟨j, h1, h2, h3⟩ := this
      exact ⟨j, h1, by omega, h3⟩
theorem not_both {p : List Int} (h1 : 1 < (partsR p).length) (h2 : 1 < (skewsR p).length) : False := by
  cases h : isP p with
  | false => rw [partsR_no h] at h1; simp at h1
  | true =>
    rw [partsR_yes h] at h1
    rw [skewsR_yes h, List.length_map, partsR_yes (isP_cpl h)] at h2
    obtain ⟨j, hj0, hjn, hjc⟩ := cut_between h1
    obtain ⟨i, hi0, hin, hic⟩ := cut_between h2
    rw [cplL_length] at hin
    have a1 := cut_isP h (Nat.le_of_lt hjn) hjc
    have a2 := cut_isP (isP_cpl h) (by rw [cplL_length]; omega) hic
    have lj : (p.take j).length = j := by rw [List.length_take]; omega
    have li : ((cplL p).take i).length = i := by rw [List.length_take, cplL_length]; omega
    have one_j : (1 : Int) ∈ p.take j := by
      have := (nodup_iff_all (isP_true.1 a1).2.1).1 (isP_true.1 a1).2.2 0 (by omega)
      simpa using this
    have top_j : ∀ x ∈ p.take j, x ≤ (j : Int) := fun x hx => by have := ((isP_true.1 a1).2.1 x hx).2; rwa [lj] at this
    have emap : (cplL p).take i = (p.take i).map fun v => (p.length : Int) + 1 - v := by unfold cplL; rw [List.map_take]
    have top_i : (p.length : Int) ∈ p.take i := by
      have := (nodup_iff_all (isP_true.1 a2).2.1).1 (isP_true.1 a2).2.2 0 (by omega)
      rw [emap] at this
      obtain ⟨v, hv, e⟩ := List.mem_map.1 this
      rwa [show v = (p.length : Int) by omega] at hv
    have one_i : (1 : Int) ∉ p.take i := fun hx => by
      have h3 : (p.length : Int) + 1 - 1 ∈ (cplL p).take i := by rw [emap]; exact List.mem_map.2 ⟨1, hx, rfl⟩
      have := ((isP_true.1 a2).2.1 _ h3).2
      rw [li] at this
      omega
    by_cases hij : j ≤ i
    · exact one_i (by rw [show p.take j = (p.take i).take j by rw [List.take_take, Nat.min_eq_left hij]] at one_j; exact List.mem_of_mem_take one_j)
    · have := top_j _ (by rw [show p.take i = (p.take j).take i by rw [List.take_take, Nat.min_eq_left (by omega)]] at top_i; exact List.mem_of_mem_take top_i)
      omega
theorem most_map (c : Int) : ∀ (l : List Int) (a : Int), (l.map fun v => v + c).foldl max (a + c) = l.foldl max a + c
  | [], _ => rfl
  | y :: l, a => by
    rw [List.map_cons, List.foldl_cons, List.foldl_cons, show max (a + c) (y + c) = max a y + c by omega]
    exact most_map c l (max a y)
theorem parts_join {x y : List Int} (h : fit x y = true) : (partsR (joinR false x y)).length = (partsR x).length + (partsR y).length := by
  obtain ⟨hx, hy, _⟩ := fit_all h
  rw [joinR_yes h, partsR_yes (isP_join h), partsR_yes hx, partsR_yes hy, joinL_length]
  have es : joinL false x y = x ++ y.map (fun v => v + (x.length : Int)) := by simp [joinL]
  rw [es]
  obtain ⟨s, hs⟩ : ∃ s, s = x ++ y.map (fun v => v + (x.length : Int)) := ⟨_, rfl⟩
  rw [← hs]
  have h1 : ∀ k, k ≤ x.length → (prt s k).length = (prt x k).length := fun k => by
    induction k with
    | zero => intro _; rfl
    | succ k ih =>
      intro hk
      have e : s.take (k + 1) = x.take (k + 1) := by rw [hs, List.take_append_of_le_length hk]
      rw [prt, prt, e]
      split
      · rw [List.length_append, List.length_append, ih (by omega)]; rfl
      · exact ih (by omega)
  have h2 : ∀ j, j ≤ y.length → (prt s (x.length + j)).length = (prt x x.length).length + (prt y j).length := fun j => by
    induction j with
    | zero => intro _; rw [Nat.add_zero, h1 _ (Nat.le_refl _)]; rfl
    | succ j ih =>
      intro hj
      have e : s.take (x.length + j + 1) = x ++ (y.take (j + 1)).map (fun v => v + (x.length : Int)) := by
        rw [hs, Nat.add_assoc, List.take_append, List.take_of_length_le (by omega), Nat.add_sub_cancel_left, List.map_take]
      have em : most (s.take (x.length + j + 1)) = most (y.take (j + 1)) + (x.length : Int) := by
        rw [e]
        unfold most
        rw [List.foldl_append]
        have h3 : x.foldl max 0 = 0 + (x.length : Int) := by have := most_isP hx; unfold most at this; omega
        rw [h3]
        exact most_map _ _ 0
      rw [← Nat.add_assoc, prt, prt, em]
      by_cases hc : most (y.take (j + 1)) = (j : Int) + 1
      · rw [if_pos hc, if_pos (by rw [hc]; omega), List.length_append, List.length_append, ih (by omega)]
        simp only [List.length_singleton]; omega
      · rw [if_neg hc, if_neg (by omega)]
        exact ih (by omega)
  exact h2 y.length (Nat.le_refl _)
end Go.Proofs.Ytoiipedomgefaaa


/-
  spec.SumOf, spec.SkewSumOf, by their contracts. (Written by wip/tools/mkjoin.py.)
-/

namespace Go.Proofs.Ytoiipedomgefaaa
set_option maxRecDepth 100000
open Go.RowKit

theorem ssum_any (A A' : Option Addr) (n c B n' c' B' : Nat) (p q : List Int) (w : World) (h : Arg w B A n c p) (h' : Arg w B' A' n' c' q) :
    Calls Try.prog 11 #[.slice A n c, .slice A' n' c'] w (GivesIB w (joinR false p q) (fit p q)) := by
  obtain ⟨b, hb⟩ : ∃ b, fit p q = b := ⟨_, rfl⟩
  have H1 := hide (l4fit_any A A' n c B n' c' B' p q b hb w h h')
  cases b with
  | false =>
    rw [joinR_no hb, hb]
    clear hb h h'
    go_enter Try.func11, Try.ntmps11
    go_wp2_with fail
    refine (unhide H1).mono ?_
    rintro e w1 ⟨rfl, hd⟩
    have hb := hd.below w.heap.size
    clear hd H1
    go_wp2
    go_ret2
    exact GivesIB.mk false (Ints.made0 w1 w.heap.size hb.size) (hb.alloc hb.size _)
  | true =>
    have H2 := hide (fun w' (hb' : Below w.heap.size w w') => l4join_any A A' n c B n' c' B' false p q w' (h.below hb') (h'.below hb') hb)
    rw [joinR_yes hb, hb]
    clear hb h h'
    go_enter Try.func11, Try.ntmps11
    go_wp2_with fail
    refine (unhide H1).mono ?_
    rintro e w1 ⟨rfl, hd⟩
    have hb := hd.below w.heap.size
    have H3 := hide (unhide H2 w1 hb)
    clear hd H1 H2
    go_wp2_with fail
    refine (unhide H3).mono ?_
    rintro e w2 ⟨A2, c2, rfl, own2, hb2⟩
    clear H3
    go_wp2
    go_ret2
    exact GivesIB.mk true (own2.low hb.size) (below_after hb hb2)

theorem sskew_any (A A' : Option Addr) (n c B n' c' B' : Nat) (p q : List Int) (w : World) (h : Arg w B A n c p) (h' : Arg w B' A' n' c' q) :
    Calls Try.prog 13 #[.slice A n c, .slice A' n' c'] w (GivesIB w (joinR true p q) (fit p q)) := by
  obtain ⟨b, hb⟩ : ∃ b, fit p q = b := ⟨_, rfl⟩
  have H1 := hide (l4fit_any A A' n c B n' c' B' p q b hb w h h')
  cases b with
  | false =>
    rw [joinR_no hb, hb]
    clear hb h h'
    go_enter Try.func13, Try.ntmps13
    go_wp2_with fail
    refine (unhide H1).mono ?_
    rintro e w1 ⟨rfl, hd⟩
    have hb := hd.below w.heap.size
    clear hd H1
    go_wp2
    go_ret2
    exact GivesIB.mk false (Ints.made0 w1 w.heap.size hb.size) (hb.alloc hb.size _)
  | true =>
    have H2 := hide (fun w' (hb' : Below w.heap.size w w') => l4join_any A A' n c B n' c' B' true p q w' (h.below hb') (h'.below hb') hb)
    rw [joinR_yes hb, hb]
    clear hb h h'
    go_enter Try.func13, Try.ntmps13
    go_wp2_with fail
    refine (unhide H1).mono ?_
    rintro e w1 ⟨rfl, hd⟩
    have hb := hd.below w.heap.size
    have H3 := hide (unhide H2 w1 hb)
    clear hd H1 H2
    go_wp2_with fail
    refine (unhide H3).mono ?_
    rintro e w2 ⟨A2, c2, rfl, own2, hb2⟩
    clear H3
    go_wp2
    go_ret2
    exact GivesIB.mk true (own2.low hb.size) (below_after hb hb2)
end Go.Proofs.Ytoiipedomgefaaa


/-
  spec.SkewParts, impl.SkewParts, by their contracts.
-/

namespace Go.Proofs.Ytoiipedomgefaaa
set_option maxRecDepth 100000
open Go.RowKit

theorem map_take_snoc {l : List (List Int)} {k : Nat} {z : List Int} (h : l[k]? = some z) : (l.take (k + 1)).map cplL = (l.take k).map cplL ++ [cplL z] := by rw [take_snoc_r h, List.map_append]; rfl
/-- The list under way: k of the rows turned. -/
def halfC (l : List (List Int)) (k : Nat) : List (List Int) := (l.take k).map cplL ++ l.drop k
theorem halfC_zero (l : List (List Int)) : halfC l 0 = l := by simp [halfC]
theorem halfC_all (l : List (List Int)) : halfC l l.length = l.map cplL := by simp [halfC]
theorem halfC_at {l : List (List Int)} {k : Nat} {z : List Int} (h : l[k]? = some z) : (halfC l k)[k]? = some z := by
  have hk := (List.getElem?_eq_some_iff.1 h).1
  unfold halfC
  rw [List.getElem?_append_right (by simp; omega), List.getElem?_drop]
  simp only [List.length_map, List.length_take]
  rw [show min k l.length = k by omega, Nat.sub_self, Nat.add_zero]
  exact h
theorem halfC_set {l : List (List Int)} {k : Nat} {z : List Int} (h : l[k]? = some z) : (halfC l k).set k (cplL z) = halfC l (k + 1) := by
  have hk := (List.getElem?_eq_some_iff.1 h).1
  unfold halfC
  rw [map_take_snoc h, List.set_append, if_neg (by simp; omega), List.append_assoc]
  congr 1
  simp only [List.length_map, List.length_take]
  rw [show k - min k l.length = 0 by omega, List.drop_eq_getElem_cons hk, List.set_cons_zero]
  rfl

set_option maxHeartbeats 800000 in
theorem sskews_any (A : Option Addr) (n c B : Nat) (zs : List Int) (w : World) (h : Arg w B A n c zs) :
    Calls Try.prog 20 #[.slice A n c] w (GivesSS w (skewsR zs)) := by
  obtain ⟨b, hb⟩ : ∃ b, isP zs = b := ⟨_, rfl⟩
  have hI0 := IntsS.made0 w w.heap.size (Nat.le_refl _)
  have hbel := (Below.refl w.heap.size w).alloc (Nat.le_refl _) (.cells #[] 24)
  have H0 := hide (sisperm_any A n c B zs b hb _ (h.below hbel).reads h.le h.cap)
  cases b with
  | false =>
    rw [skewsR_no hb]
    clear hb h
    go_enter Try.func20, Try.ntmps20
    go_wp2_with fail
    refine (unhide H0).mono ?_
    rintro e w1 ⟨rfl, hd⟩
    have hb := hbel.trans (hd.below w.heap.size)
    have hI := hI0.below (hd.below _)
    clear hd H0 hI0 hbel
    go_wp2
    go_ret
    exact GivesSS.mk hI hb
  | true =>
    have H1 := hide (fun w' (hb' : Below w.heap.size w w') => l3cpl_any A n c B zs w' (h.below hb') hb)
    have HP := hide (isP_cpl hb)
    have HR := hide (skewsR_yes hb)
    have hsm := partsR_small (cplL zs)
    obtain ⟨ps, hps⟩ : ∃ ps, ps = partsR (cplL zs) := ⟨_, rfl⟩
    have hpP : ∀ z ∈ ps, isP z = true := fun z hz => partsR_isP (by rw [← hps]; exact hz)
    rw [← hps] at HR hsm
    have HPS := hide hps
    have HPP := hide hpP
    obtain ⟨hl8, _⟩ := hsm
    clear hb h hps hpP
    go_enter Try.func20, Try.ntmps20
    go_wp2_with fail
    refine (unhide H0).mono ?_
    rintro e w1 ⟨rfl, hd⟩
    have hb1 := hbel.trans (hd.below w.heap.size)
    have hI1 := hI0.below (hd.below _)
    have H2 := hide (unhide H1 w1 hb1)
    clear hd H0 hI0 hbel H1
    go_wp2_with fail
    refine (unhide H2).mono ?_
    rintro e w2 ⟨A2, c2, rfl, own2, hb2⟩
    have H3 := hide (sparts_any A2 _ c2 _ _ w2 (own2.argP (unhide HP)))
    have hI2 := hI1.below hb2
    have hb3 := below_after hb1 hb2
    clear H2 own2 hI1 hb2 hb1
    go_wp2_with fail
    refine (unhide H3).mono ?_
    rintro e w4 ⟨A4, c4, rfl, own4, hb4⟩
    clear H3
    have hI4 := hI2.below hb4
    have haw : Away (.slice A4 (partsR (cplL zs)).length c4) (.slice (some ⟨w.heap.size, 0, none⟩) 0 0) := by
      cases A4 with
      | none => exact .inl rfl
      | some a4 =>
        refine .inr fun e => ?_
        obtain ⟨ys, ho, _⟩ := own4
        have h5 := (ho.lt _ rfl).1
        have h6 : w.heap.size < w2.heap.size := by
          obtain ⟨xs, ho2, _⟩ := hI2
          exact (ho2.lt _ rfl).2
        have e2 : a4.block = w.heap.size := by simpa [Value.ownBlock] using e
        omega
    have hb5 := below_after hb3 hb4
    rw [← unhide HPS] at own4 haw ⊢
    clear hI2 hb3 hb4
    go_wp2
    go_loopw [3, 5] (fun v i wr => ∃ k : Nat, k ≤ ps.length ∧ i = .int .i64 k ∧ Below w.heap.size w wr ∧ IntsS wr w.heap.size v ((ps.take k).map cplL) ∧ IntsS wr w2.heap.size (.slice A4 ps.length c4) ps ∧ Away (.slice A4 ps.length c4) v) (fun _ i _ => ps.length - (intOf i).toNat)
    case atStart => exact ⟨0, Nat.zero_le _, rfl, hb5, hI4, own4, haw⟩
    case round =>
      obtain ⟨k, hk, rfl, hbw, hI, hL, ha⟩ := hrel
      clear hI4 own4 haw hb5
      by_cases hlt : k < ps.length
      · obtain ⟨ad, A1, c1, z, rfl, hz, hcell, hIz⟩ := hL.at_ hlt
        have hzP := unhide HPP z (List.mem_of_getElem? hz)
        have H6 := hide (l3cpl_any A1 z.length c1 _ z wr (hIz.argP hzP) hzP)
        have hnext := hide (map_take_snoc hz)
        have hsz := hbw.size
        have hln : ((ps.take k).map cplL).length ≤ 1048576 := by rw [List.length_map, List.length_take]; omega
        clear hz hIz hzP
        go_wp2_with fail
        refine (unhide H6).mono ?_
        rintro e w6 ⟨A6, c6, rfl, own6, hb6⟩
        clear H6
        have hb7 := below_after hbw hb6
        go_wp2_with (first
          | (at_builtin; refine wpList_push_row_at rfl (.tmp 20) (.tmp 26) rfl w.heap.size w wr w6 _ _ _ _ rfl rfl rfl hI hb6 own6 hln hb7 hsz ?_; intro v8 w8 hI8 hb8 hK8))
        obtain ⟨hL8, ha8⟩ := hK8 _ _ _ hL ha
        rw [← unhide hnext] at hI8
        clear hI hb6 own6 hb7 hbw hK8 hL ha hcell
        go_wp2
        go_roundw
        case rel => exact ⟨k + 1, by omega, by go_num, hb8, hI8, hL8, ha8⟩
        case measure => simp [intOf]; omega
      · obtain rfl : ps.length = k := by omega
        have hI2 : IntsS wr w.heap.size u3 (skewsR zs) := by rw [unhide HR]; rwa [List.take_length] at hI
        clear hI hL ha
        go_wp2
        go_ret
        exact GivesSS.mk hI2 hbw

set_option maxHeartbeats 800000 in
theorem iskews_any (A : Option Addr) (n c B : Nat) (zs : List Int) (w : World) (h : Arg w B A n c zs) :
    Calls Try.prog 8 #[.slice A n c] w (GivesSS w (skewsR zs)) := by
  obtain ⟨b, hb⟩ : ∃ b, isP zs = b := ⟨_, rfl⟩
  have H0 := hide (iisperm_any A n c B zs b hb w h.reads h.under h.le h.small)
  cases b with
  | false =>
    rw [skewsR_no hb]
    clear hb h
    go_enter Try.func8, Try.ntmps8
    go_wp2_with fail
    refine (unhide H0).mono ?_
    rintro e w1 ⟨rfl, hb⟩
    clear H0
    go_wp2
    go_ret
    exact GivesSS.mk (v := .slice none 0 0) (IntsS.nil _ _) hb
  | true =>
    have H1 := hide (fun w' (hb' : Below w.heap.size w w') => icpl_any A n c B zs w' (h.below hb'))
    rw [cplR_yes hb] at H1
    have HP := hide (isP_cpl hb)
    have HR := hide (skewsR_yes hb)
    have hsm := partsR_small (cplL zs)
    obtain ⟨ps, hps⟩ : ∃ ps, ps = partsR (cplL zs) := ⟨_, rfl⟩
    have hpP : ∀ z ∈ ps, isP z = true := fun z hz => partsR_isP (by rw [← hps]; exact hz)
    rw [← hps] at HR hsm
    have HPS := hide hps
    have HPP := hide hpP
    obtain ⟨hl8, _⟩ := hsm
    clear hb h hps hpP
    go_enter Try.func8, Try.ntmps8
    go_wp2_with fail
    refine (unhide H0).mono ?_
    rintro e w1 ⟨rfl, hb1⟩
    have H2 := hide (unhide H1 w1 hb1)
    clear H0 H1
    go_wp2_with fail
    refine (unhide H2).mono ?_
    rintro e w2 ⟨A2, c2, rfl, own2, hb2⟩
    have H3 := hide (iparts_any A2 _ c2 _ _ w2 (own2.argP (unhide HP)))
    have hb3 := below_after hb1 hb2
    clear H2 own2 hb2 hb1
    go_wp2_with fail
    refine (unhide H3).mono ?_
    rintro e w4 ⟨A4, c4, rfl, own4, hb4⟩
    clear H3
    have hb5 := below_after hb3 hb4
    have own5 := own4.low hb3.size
    rw [← unhide HPS] at own5 ⊢
    clear hb3 hb4 own4
    have hst : IntsS w4 w.heap.size (.slice A4 ps.length c4) (halfC ps 0) := by rw [halfC_zero]; exact own5
    clear own5
    go_wp2
    go_loopw [4, 5, 14] (fun _ _ i wr => ∃ k : Nat, k ≤ ps.length ∧ i = .int .i64 k ∧ Below w.heap.size w wr ∧ IntsS wr w.heap.size (.slice A4 ps.length c4) (halfC ps k)) (fun _ _ i _ => ps.length - (intOf i).toNat)
    case atStart => exact ⟨0, Nat.zero_le _, rfl, hb5, hst⟩
    case round =>
      obtain ⟨k, hk, rfl, hbw, hL⟩ := hrel
      clear hst hb5
      by_cases hlt : k < ps.length
      · obtain ⟨g, rfl⟩ := hL.shape (by omega)
        obtain ⟨ad, A1, c1, z, he, hz, hcell, hIz⟩ := hL.at_ hlt
        injection he with he
        subst he
        rw [show (⟨g, 0, none⟩ : Addr).add k = ⟨g, k, none⟩ by unfold Addr.add; split <;> simp_all] at hcell
        have hz2 : ps[k]? = some z := by
          have h9 : ps[k]? = some ps[k] := List.getElem?_eq_getElem hlt
          rw [halfC_at h9] at hz
          rw [h9, hz]
        have hzP := unhide HPP z (List.mem_of_getElem? hz2)
        have H6 := hide (icpl_any A1 z.length c1 _ z wr (hIz.argP hzP))
        rw [cplR_yes hzP] at H6
        have hnext := hide (halfC_set hz2)
        have hsz := hbw.size
        clear hz hz2 hIz hzP
        go_wp2_with fail
        refine (unhide H6).mono ?_
        rintro e w6 ⟨A6, c6, rfl, own6, hb6⟩
        clear H6
        have hb7 := below_after hbw hb6
        obtain ⟨⟨old, hold⟩, hfz, hge⟩ := (hL.below hb6).old (k := k) hlt
        have hL8 := hL.put (k := k) hb6 own6 hsz
        have hb8 := hb7.setCell (p := ⟨g, k, none⟩) hge (.slice A6 (cplL z).length c6)
        rw [unhide hnext] at hL8
        clear hbw hL hb6 own6 hb7 hge
        go_wp2
        go_roundw
        case rel => exact ⟨k + 1, by omega, by go_num, hb8, hL8⟩
        case measure => simp [intOf]; omega
      · obtain rfl : ps.length = k := by omega
        have hI2 : IntsS wr w.heap.size (.slice A4 ps.length c4) (skewsR zs) := by rw [unhide HR]; rwa [halfC_all] at hL
        clear hL
        go_wp2
        go_ret
        exact GivesSS.mk hI2 hbw
end Go.Proofs.Ytoiipedomgefaaa


/-
  laws.big, by its contract.
-/

namespace Go.Proofs.Ytoiipedomgefaaa
set_option maxRecDepth 100000
open Go.RowKit
theorem big_any (A : Option Addr) (n c : Nat) (hn : n ≤ 9223372036854775807) (w : World) :
    Calls Try.prog 5 #[.slice A n c] w fun e w' => e = .returned (.bool (decide (1048576 < n))) ∧ w = w' := by
  go_enter Try.func5, Try.ntmps5
  go_wp2
  go_ret
  exact ⟨ret_bool (by simp; omega), rfl⟩
end Go.Proofs.Ytoiipedomgefaaa
