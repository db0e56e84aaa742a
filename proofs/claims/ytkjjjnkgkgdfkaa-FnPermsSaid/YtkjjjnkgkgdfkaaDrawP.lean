
/-
  THE DRAWS OF CHAPTER 2: spec.DrawInversePerm, spec.l2Two, spec.DrawComposePerm, spec.DrawPatternOf, spec.l1Turned, spec.DrawParsePerm, spec.DrawIdentityPerm, spec.DrawPermsOf; laws.straight.
-/
import Derived.Test.YtkjjjnkgkgdfkaaDrawL
import Derived.Test.YtkjjjnkgkgdfkaaText
import Derived.Test.YtkjjjnkgkgdfkaaSame
import Derived.Deep.RegionHeld3
namespace Go.Proofs.Ytkjjjnkgkgdfkaa
set_option maxRecDepth 100000
open Go.RowKit

theorem dinv_any (A : Option Addr) (n c B : Nat) (bs : List UInt8) (w : World) (hr : Reads w B A n (u8s bs)) (hn : n ≤ 1048576) (hB : B ≤ w.heap.size) :
    Calls Try.prog 6 #[.slice A n c] w (DrewI w 9) := by
  have H1 := hide (new_any A n c B bs w hr hn hB)
  clear hr
  go_enter Try.func6, Try.ntmps6
  go_wp2_with fail
  refine (unhide H1).mono ?_
  rintro e w1 ⟨cb, rfl, hcb, hc1, hb1⟩
  have hS0 := Side.start hc1
  have H2 := hide (l2bent_any B cb w1 hc1)
  clear H1 hc1
  go_wp2_with fail
  refine (unhide H2).mono ?_
  rintro e w2 ⟨A2, c2, zs, rfl, hl, hI, hc2, hg2⟩
  have hb2 := (hS0.drawn hc2 hg2).under hb1 hcb
  have hI2 := hI.low hb1.size
  have HL := hide hl
  clear H2 hS0 hl hI hc2 hg2
  go_wp2
  go_ret
  exact DrewI.mk hI2 (unhide HL) hb2

set_option maxHeartbeats 800000 in
theorem l2two_any (A : Option Addr) (n c B : Nat) (bs : List UInt8) (w : World) (hr : Reads w B A n (u8s bs)) (hn : n ≤ 1048576) (hB : B ≤ w.heap.size) :
    Calls Try.prog 54 #[.slice A n c] w (DrewII w 9) := by
  have H1 := hide (new_any A n c B bs w hr hn hB)
  clear hr
  go_enter Try.func54, Try.ntmps54
  go_wp2_with fail
  refine (unhide H1).mono ?_
  rintro e w1 ⟨cb, rfl, hcb, hc1, hb1⟩
  have hS2 := Side.start hc1
  have H3 := hide (l2bent_any B cb w1 hc1)
  have hsz1 := hb1.size
  clear H1 hc1
  go_wp2_with fail
  refine (unhide H3).mono ?_
  rintro e w3 ⟨A3, c3, p, rfl, hl, hI, hc3, hg3⟩
  have hS3 := hS2.drawn hc3 hg3
  have hp3 := hI.low hS2.size
  have HP := hide hl
  have hp9 := hl.1
  have H4 := hide (once_any B cb 8 (by omega) w3 hc3)
  clear H3 hS2 hI hl hc3 hg3
  go_wp2_with fail
  refine (unhide H4).mono ?_
  rintro e w4 ⟨v, rfl, ⟨b, rfl⟩, hc4, hg4⟩
  have hS4 := hS3.drawn hc4 hg4
  have hp4 := hp3.drawn hg4 hS3.lt
  have H5 := hide (l2bent_any B cb w4 hc4)
  have H6 := hide (l2draw_any B cb p.length (by omega) w4 hc4)
  clear H4 hS3 hp3 hc4 hg4
  cases b with
  | true =>
    clear H6
    go_wp2_with fail
    refine (unhide H5).mono ?_
    rintro e w5 ⟨A5, c5, q, rfl, hl, hI, hc5, hg5⟩
    have hb5 := (hS4.drawn hc5 hg5).under hb1 hcb
    have hp5 := (hp4.drawn hg5 hS4.lt).low hsz1
    have hq5 := (hI.low hS4.size).low hsz1
    have HQ := hide hl
    clear H5 hS4 hp4 hl hI hc5 hg5
    go_wp2
    go_ret2
    exact DrewII.mk hp5 hq5 (unhide HP) (unhide HQ) hb5
  | false =>
    clear H5
    go_wp2_with fail
    refine (unhide H6).mono ?_
    rintro e w6 ⟨A6, c6, q, rfl, hl, hown, hc6, hg6⟩
    have hb6 := (hS4.drawn hc6 hg6).under hb1 hcb
    have hp6 := (hp4.drawn hg6 hS4.lt).low hsz1
    have hq6 := ((Ints.of_own hown).low hS4.size).low hsz1
    have HQ := hide (hl.more hp9)
    clear H6 hS4 hp4 hl hown hc6 hg6
    go_wp2
    go_ret2
    exact DrewII.mk hp6 hq6 (unhide HP) (unhide HQ) hb6

theorem dcomp_any (A : Option Addr) (n c B : Nat) (bs : List UInt8) (w : World) (hr : Reads w B A n (u8s bs)) (hn : n ≤ 1048576) (hB : B ≤ w.heap.size) :
    Calls Try.prog 9 #[.slice A n c] w (DrewII w 9) := by
  have H1 := hide (l2two_any A n c B bs w hr hn hB)
  clear hr
  go_enter Try.func9, Try.ntmps9
  go_wp2_with fail
  refine (unhide H1).mono ?_
  rintro e w1 ⟨A1, c1, p, A2, c2, q, rfl, hl, hl', hp, hq, hb⟩
  have HL := hide hl
  have HL' := hide hl'
  clear H1 hl hl'
  go_wp2
  go_ret2
  exact DrewII.mk hp hq (unhide HL) (unhide HL') hb

set_option maxHeartbeats 1600000 in
theorem dpat_any (A : Option Addr) (n c B : Nat) (bs : List UInt8) (w : World) (hr : Reads w B A n (u8s bs)) (hn : n ≤ 1048576) (hB : B ≤ w.heap.size) :
    Calls Try.prog 12 #[.slice A n c] w (DrewI w 9) := by
  obtain ⟨i0, hi, hz0, hz1, hz2⟩ := info_parts intInfo
  have H1 := hide (new_any A n c B bs w hr hn hB)
  clear hr
  go_enter Try.func12, Try.ntmps12
  go_wp2_with fail
  refine (unhide H1).mono ?_
  rintro e w1 ⟨cb, rfl, hcb, hc1, hb1⟩
  have hsz1 := hb1.size
  have hst := own0 w1 w1.heap.size (Nat.le_refl _)
  have hS1 := (Side.start hc1).below ((Below.refl w1.heap.size w1).alloc (Nat.le_refl _) (.cells #[] 3))
  have H2 := hide (below_any B cb 9 (by omega) _ hS1.cur)
  clear H1 hc1
  go_wp2_with fail
  refine (unhide H2).mono ?_
  rintro e w2 ⟨v, rfl, ⟨y, rfl, hy0, hy1⟩, hc2, hg2⟩
  rw [if_pos (by omega)] at hy1
  obtain ⟨m, rfl⟩ : ∃ m : Nat, y = m := ⟨y.toNat, by omega⟩
  have hm : m ≤ 8 := by omega
  have hS2 := hS1.drawn hc2 hg2
  have hst2 := own_drawn hst hg2 hS1.lt
  clear H2 hS1 hst hc2 hg2 hy0 hy1
  go_wp2
  go_loopw [4, 6] (fun v i wr => ∃ (k : Nat) (zs : List Int), k ≤ m ∧ i = .int .i64 k ∧ zs.length = k ∧ wr.ownsRow w1.heap.size 3 1 v k (i64s zs) ∧ Hid (Small zs) ∧ Side B cb w1 wr) (fun _ i _ => m - (intOf i).toNat)
  case atStart => exact ⟨0, [], Nat.zero_le _, rfl, rfl, hst2, small_nil, hS2⟩
  case round =>
    obtain ⟨k, zs, hk, rfl, hzl, hown, hsm, hS⟩ := hrel
    clear hst2 hS2
    by_cases hlt : k < m
    · have H3 := hide (below_any B cb 60 (by omega) wr hS.cur)
      have HZL := hide hzl
      clear hzl
      go_wp2_with fail
      refine (unhide H3).mono ?_
      rintro e w3 ⟨v, rfl, ⟨x, rfl, hx0, hx1⟩, hc3, hg3⟩
      rw [if_pos (by omega)] at hx1
      have hS3 := hS.drawn hc3 hg3
      have hown3 := own_drawn hown hg3 hS.lt
      clear H3 hS hown hc3 hg3
      go_wp2_with (first
        | (at_builtin; refine wpList_append_one rfl (.tmp 17) (.tmp 21) 24 rfl w1.heap.size 3 i0 (.int .i64 0) 8 Try.underlying24 hi hz0 hz1 hz2 rfl w3 w3 _ _ _ rfl hown3 (.int .i64 (x - 20)) rfl rfl rfl (by omega) (by unfold maxLen; omega) (Below.refl _ _) hS3.size ?_))
      intro v4 w4 hown4 hb4 _
      rw [i64_snoc2] at hown4
      have hS4 := hS3.low hb4
      have hsm4 := hide (show Small (zs ++ [x - 20]) from fun z hz => by
        rcases List.mem_append.1 hz with hz | hz
        · exact unhide hsm z hz
        · rw [List.mem_singleton] at hz; subst hz; omega)
      have hlen4 : (zs ++ [x - 20]).length = k + 1 := by rw [List.length_append, unhide HZL]; rfl
      clear hown3 hS3 hb4
      go_wp2
      go_roundw
      case rel => exact ⟨k + 1, _, by omega, by go_num, hlen4, hown4, hsm4, hS4⟩
      case measure => simp [intOf]; omega
    · obtain rfl : m = k := by omega
      subst hzl
      obtain ⟨A4, c4, rfl, _⟩ := Reads.of_own hown
      have HL := hide (show Lite 9 zs from ⟨by omega, unhide hsm⟩)
      by_cases h0 : 0 < zs.length
      · have h0' : (0 : Int) < (zs.length : Int) := by omega
        have H4 := hide (once_any B cb 12 (by omega) wr hS.cur)
        go_wp2_with fail
        refine (unhide H4).mono ?_
        rintro e w5 ⟨v, rfl, ⟨b, rfl⟩, hc5, hg5⟩
        have hS5 := hS.drawn hc5 hg5
        have hown5 := own_drawn hown hg5 hS.lt
        clear H4 hS hown hg5
        cases b with
        | false =>
          have hI5 := (Ints.of_own hown5).low hsz1
          have hb5 := hS5.under hb1 hcb
          clear hS5 hown5 hc5
          go_wp2
          go_ret
          exact DrewI.mk hI5 (unhide HL) hb5
        | true =>
          obtain ⟨g, c', hv, hgb, hcc⟩ := own_first hown5 h0
          injection hv with hv1 hv2 hv3
          subst hv1
          subst hv3
          have hal := (Below.refl w5.heap.size w5).alloc (Nat.le_refl _) (.cells ([-9223372036854775808, 9223372036854775807].map (Value.int .i64)).toArray 3)
          have hS6 := hS5.below hal
          have hown6 := own_below hown5 hal
          have H5 := hide (pickInt_any B cb w5.heap.size 2 2 [-9223372036854775808, 9223372036854775807] _ hS6.cur (Blk.new w5 _ _) (by have := hc5.lt; omega) rfl (by omega) (by omega))
          clear hal hS5 hown5 hc5
          simp only [List.map_cons, List.map_nil] at hS6 H5 hown6
          go_wp2_with fail
          refine (unhide H5).mono ?_
          rintro e w7 ⟨v, rfl, ⟨z, hz, rfl⟩, hc7, hg7⟩
          have hS7 := hS6.drawn hc7 hg7
          have hown7 := own_drawn hown6 hg7 hS6.lt
          obtain ⟨old, hold⟩ : ∃ old, w7.cell? ⟨g, 0, none⟩ = some old := ⟨_, by rw [hown7.cellAt 0 (by omega)]; exact List.getElem?_eq_getElem (by rw [i64_length]; exact h0)⟩
          have hfz := hown7.frozenAt 0
          have hst := hown7.stored 0 (.int .i64 z)
          have hb8 := (Below.refl w1.heap.size w7).setCell (p := ⟨g, 0, none⟩) hgb (.int .i64 z)
          have hb9 := (hS7.low hb8).under hb1 hcb
          have hI : Ints (w7.setCell ⟨g, 0, none⟩ (.int .i64 z)) w.heap.size (.slice (some ⟨g, 0, none⟩) zs.length c4) (zs.set 0 z) := by
            have h := hst.1
            rw [show (i64s zs).set 0 (.int .i64 z) = i64s (zs.set 0 z) by unfold i64s; rw [List.map_set]] at h
            have h9 := Ints.of_own (zs := zs.set 0 z) (n := zs.length) h
            exact h9.low hsz1
          have hzb : -9223372036854775808 ≤ z ∧ z ≤ 9223372036854775807 := by
            simp only [List.mem_cons, List.not_mem_nil, or_false] at hz
            omega
          have HL3 := hide (show Lite 9 (zs.set 0 z) from ⟨by rw [List.length_set]; omega, fun u hu => by
            rcases List.mem_or_eq_of_mem_set hu with hu | hu
            · exact unhide hsm u hu
            · subst hu; exact hzb⟩)
          clear H5 hS6 hown6 hc7 hg7 hown7 hS7 hst hb8 hz
          go_wp2
          go_ret
          exact DrewI.mk hI (unhide HL3) hb9
      · obtain rfl : zs = [] := List.eq_nil_of_length_eq_zero (by omega)
        have hI5 : Ints wr w.heap.size (.slice A4 0 c4) [] := (Ints.of_own hown).low hsz1
        have hb5 := hS.under hb1 hcb
        clear hS hown h0
        go_wp2
        go_ret
        exact DrewI.mk hI5 (unhide HL) hb5

theorem did_any (A : Option Addr) (n c B : Nat) (bs : List UInt8) (w : World) (hr : Reads w B A n (u8s bs)) (hn : n ≤ 1048576) (hB : B ≤ w.heap.size) :
    Calls Try.prog 18 #[.slice A n c] w fun e w' => ∃ x : Int, e = .returned (.int .i64 x) ∧ (-1 ≤ x ∧ x ≤ 9) ∧ Below w.heap.size w w' := by
  have H1 := hide (new_any A n c B bs w hr hn hB)
  clear hr
  go_enter Try.func18, Try.ntmps18
  go_wp2_with fail
  refine (unhide H1).mono ?_
  rintro e w1 ⟨cb, rfl, hcb, hc1, hb1⟩
  have hS0 := Side.start hc1
  have H2 := hide (below_any B cb 11 (by omega) w1 hc1)
  clear H1 hc1
  go_wp2_with fail
  refine (unhide H2).mono ?_
  rintro e w2 ⟨v, rfl, ⟨y, rfl, hy0, hy1⟩, hc2, hg2⟩
  rw [if_pos (by omega)] at hy1
  have hb2 := (hS0.drawn hc2 hg2).under hb1 hcb
  clear H2 hS0 hc2 hg2
  go_wp2
  go_ret
  exact ⟨y - 1, rfl, ⟨by omega, by omega⟩, hb2⟩
theorem dpo_any (A : Option Addr) (n c B : Nat) (bs : List UInt8) (w : World) (hr : Reads w B A n (u8s bs)) (hn : n ≤ 1048576) (hB : B ≤ w.heap.size) :
    Calls Try.prog 19 #[.slice A n c] w fun e w' => ∃ x : Int, e = .returned (.int .i64 x) ∧ (-1 ≤ x ∧ x ≤ 7) ∧ Below w.heap.size w w' := by
  have H1 := hide (new_any A n c B bs w hr hn hB)
  clear hr
  go_enter Try.func19, Try.ntmps19
  go_wp2_with fail
  refine (unhide H1).mono ?_
  rintro e w1 ⟨cb, rfl, hcb, hc1, hb1⟩
  have hS0 := Side.start hc1
  have H2 := hide (below_any B cb 9 (by omega) w1 hc1)
  clear H1 hc1
  go_wp2_with fail
  refine (unhide H2).mono ?_
  rintro e w2 ⟨v, rfl, ⟨y, rfl, hy0, hy1⟩, hc2, hg2⟩
  rw [if_pos (by omega)] at hy1
  have hb2 := (hS0.drawn hc2 hg2).under hb1 hcb
  clear H2 hS0 hc2 hg2
  go_wp2
  go_ret
  exact ⟨y - 1, rfl, ⟨by omega, by omega⟩, hb2⟩

/-- laws.straight at the numbers from 1 on. -/
theorem straight_any (A : Option Addr) (n c B m : Nat) (w : World) (hr : Reads w B A n (i64s (upTo m))) (hm : m ≤ 1048576) :
    Calls Try.prog 32 #[.slice A n c] w fun e w' => e = .returned (.bool true) ∧ Drew w w' := by
  have e1 : m = n := by have := hr.1; rwa [i64_length, upTo_length] at this
  subst e1
  go_enter Try.func32, Try.ntmps32
  go_wp2
  go_loopw [3] (fun i wr => ∃ k : Nat, k ≤ m ∧ i = .int .i64 k ∧ Drew w wr) (fun i _ => m - (intOf i).toNat)
  case atStart => exact ⟨0, Nat.zero_le _, rfl, Drew.refl _⟩
  case round =>
    obtain ⟨k, hk, rfl, hd⟩ := hrel
    by_cases hlt : k < m
    · obtain ⟨ad, u, rfl, _, hx, hc⟩ := (hr.ofDrew hd).at_ hlt
      obtain ⟨s, hs, rfl⟩ := i64_at hx
      have hsk : s = (k : Int) + 1 := by
        unfold upTo at hs
        rw [List.getElem?_map, List.getElem?_range hlt] at hs
        exact (Option.some.inj hs).symm
      subst hsk
      have q1 : IntKind.i64.wrap ((k : Int) + 1) = (k : Int) + 1 := by rw [IntKind.wrap_i64]; omega
      have HD := hide hd
      clear hx hs hr hd
      go_wp2
      try go_quiet (fail)
      go_wp2
      go_roundw
      case rel => first | exact ⟨k + 1, by omega, by go_num, (unhide HD).more _⟩ | exact ⟨k + 1, by omega, by go_num, unhide HD⟩
      case measure => simp [intOf]; omega
    · go_wp2
      go_ret
      exact ⟨rfl, hd⟩
end Go.Proofs.Ytkjjjnkgkgdfkaa
