
/-
  THE DRAWS OF CHAPTER 3: spec.DrawSymmetryOf, spec.DrawOrderPerms, spec.DrawIsInvolution; laws.sameInts at any lists; laws.hasList.
-/
import Derived.Test.YtkjjjnkgkgdfkaaDrawL
import Derived.Test.YtkjjjnkgkgdfkaaIdent
import Derived.Test.YtkjjjnkgkgdfkaaSame
import Derived.Test.YtkjjjnkgkgdfkaaSumM
namespace Go.Proofs.Ytkjjjnkgkgdfkaa
set_option maxRecDepth 100000
open Go.RowKit

set_option maxHeartbeats 400000 in
theorem samed_any (A A' : Option Addr) (n c B n' c' B' : Nat) (p q : List Int) (b : Bool) (hb : decide (p = q) = b) (w : World) (h : Arg w B A n c p) (h' : Arg w B' A' n' c' q) :
    Calls Try.prog 20 #[.slice A n c, .slice A' n' c'] w fun e w' => e = .returned (.bool b) ∧ Drew w w' := by
  have hl := h.len
  have hl' := h'.len
  have hn := h.le
  have hn' := h'.le
  have hr := h.reads
  have hr' := h'.reads
  clear h h'
  by_cases he : n = n'
  · subst he
    have HB := hide hb
    have HL := hide hl
    have HL' := hide hl'
    clear hb hl hl'
    go_enter Try.func20, Try.ntmps20
    go_wp2
    go_loopw [5] (fun i wr => ∃ k : Nat, k ≤ n ∧ i = .int .i64 k ∧ Drew w wr ∧ Hid (p.take k = q.take k)) (fun i _ => n - (intOf i).toNat)
    case atStart => exact ⟨0, Nat.zero_le _, rfl, Drew.refl _, by exact (rfl : p.take 0 = q.take 0)⟩
    case round =>
      obtain ⟨k, hk, rfl, hd, hs⟩ := hrel
      by_cases hlt : k < n
      · obtain ⟨ad, u, rfl, _, hu, hc⟩ := (hr.ofDrew hd).at_ hlt
        obtain ⟨ad', u', rfl, _, hu', hc'⟩ := (hr'.ofDrew hd).at_ hlt
        obtain ⟨x, hx, rfl⟩ := i64_at hu
        obtain ⟨y, hy, rfl⟩ := i64_at hu'
        have HD := hide hd
        clear hu hu' hr hr' hd
        by_cases hxy : x = y
        · subst hxy
          have hnext := hide (take_same_step (unhide hs) hx hy)
          clear hx hy hs
          go_wp2
          go_quiet (fail)
          go_wp2
          go_roundw
          case rel => exact ⟨k + 1, by omega, by go_num, (unhide HD).more _, hnext⟩
          case measure => simp [intOf]; omega
        · obtain rfl : b = false := (unhide HB).symm.trans (same_ne hx hy hxy)
          have hne : (x == y) = false := by simpa using hxy
          clear hx hy hs HB hxy
          go_wp2
          go_quiet (fail)
          go_wp2
          go_ret
          exact ⟨rfl, (unhide HD).more _⟩
      · obtain rfl : n = k := by omega
        obtain rfl : b = true := (unhide HB).symm.trans (same_end (unhide hs) (unhide HL) (unhide HL'))
        clear HB hs
        go_wp2
        go_ret
        exact ⟨rfl, hd⟩
  · obtain rfl : b = false := hb.symm.trans (same_len (by omega))
    have hne : ((n : Int) == (n' : Int)) = false := by simp; omega
    clear hb hl hl' hr hr'
    go_enter Try.func20, Try.ntmps20
    go_wp2
    go_ret
    exact ⟨rfl, Drew.refl _⟩

set_option maxHeartbeats 800000 in
/-- laws.hasList, at a list that has the row. -/
theorem has_any (A A' : Option Addr) (n c B n' c' B' : Nat) (zss : List (List Int)) (x : List Int) (w : World) (hS : IntsS w B (.slice A n c) zss) (hx : Arg w B' A' n' c' x) (hsm : ∀ z ∈ zss, z.length ≤ 1048576 ∧ Small z) (hn : n ≤ 1048576) (hin : x ∈ zss) :
    Calls Try.prog 50 #[.slice A n c, .slice A' n' c'] w fun e w' => e = .returned (.bool true) ∧ Drew w w' := by
  have hl := hS.len
  have HL := hide hl
  have HSM := hide hsm
  have HIN := hide hin
  clear hl hsm hin
  go_enter Try.func50, Try.ntmps50
  go_wp2
  go_loopw [5] (fun i wr => ∃ k : Nat, k ≤ n ∧ i = .int .i64 k ∧ Drew w wr ∧ Hid (x ∉ zss.take k)) (fun i _ => n - (intOf i).toNat)
  case atStart => exact ⟨0, Nat.zero_le _, rfl, Drew.refl _, by exact (by simp : x ∉ zss.take 0)⟩
  case round =>
    obtain ⟨k, hk, rfl, hd, hno⟩ := hrel
    by_cases hlt : k < n
    · obtain ⟨ad, A1, c1, z, rfl, hz, hcell, hI⟩ := (hS.below (hd.below _)).at_ hlt
      obtain ⟨hzl, hzs⟩ := unhide HSM z (List.mem_of_getElem? hz)
      obtain ⟨b, hb⟩ : ∃ b, decide (z = x) = b := ⟨_, rfl⟩
      have H1 := hide (samed_any A1 A' _ c1 _ n' c' B' z x b hb wr (hI.arg hzl hI.cap hzs) (hx.below (hd.below _)))
      cases b with
      | true =>
        clear hb hz hI hzs
        go_wp2_with fail
        refine (unhide H1).mono ?_
        rintro e w2 ⟨rfl, hd2⟩
        have hd3 := hd.trans hd2
        clear H1 hd hd2
        go_wp2
        go_ret
        exact ⟨rfl, hd3⟩
      | false =>
        have hnext : Hid (x ∉ zss.take (k + 1)) := hide (fun h => by
          rw [take_snoc_r hz] at h
          rcases List.mem_append.1 h with h | h
          · exact unhide hno h
          · rw [List.mem_singleton] at h
            subst h
            simp at hb)
        clear hb hz hI hzs hno
        go_wp2_with fail
        refine (unhide H1).mono ?_
        rintro e w2 ⟨rfl, hd2⟩
        have hd3 := hd.trans hd2
        clear H1 hd hd2
        go_wp2
        go_roundw
        case rel => exact ⟨k + 1, by omega, by go_num, hd3, hnext⟩
        case measure => simp [intOf]; omega
    · exfalso
      have h := unhide hno
      rw [List.take_of_length_le (by rw [unhide HL]; omega)] at h
      exact h (unhide HIN)

theorem dsym_any (A : Option Addr) (n c B : Nat) (bs : List UInt8) (w : World) (hr : Reads w B A n (u8s bs)) (hn : n ≤ 1048576) (hB : B ≤ w.heap.size) :
    Calls Try.prog 33 #[.slice A n c] w fun e w' => ∃ A' c' zs, ∃ x : Int, e = .returned (.tuple #[.slice A' zs.length c', .int .i64 x]) ∧ Lite 9 zs ∧ (-1 ≤ x ∧ x ≤ 8) ∧ Ints w' w.heap.size (.slice A' zs.length c') zs ∧ Below w.heap.size w w' := by
  have H1 := hide (new_any A n c B bs w hr hn hB)
  clear hr
  go_enter Try.func33, Try.ntmps33
  go_wp2_with fail
  refine (unhide H1).mono ?_
  rintro e w1 ⟨cb, rfl, hcb, hc1, hb1⟩
  have hS0 := Side.start hc1
  have H2 := hide (l2bent_any B cb w1 hc1)
  clear H1 hc1
  go_wp2_with fail
  refine (unhide H2).mono ?_
  rintro e w2 ⟨A2, c2, zs, rfl, hl, hI, hc2, hg2⟩
  have hS2 := hS0.drawn hc2 hg2
  have H3 := hide (below_any B cb 10 (by omega) w2 hc2)
  have HL := hide hl
  have hlt := hS0.lt
  clear H2 hS0 hl hc2 hg2
  go_wp2_with fail
  refine (unhide H3).mono ?_
  rintro e w3 ⟨v, rfl, ⟨y, rfl, hy0, hy1⟩, hc3, hg3⟩
  rw [if_pos (by omega)] at hy1
  have hb3 := (hS2.drawn hc3 hg3).under hb1 hcb
  have hI3 := (hI.drawn hg3 hlt).low hb1.size
  clear H3 hS2 hI hc3 hg3
  go_wp2
  go_ret2
  exact ⟨A2, c2, zs, y - 1, rfl, unhide HL, ⟨by omega, by omega⟩, hI3, hb3⟩

theorem dord_any (A : Option Addr) (n c B : Nat) (bs : List UInt8) (w : World) (hr : Reads w B A n (u8s bs)) (hn : n ≤ 1048576) (hB : B ≤ w.heap.size) :
    Calls Try.prog 37 #[.slice A n c] w fun e w' => ∃ A' c' zss, e = .returned (.slice A' zss.length c') ∧ zss.length ≤ 4 ∧ (∀ z ∈ zss, Lite 9 z) ∧ IntsS w' w.heap.size (.slice A' zss.length c') zss ∧ Below w.heap.size w w' := by
  have H1 := hide (new_any A n c B bs w hr hn hB)
  clear hr
  go_enter Try.func37, Try.ntmps37
  go_wp2_with fail
  refine (unhide H1).mono ?_
  rintro e w1 ⟨cb, rfl, hcb, hc1, hb1⟩
  have hS0 := Side.start hc1
  have H2 := hide (l3list_any B cb w1 hc1)
  clear H1 hc1
  go_wp2_with fail
  refine (unhide H2).mono ?_
  rintro e w2 ⟨A2, c2, zss, rfl, hn4, hl, hI, hc2, hg2⟩
  have hb2 := (hS0.drawn hc2 hg2).under hb1 hcb
  have hI2 := hI.low hb1.size
  have HL := hide hl
  clear H2 hS0 hl hI hc2 hg2
  go_wp2
  go_ret
  exact ⟨A2, c2, zss, rfl, hn4, unhide HL, hI2, hb2⟩

theorem Ints.shape {w : World} {B n c : Nat} {A : Option Addr} {zs : List Int} (h : Ints w B (.slice A n c) zs) (h0 : 0 < n) : ∃ g, A = some ⟨g, 0, none⟩ ∧ B ≤ g := by
  rcases h.2 with ⟨hv, hz⟩ | ⟨g, cap, cur, e, hv, hb, _⟩
  · injection hv with _ h3; omega
  · injection hv with h3
    exact ⟨g, h3, hb⟩
theorem Ints.stored {w : World} {B g n c : Nat} {zs : List Int} (h : Ints w B (.slice (some ⟨g, 0, none⟩) n c) zs) (j : Nat) (z : Int) : Ints (w.setCell ⟨g, j, none⟩ (.int .i64 z)) B (.slice (some ⟨g, 0, none⟩) n c) (zs.set j z) := by
  have h1 := (Row.stored h (g := g) rfl j (.int .i64 z)).1
  unfold Ints
  rw [List.length_set, show i64s (zs.set j z) = (i64s zs).set j (.int .i64 z) by unfold i64s; rw [List.map_set]]
  exact h1

set_option maxHeartbeats 1600000 in
theorem dinvol_any (A : Option Addr) (n c B : Nat) (bs : List UInt8) (w : World) (hr : Reads w B A n (u8s bs)) (hn : n ≤ 1048576) (hB : B ≤ w.heap.size) :
    Calls Try.prog 38 #[.slice A n c] w (DrewI w 9) := by
  have H1 := hide (new_any A n c B bs w hr hn hB)
  clear hr
  go_enter Try.func38, Try.ntmps38
  go_wp2_with fail
  refine (unhide H1).mono ?_
  rintro e w1 ⟨cb, rfl, hcb, hc1, hb1⟩
  have hS1 := Side.start hc1
  have H2 := hide (once_any B cb 2 (by omega) w1 hc1)
  have hsz1 := hb1.size
  clear H1 hc1
  go_wp2_with fail
  refine (unhide H2).mono ?_
  rintro e w2 ⟨v, rfl, ⟨b, rfl⟩, hc2, hg2⟩
  have hS2 := hS1.drawn hc2 hg2
  clear H2 hS1 hg2
  cases b with
  | false =>
    have H3 := hide (l2bent_any B cb w2 hc2)
    clear hc2
    go_wp2_with fail
    refine (unhide H3).mono ?_
    rintro e w3 ⟨A3, c3, zs, rfl, hl, hI, hc3, hg3⟩
    have hb3 := (hS2.drawn hc3 hg3).under hb1 hcb
    have hI3 := (hI.low hS2.size).low hsz1
    have HL := hide hl
    clear H3 hS2 hl hI hc3 hg3
    go_wp2
    go_ret
    exact DrewI.mk hI3 (unhide HL) hb3
  | true =>
    have H3 := hide (below_any B cb 8 (by omega) w2 hc2)
    clear hc2
    go_wp2_with fail
    refine (unhide H3).mono ?_
    rintro e w3 ⟨v, rfl, ⟨y, rfl, hy0, hy1⟩, hc3, hg3⟩
    rw [if_pos (by omega)] at hy1
    obtain ⟨m, rfl⟩ : ∃ m : Nat, y = m := ⟨y.toNat, by omega⟩
    have hm : m ≤ 7 := by omega
    have hS3 := hS2.drawn hc3 hg3
    have H4 := hide (sid_any (m : Int) (by omega) w3)
    rw [show idR (m : Int) = upTo m by
      by_cases h1 : 1 ≤ m
      · rw [idR_yes (by omega) (by omega)]; congr 1
      · obtain rfl : m = 0 := by omega
        rfl] at H4
    clear H3 hS2 hc3 hg3 hy0 hy1
    go_wp2_with fail
    refine (unhide H4).mono ?_
    rintro e w4 ⟨A4, c4, rfl, own4, hb4⟩
    rw [upTo_length] at own4 ⊢
    have hS4 := hS3.below hb4
    have hI4 := own4.low hS3.size
    have hL4 := hide (show Lite 9 (upTo m) from ⟨by rw [upTo_length]; omega, fun z hz => by have := mem_upTo.1 hz; omega⟩)
    have hlen4 := upTo_length m
    clear H4 hS3 own4 hb4
    go_wp2
    go_loopw [6] (fun i wr => ∃ (k : Nat) (zs : List Int), k ≤ m ∧ i = .int .i64 k ∧ zs.length = m ∧ Ints wr w1.heap.size (.slice A4 m c4) zs ∧ Hid (Lite 9 zs) ∧ Side B cb w1 wr) (fun i _ => m - (intOf i).toNat)
    case atStart => exact ⟨0, upTo m, Nat.zero_le _, rfl, hlen4, hI4, hL4, hS4⟩
    case round =>
      obtain ⟨k, zs, hk, rfl, hzl, hI, hL, hS⟩ := hrel
      clear hlen4 hI4 hL4 hS4
      by_cases hlt : k + 1 < m
      · have hlt' : (k : Int) + 1 < (m : Int) := by omega
        have hlt0 : (k : Int) < (m : Int) := by omega
        have hlt1 : (0 : Int) ≤ (k : Int) + 1 := by omega
        obtain ⟨g, rfl, hgb⟩ := hI.shape (by omega)
        have H5 := hide (once_any B cb 3 (by omega) wr hS.cur)
        have HZL := hide hzl
        clear hzl
        go_wp2_with fail
        refine (unhide H5).mono ?_
        rintro e w5 ⟨v, rfl, ⟨b, rfl⟩, hc5, hg5⟩
        have hS5 := hS.drawn hc5 hg5
        have hI5 := hI.drawn hg5 hS.lt
        clear H5 hS hI hc5 hg5
        cases b with
        | false =>
          go_wp2
          go_roundw
          case rel => exact ⟨k + 1, zs, by omega, by go_num, unhide HZL, hI5, hL, hS5⟩
          case measure => simp [intOf]; omega
        | true =>
          obtain ⟨ad, u, he, _, hu, hcl⟩ := hI5.reads.at_ (show k < m by omega)
          injection he with he
          subst he
          obtain ⟨x, hx, rfl⟩ := i64_at hu
          obtain ⟨ad, u, he, _, hu2, hcl2⟩ := hI5.reads.at_ hlt
          injection he with he
          subst he
          obtain ⟨y, hy, rfl⟩ := i64_at hu2
          rw [show (⟨g, 0, none⟩ : Addr).add k = ⟨g, k, none⟩ by unfold Addr.add; split <;> simp_all] at hcl
          rw [show (⟨g, 0, none⟩ : Addr).add (k + 1) = ⟨g, k + 1, none⟩ by unfold Addr.add; split <;> simp_all] at hcl2
          clear hu hu2 hx hy
          by_cases hx1 : x = (k : Int) + 1
          · by_cases hy1 : y = (k : Int) + 2
            · have hf1 := Row.frozen hI5 (g := g) rfl k
              have hf2 := Row.frozen hI5 (g := g) rfl (k + 1)
              have hI6 := (hI5.stored k ((k : Int) + 2)).stored (k + 1) ((k : Int) + 1)
              have hb6 := ((Below.refl w1.heap.size w5).setCell (p := ⟨g, k, none⟩) hgb (.int .i64 ((k : Int) + 2))).setCell (p := ⟨g, k + 1, none⟩) hgb (.int .i64 ((k : Int) + 1))
              have hS6 := hS5.low hb6
              have hL6 := hide (show Lite 9 ((zs.set k ((k : Int) + 2)).set (k + 1) ((k : Int) + 1)) from ⟨by rw [List.length_set, List.length_set]; exact (unhide hL).1, fun z hz => by
                rcases List.mem_or_eq_of_mem_set hz with hz | hz
                · rcases List.mem_or_eq_of_mem_set hz with hz | hz
                  · exact (unhide hL).2 z hz
                  · subst hz; omega
                · subst hz; omega⟩)
              have hlen6 : ((zs.set k ((k : Int) + 2)).set (k + 1) ((k : Int) + 1)).length = m := by rw [List.length_set, List.length_set]; exact unhide HZL
              clear hI5 hS5 hb6
              go_wp2
              go_roundw
              case rel => exact ⟨k + 1, _, by omega, by go_num, hlen6, hI6, hL6, hS6⟩
              case measure => simp [intOf]; omega
            · go_wp2
              go_roundw
              case rel => exact ⟨k + 1, zs, by omega, by go_num, unhide HZL, hI5, hL, hS5⟩
              case measure => simp [intOf]; omega
          · go_wp2
            go_roundw
            case rel => exact ⟨k + 1, zs, by omega, by go_num, unhide HZL, hI5, hL, hS5⟩
            case measure => simp [intOf]; omega
      · have hlt' : ¬ (k : Int) + 1 < (m : Int) := by omega
        have hb5 := hS.under hb1 hcb
        have hI5 := hI.low hsz1
        clear hS hI hzl
        go_wp2
        go_ret
        exact DrewI.mk hI5 (unhide hL) hb5
end Go.Proofs.Ytkjjjnkgkgdfkaa
