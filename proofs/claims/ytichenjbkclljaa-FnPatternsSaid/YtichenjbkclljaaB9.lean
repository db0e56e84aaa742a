/-
  Words and contracts that the laws lean on, bundled: Draw7, DrawV, Inv, Sames, Big.
-/
import Derived.Test.YtichenjbkclljaaB8
import Derived.Test.YtichenjbkclljaaB4
import Derived.Test.YtichenjbkclljaaB7
import Derived.Deep.RegionLaw
import Derived.Test.YtichenjbkclljaaB3
import Derived.Test.YtichenjbkclljaaB1
import Derived.Test.YtichenjbkclljaaB2
import Derived.Outline
import Derived.Test.YtichenjbkclljaaProg

/-
  THE DRAWS OF CHAPTER 7: spec.l7Case, spec.DrawOccurrencesOf, spec.DrawIsOccurrence, spec.DrawPatternsIn, spec.DrawWithoutPlace, by their contracts.
-/

namespace Go.Proofs.Ytichenjbkclljaa
set_option maxRecDepth 100000
open Go.RowKit

theorem DrewII.make {L : Nat} {w w' : World} {v v' : Value} {p q : List Int} (hI : Ints w' w.heap.size v p) (hJ : Ints w' w.heap.size v' q) (hp : Lite L p) (hq : Lite L q) (h : Below w.heap.size w w') : DrewII w L (.returned (.tuple #[v, v'])) w' := by
  obtain ⟨A, c, rfl⟩ := hI.slice
  obtain ⟨A', c', rfl⟩ := hJ.slice
  exact ⟨A, c, p, A', c', q, rfl, hp, hq, hI, hJ, h⟩
/-- A row with an integer. -/
def DrewIx (w : World) (e : Ending) (w' : World) : Prop :=
  ∃ A c zs, ∃ x : Int, e = .returned (.tuple #[.slice A zs.length c, .int .i64 x]) ∧ Lite 9 zs ∧ (-9223372036854775808 ≤ x ∧ x ≤ 9223372036854775807) ∧ Ints w' w.heap.size (.slice A zs.length c) zs ∧ Below w.heap.size w w'
theorem DrewIx.mk {w w' : World} {v : Value} {zs : List Int} {x : Int} (hI : Ints w' w.heap.size v zs) (hl : Lite 9 zs) (hx : -1048576 ≤ x ∧ x ≤ 1048576) (h : Below w.heap.size w w') : DrewIx w (.returned (.tuple #[v, .int .i64 x])) w' := by
  obtain ⟨A, c, rfl⟩ := hI.slice
  exact ⟨A, c, zs, x, rfl, hl, by omega, hI, h⟩
/-- Three rows. -/
def DrewI3 (w : World) (e : Ending) (w' : World) : Prop :=
  ∃ A c p A' c' q A2 c2 r, e = .returned (.tuple #[.slice A p.length c, .slice A' q.length c', .slice A2 r.length c2]) ∧ Lite 9 p ∧ Lite 9 q ∧ Lite 9 r ∧ Ints w' w.heap.size (.slice A p.length c) p ∧ Ints w' w.heap.size (.slice A' q.length c') q ∧ Ints w' w.heap.size (.slice A2 r.length c2) r ∧ Below w.heap.size w w'
theorem DrewI3.mk {w w' : World} {v v' v2 : Value} {p q r : List Int} (hI : Ints w' w.heap.size v p) (hJ : Ints w' w.heap.size v' q) (hK : Ints w' w.heap.size v2 r) (hp : Lite 9 p) (hq : Lite 9 q) (hr : Lite 9 r) (h : Below w.heap.size w w') : DrewI3 w (.returned (.tuple #[v, v', v2])) w' := by
  obtain ⟨A, c, rfl⟩ := hI.slice
  obtain ⟨A', c', rfl⟩ := hJ.slice
  obtain ⟨A2, c2, rfl⟩ := hK.slice
  exact ⟨A, c, p, A', c', q, A2, c2, r, rfl, hp, hq, hr, hI, hJ, hK, h⟩

set_option maxHeartbeats 1600000 in
theorem l7case_any (A : Option Addr) (n c B : Nat) (bs : List UInt8) (w : World) (hr : Reads w B A n (u8s bs)) (hn : n ≤ 1048576) (hB : B ≤ w.heap.size) :
    Calls Try.prog 47 #[.slice A n c] w (DrewII w 9) := by
  have H1 := hide (new_any A n c B bs w hr hn hB)
  clear hr
  go_enter Try.func47, Try.ntmps47
  go_wp2_with fail
  refine (unhide H1).mono ?_
  rintro e w1 ⟨cb, rfl, hcb, hc1, hb1⟩
  have hS0 := Side.start hc1
  have hsz1 := hb1.size
  have H2 := hide (l2bent_any B cb w1 hc1)
  clear H1 hc1
  go_wp2_with fail
  refine (unhide H2).mono ?_
  rintro e w2 ⟨A2, c2, p, rfl, hl, hI, hc2, hg2⟩
  have hS2 := hS0.drawn hc2 hg2
  have H3 := hide (once_any B cb 14 (by omega) w2 hc2)
  have HL := hide hl
  clear H2 hS0 hl hc2 hg2
  go_wp2_with fail
  refine (unhide H3).mono ?_
  rintro e w3 ⟨v, rfl, ⟨b, rfl⟩, hc3, hg3⟩
  have hS3 := hS2.drawn hc3 hg3
  have hI3 := hI.drawn hg3 hS2.lt
  clear H3 hS2 hI hg3
  cases b with
  | true =>
    have H4 := hide (l2bent_any B cb w3 hc3)
    clear hc3
    go_wp2_with fail
    refine (unhide H4).mono ?_
    rintro e w4 ⟨A4, c4, q, rfl, hl4, hJ, hc4, hg4⟩
    have hS4 := hS3.drawn hc4 hg4
    have hI4 := (hI3.drawn hg4 hS3.lt).low hsz1
    have hJ4 := (hJ.low hS3.size).low hsz1
    have hb4 := hS4.under hb1 hcb
    have HL4 := hide hl4
    clear H4 hS3 hI3 hJ hl4 hc4 hg4 hS4
    go_wp2
    go_ret2
    exact DrewII.make hI4 hJ4 (unhide HL) (unhide HL4) hb4
  | false =>
    have hal := (Below.refl w3.heap.size w3).alloc (Nat.le_refl _) (.cells (([0, 1, 2, 3, 3, 4] : List Int).map (Value.int .i64)).toArray 3)
    have hS4 := hS3.below hal
    have hI4 := hI3.below hal
    have hne : w3.heap.size ≠ cb := by have := hc3.lt; omega
    have H4 := hide (pickInt_any B cb w3.heap.size 6 6 [0, 1, 2, 3, 3, 4] _ hS4.cur (Blk.new w3 _ _) hne rfl (by omega) (by omega))
    simp only [List.map_cons, List.map_nil] at H4 hS4 hI4 hal
    clear hal hS3 hI3 hc3
    go_wp2_with fail
    refine (unhide H4).mono ?_
    rintro e w5 ⟨v, rfl, ⟨y, hy, rfl⟩, hc5, hg5⟩
    have hy3 : 0 ≤ y ∧ y ≤ 4 := by
      simp only [List.mem_cons, List.not_mem_nil, or_false] at hy
      omega
    obtain ⟨m, rfl⟩ : ∃ m : Nat, y = m := ⟨y.toNat, by omega⟩
    have hm : m ≤ 9 := by omega
    have hS5 := hS4.drawn hc5 hg5
    have hI5 := hI4.drawn hg5 hS4.lt
    have H5 := hide (l2draw_any B cb m (by omega) w5 hc5)
    clear H4 hS4 hI4 hc5 hg5 hy hy3
    go_wp2_with fail
    refine (unhide H5).mono ?_
    rintro e w6 ⟨A6, c6, q, rfl, hl6, hown6, hc6, hg6⟩
    have hS6 := hS5.drawn hc6 hg6
    have hI6 := (hI5.drawn hg6 hS5.lt).low hsz1
    have hJ6 := ((Ints.of_own hown6).low hS5.size).low hsz1
    have hb6 := hS6.under hb1 hcb
    have HL6 := hide (hl6.more hm)
    clear H5 hS5 hI5 hown6 hl6 hc6 hg6 hS6
    go_wp2
    go_ret2
    exact DrewII.make hI6 hJ6 (unhide HL) (unhide HL6) hb6

theorem docc_any (A : Option Addr) (n c B : Nat) (bs : List UInt8) (w : World) (hr : Reads w B A n (u8s bs)) (hn : n ≤ 1048576) (hB : B ≤ w.heap.size) :
    Calls Try.prog 12 #[.slice A n c] w (DrewII w 9) := by
  have H1 := hide (l7case_any A n c B bs w hr hn hB)
  clear hr
  go_enter Try.func12, Try.ntmps12
  go_wp2_with fail
  refine (unhide H1).mono ?_
  rintro e w1 ⟨A1, c1, p, A2, c2, q, rfl, hp, hq, hI, hJ, hb⟩
  have HP := hide hp
  have HQ := hide hq
  clear H1 hp hq
  go_wp2
  go_ret2
  exact DrewII.make hI hJ (unhide HP) (unhide HQ) hb

set_option maxHeartbeats 1600000 in
theorem dpats_any (A : Option Addr) (n c B : Nat) (bs : List UInt8) (w : World) (hr : Reads w B A n (u8s bs)) (hn : n ≤ 1048576) (hB : B ≤ w.heap.size) :
    Calls Try.prog 15 #[.slice A n c] w (DrewIx w) := by
  have H1 := hide (new_any A n c B bs w hr hn hB)
  clear hr
  go_enter Try.func15, Try.ntmps15
  go_wp2_with fail
  refine (unhide H1).mono ?_
  rintro e w1 ⟨cb, rfl, hcb, hc1, hb1⟩
  have hS0 := Side.start hc1
  have hsz1 := hb1.size
  have H2 := hide (l2bent_any B cb w1 hc1)
  clear H1 hc1
  go_wp2_with fail
  refine (unhide H2).mono ?_
  rintro e w2 ⟨A2, c2, p, rfl, hl, hI, hc2, hg2⟩
  have hS2 := hS0.drawn hc2 hg2
  have H3 := hide (below_any B cb 7 (by omega) w2 hc2)
  have HL := hide hl
  clear H2 hS0 hl hc2 hg2
  go_wp2_with fail
  refine (unhide H3).mono ?_
  rintro e w3 ⟨v, rfl, ⟨y, rfl, hy0, hy1⟩, hc3, hg3⟩
  rw [if_pos (by omega)] at hy1
  have hS3 := hS2.drawn hc3 hg3
  have hI3 := hI.drawn hg3 hS2.lt
  have H4 := hide (once_any B cb 10 (by omega) w3 hc3)
  clear H3 hS2 hI hc3 hg3
  go_wp2_with fail
  refine (unhide H4).mono ?_
  rintro e w4 ⟨v, rfl, ⟨b, rfl⟩, hc4, hg4⟩
  have hb4 := (hS3.drawn hc4 hg4).under hb1 hcb
  have hI4 := (hI3.drawn hg4 hS3.lt).low hsz1
  clear H4 hS3 hI3 hc4 hg4
  go_wp2_with fail
  refine (bit_any _ _).mono ?_
  rintro e w5 ⟨rfl, rfl⟩
  obtain ⟨v1, hv1, hv10, hv11⟩ : ∃ v, bitI b = v ∧ 0 ≤ v ∧ v ≤ 1 := ⟨_, rfl, by cases b <;> decide, by cases b <;> decide⟩
  rw [hv1]
  clear hv1
  go_wp2
  go_ret2
  exact DrewIx.mk hI4 (unhide HL) (by omega) hb4

set_option maxHeartbeats 1600000 in
theorem dwpl_any (A : Option Addr) (n c B : Nat) (bs : List UInt8) (w : World) (hr : Reads w B A n (u8s bs)) (hn : n ≤ 1048576) (hB : B ≤ w.heap.size) :
    Calls Try.prog 17 #[.slice A n c] w (DrewIx w) := by
  have H1 := hide (new_any A n c B bs w hr hn hB)
  clear hr
  go_enter Try.func17, Try.ntmps17
  go_wp2_with fail
  refine (unhide H1).mono ?_
  rintro e w1 ⟨cb, rfl, hcb, hc1, hb1⟩
  have hS0 := Side.start hc1
  have hsz1 := hb1.size
  have H2 := hide (l2bent_any B cb w1 hc1)
  clear H1 hc1
  go_wp2_with fail
  refine (unhide H2).mono ?_
  rintro e w2 ⟨A2, c2, p, rfl, hl, hI, hc2, hg2⟩
  have hS2 := hS0.drawn hc2 hg2
  have HL := hide hl
  have hl9 := hl.1
  clear H2 hS0 hl hg2
  go_wp2_with fail
  refine (max_any _ _ _).mono ?_
  rintro e w3 ⟨rfl, rfl⟩
  obtain ⟨N, hN, hN1, hN9⟩ : ∃ N, max (1 : Int) (p.length : Int) = N ∧ 1 ≤ N ∧ N ≤ 9 := ⟨_, rfl, by omega, by omega⟩
  rw [hN]
  have H4 := hide (below_any B cb N (by omega) w3 hc2)
  clear hN hc2
  go_wp2_with fail
  refine (unhide H4).mono ?_
  rintro e w4 ⟨v, rfl, ⟨x, rfl, hx0, hx1⟩, hc4, hg4⟩
  rw [if_pos (by omega)] at hx1
  have hS4 := hS2.drawn hc4 hg4
  have hI4 := hI.drawn hg4 hS2.lt
  have H5 := hide (once_any B cb 10 (by omega) w4 hc4)
  clear H4 hS2 hI hc4 hg4
  go_wp2_with fail
  refine (unhide H5).mono ?_
  rintro e w5 ⟨v, rfl, ⟨b1, rfl⟩, hc5, hg5⟩
  have hb5 := (hS4.drawn hc5 hg5).under hb1 hcb
  have hI5 := (hI4.drawn hg5 hS4.lt).low hsz1
  clear H5 hS4 hI4 hc5 hg5
  go_wp2_with fail
  refine (bit_any _ _).mono ?_
  rintro e w6 ⟨rfl, rfl⟩
  obtain ⟨v1, hv1, hv10, hv11⟩ : ∃ v, bitI b1 = v ∧ 0 ≤ v ∧ v ≤ 1 := ⟨_, rfl, by cases b1 <;> decide, by cases b1 <;> decide⟩
  rw [hv1]
  clear hv1
  go_wp2
  go_ret2
  exact DrewIx.mk hI5 (unhide HL) (by omega) hb5
--DRAWISOCC
theorem occ_lite {p q z : List Int} (h : z ∈ occR p q) : Lite 9 z := by
  obtain ⟨h1, h2, h3, h4, _⟩ := isOcc_iff.1 (mem_occ.1 h)
  have := isP_le h1
  have := isP_le h2
  exact ⟨by omega, fun x hx => by have := h4.1 x hx; omega⟩
theorem rows_in {w : World} {B n c : Nat} {A : Option Addr} {zss : List (List Int)} (h : IntsS w B (.slice A n c) zss) {i : Nat} (hi : i < n) :
    ∃ ad A' c' zs, A = some ad ∧ (ad.add i).block < w.heap.size ∧ zss[i]? = some zs ∧ w.cell? (ad.add i) = some (.slice A' zs.length c') ∧ Ints w B (.slice A' zs.length c') zs := by
  have hn := h.len
  obtain ⟨vs, h1, h2⟩ := h
  subst hn
  obtain ⟨ad, u, hA, hlt, hu, hc⟩ := (Reads.of_own_at h1).at_ hi
  have hz : zss[i]? = some zss[i] := List.getElem?_eq_getElem hi
  have hr := h2.row i u _ hu hz
  obtain ⟨A', c', rfl⟩ := hr.slice
  exact ⟨ad, A', c', _, hA, by rw [block_of_add]; exact hlt, hz, hc, hr⟩
set_option maxHeartbeats 3200000 in
theorem disocc_any (A : Option Addr) (n c B : Nat) (bs : List UInt8) (w : World) (hr : Reads w B A n (u8s bs)) (hn : n ≤ 1048576) (hB : B ≤ w.heap.size) :
    Calls Try.prog 14 #[.slice A n c] w (DrewI3 w) := by
  obtain ⟨i0, hi, hz0, hz1, hz2⟩ := info_parts intInfo
  have H1 := hide (l7case_any A n c B bs w hr hn hB)
  go_enter Try.func14, Try.ntmps14
  go_wp2_with fail
  refine (unhide H1).mono ?_
  rintro e w1 ⟨A1, c1, p, Aq, cq, q, rfl, hp, hq, hI, hJ, hb1⟩
  have H2 := hide (new_any A n c B bs w1 (hr.below (hb1.mono hB)) hn (Nat.le_trans hB hb1.size))
  have HP := hide hp
  have HQ := hide hq
  have hq9 := hq.1
  clear H1 hr hp hq
  go_wp2_with fail
  refine (unhide H2).mono ?_
  rintro e w2 ⟨cb, rfl, hcb, hc2, hb2⟩
  have H3 := hide (soccs_any A1 Aq _ c1 _ _ cq _ p q w2 ((unhide HP).arg (hI.below hb2) (by omega)) ((unhide HQ).arg (hJ.below hb2) (by omega)))
  have hS2 := Side.start hc2
  clear H2 hc2
  go_wp2_with fail
  refine (unhide H3).mono ?_
  rintro e w3 ⟨A3, c3, rfl, hO, hb3⟩
  have hS3 := hS2.below hb3
  have hOL := hide (fun z (hz : z ∈ occR p q) => occ_lite hz)
  have hnum := numOcc_rng p q
  have hO8 : (occR p q).length ≤ 256 := by
    cases hpp : isP p with
    | false => rw [occR_no (.inl hpp)]; simp
    | true =>
      cases hqq : isP q with
      | false => rw [occR_no (.inr hqq)]; simp
      | true => unfold numOcc at hnum; rw [if_pos (by simp [hpp, hqq])] at hnum; omega
  obtain ⟨l, hl⟩ : ∃ l, l = occR p q := ⟨_, rfl⟩
  rw [← hl] at hO hOL hO8 ⊢
  obtain ⟨L, hL⟩ : ∃ L, L = q.length := ⟨_, rfl⟩
  have hL9 : L ≤ 9 := by omega
  have HLL := hide hL
  clear H3 hS2 hb3 hl hnum
  by_cases h0 : 0 < l.length
  · have h0' : (0 : Int) < (l.length : Int) := by omega
    have H4 := hide (once_any B cb 2 (by omega) w3 hS3.cur)
    go_wp2_with fail
    refine (unhide H4).mono ?_
    rintro e w4 ⟨v, rfl, ⟨b, rfl⟩, hc4, hg4⟩
    have hS4 := hS3.drawn hc4 hg4
    have hO4 := hO.drawn hg4 hS3.lt
    clear H4 hS3 hO hg4
    cases b with
    | false =>
      rw [← hL] at hJ hq9 ⊢
      obtain ⟨wx, rfl⟩ : ∃ wx, wx = w4 := ⟨_, rfl⟩
      have hS := hS4
      clear hS4 hO4 hc4 hOL hL h0 h0' hO8
      have hsz := hS.size
      have hst := own0 wx w2.heap.size hsz
      have hS0 := hS.below ((Below.refl wx.heap.size wx).alloc (Nat.le_refl _) (.cells #[] 3))
      clear hS
      go_wp2
      go_loopw [9, 10, 11] (fun v l i wr => ∃ (k : Nat) (zs : List Int) (x : Int), k ≤ L ∧ i = .int .i64 k ∧ l = .int .i64 x ∧ -(k : Int) ≤ x ∧ x ≤ 4 * (k : Int) ∧ zs.length = k ∧ Hid (Small zs) ∧ Side B cb w2 wr ∧ wr.ownsRow w2.heap.size 3 1 v k (i64s zs)) (fun _ _ i _ => L - (intOf i).toNat)
      case atStart => exact ⟨0, [], 0, Nat.zero_le _, rfl, rfl, by omega, by omega, rfl, small_nil, hS0, hst⟩
      case round =>
        obtain ⟨k, zs, x, hk, rfl, rfl, hx0, hx1, hzl, hsm, hS, hown⟩ := hrel
        clear hst hS0
        by_cases hlt : k < L
        · have H7 := hide (below_any B cb 3 (by omega) wr hS.cur)
          have HZL := hide hzl
          clear hzl
          go_wp2_with fail
          refine (unhide H7).mono ?_
          rintro e w7 ⟨v, rfl, ⟨y, rfl, hy0, hy1⟩, hc7, hg7⟩
          rw [if_pos (by omega)] at hy1
          have hown7 := own_drawn hown hg7 hS.lt
          have hS7 := hS.drawn hc7 hg7
          have H8 := hide (once_any B cb 20 (by omega) w7 hc7)
          clear H7 hown hS hc7 hg7
          go_wp2_with fail
          refine (unhide H8).mono ?_
          rintro e w8 ⟨v, rfl, ⟨b, rfl⟩, hc8, hg8⟩
          have hown8 := own_drawn hown7 hg8 hS7.lt
          have hS8 := hS7.drawn hc8 hg8
          clear H8 hown7 hS7 hc8 hg8
          go_wp2_with fail
          refine (bit_any _ _).mono ?_
          rintro e w9 ⟨rfl, rfl⟩
          obtain ⟨v1, hv1, hv10, hv11⟩ : ∃ v, bitI b = v ∧ 0 ≤ v ∧ v ≤ 1 := ⟨_, rfl, by cases b <;> decide, by cases b <;> decide⟩
          rw [hv1]
          clear hv1
          have hsz8 := hS8.size
          go_wp2_with (first
            | (at_builtin; refine wpList_append_one rfl (.tmp 54) (.tmp 56) 24 rfl w2.heap.size 3 i0 (.int .i64 0) 8 Try.underlying24 hi hz0 hz1 hz2 rfl w9 w9 _ _ _ rfl hown8 (.int .i64 (x + 1 + y - v1)) rfl rfl rfl (by omega) (by unfold maxLen; omega) (Below.refl _ _) hsz8 ?_))
          intro v4 w4 hown4 hb4 _
          rw [i64_snoc2] at hown4
          have hS4 := hS8.low hb4
          have hsm4 := hide (show Small (zs ++ [x + 1 + y - v1]) from fun z hz => by
            rcases List.mem_append.1 hz with hz | hz
            · exact unhide hsm z hz
            · rw [List.mem_singleton] at hz; subst hz; omega)
          have hlen4 : (zs ++ [x + 1 + y - v1]).length = k + 1 := by rw [List.length_append, unhide HZL]; rfl
          clear hown8 hS8 hb4
          go_wp2
          go_roundw
          case rel => exact ⟨k + 1, _, x + 1 + y - v1, by omega, by go_num, rfl, by omega, by omega, hlen4, hsm4, hS4, hown4⟩
          case measure => simp [intOf]; omega
        · obtain rfl : L = k := by omega
          subst hzl
          obtain ⟨A6, c6, rfl, _⟩ := Reads.of_own hown
          have hb6 := hS.under hb2 hcb
          have hI6 := hI.below hb6
          have hJ6 := hJ.below hb6
          have hb7 := below_after hb1 hb6
          have hK6 := ((Ints.of_own hown).low hb2.size).low hb1.size
          have hL6 := hide (show Lite 9 zs from ⟨by omega, unhide hsm⟩)
          clear hown hS hb6 hsm hI hJ hb1 hb2
          go_wp2
          go_ret3
          exact DrewI3.mk hI6 hJ6 hK6 (unhide HP) (unhide HQ) (unhide hL6) hb7
    | true =>
      obtain ⟨N, hN⟩ : ∃ N : Nat, N = l.length := ⟨_, rfl⟩
      rw [← hN] at h0 h0' hO8 hO4 ⊢
      have H5 := hide (fun w' (hb' : Below w4.heap.size w4 w') => below_any B cb N (by omega) w' (hc4.low hc4.lt hb'))
      have hb0 := Below.refl w4.heap.size w4
      have HB := hide (And.intro hb1 hb2)
      have HI := hide (And.intro hI hJ)
      have HO := hide (And.intro hO4 hS4)
      obtain ⟨ad, _, _, _, rfl, _, _, _, _⟩ := rows_in hO4 h0
      clear hb1 hb2 hI hJ hO4 hS4 hc4 hL hN
      clear hL9 hq9
      go_wp2
      go_region_law
        (go_simp; go_at_call 53; refine (unhide H5 _ (by first | assumption | (apply Below.drew; assumption))).mono ?_; rintro e w5 ⟨v, rfl, ⟨y, rfl, hy0, hy1⟩, hc5, hg5⟩;
          rw [if_pos (by omega)] at hy1;
          obtain ⟨k, rfl⟩ : ∃ k : Nat, y = k := ⟨y.toNat, by omega⟩;
          have hkN : k < N := (by omega);
          have hkI : (k : Int) < (N : Int) := (by omega);
          have hk0 : (0 : Int) ≤ (k : Int) := (by omega);
          have hkt : ((k : Int)).toNat = k := (by omega);
          have hS5 := ((unhide HO).2.below hb0.drew).drawn hc5 hg5;
          have hO5 := ((unhide HO).1.below hb0.drew).drawn hg5 ((unhide HO).2.lt);
          obtain ⟨ad2, A5, c5, z, had, hlt5, hz, hcell, hK⟩ := rows_in hO5 (show k < N by omega);
          obtain rfl : ad = ad2 := (Option.some.inj had);
          have HZ := hide hz; have HK := hide hK; have HS5 := hide hS5;
          clear hS5 hO5 had hlt5 hz hK hc5 hg5 H5)
      all_goals go_wp2
      all_goals go_ret3
      all_goals (
        have hb6 := (unhide HS5).under (unhide HB).2 hcb
        exact DrewI3.mk ((unhide HI).1.below hb6) ((unhide HI).2.below hb6) (((unhide HK).low (unhide HB).2.size).low (unhide HB).1.size) (unhide HP) (unhide HQ) (unhide hOL _ (List.mem_of_getElem? (unhide HZ))) (below_after (unhide HB).1 hb6))
  · have h0' : ¬ (0 : Int) < (l.length : Int) := by omega
    rw [← hL] at hJ hq9 ⊢
    obtain ⟨wx, rfl⟩ : ∃ wx, wx = w3 := ⟨_, rfl⟩
    have hS := hS3
    clear hS3 hO hOL hL hO8
    have hsz := hS.size
    have hst := own0 wx w2.heap.size hsz
    have hS0 := hS.below ((Below.refl wx.heap.size wx).alloc (Nat.le_refl _) (.cells #[] 3))
    clear hS
    go_wp2
    go_loopw [9, 10, 11] (fun v l i wr => ∃ (k : Nat) (zs : List Int) (x : Int), k ≤ L ∧ i = .int .i64 k ∧ l = .int .i64 x ∧ -(k : Int) ≤ x ∧ x ≤ 4 * (k : Int) ∧ zs.length = k ∧ Hid (Small zs) ∧ Side B cb w2 wr ∧ wr.ownsRow w2.heap.size 3 1 v k (i64s zs)) (fun _ _ i _ => L - (intOf i).toNat)
    case atStart => exact ⟨0, [], 0, Nat.zero_le _, rfl, rfl, by omega, by omega, rfl, small_nil, hS0, hst⟩
    case round =>
      obtain ⟨k, zs, x, hk, rfl, rfl, hx0, hx1, hzl, hsm, hS, hown⟩ := hrel
      clear hst hS0
      by_cases hlt : k < L
      · have H7 := hide (below_any B cb 3 (by omega) wr hS.cur)
        have HZL := hide hzl
        clear hzl
        go_wp2_with fail
        refine (unhide H7).mono ?_
        rintro e w7 ⟨v, rfl, ⟨y, rfl, hy0, hy1⟩, hc7, hg7⟩
        rw [if_pos (by omega)] at hy1
        have hown7 := own_drawn hown hg7 hS.lt
        have hS7 := hS.drawn hc7 hg7
        have H8 := hide (once_any B cb 20 (by omega) w7 hc7)
        clear H7 hown hS hc7 hg7
        go_wp2_with fail
        refine (unhide H8).mono ?_
        rintro e w8 ⟨v, rfl, ⟨b, rfl⟩, hc8, hg8⟩
        have hown8 := own_drawn hown7 hg8 hS7.lt
        have hS8 := hS7.drawn hc8 hg8
        clear H8 hown7 hS7 hc8 hg8
        go_wp2_with fail
        refine (bit_any _ _).mono ?_
        rintro e w9 ⟨rfl, rfl⟩
        obtain ⟨v1, hv1, hv10, hv11⟩ : ∃ v, bitI b = v ∧ 0 ≤ v ∧ v ≤ 1 := ⟨_, rfl, by cases b <;> decide, by cases b <;> decide⟩
        rw [hv1]
        clear hv1
        have hsz8 := hS8.size
        go_wp2_with (first
          | (at_builtin; refine wpList_append_one rfl (.tmp 54) (.tmp 56) 24 rfl w2.heap.size 3 i0 (.int .i64 0) 8 Try.underlying24 hi hz0 hz1 hz2 rfl w9 w9 _ _ _ rfl hown8 (.int .i64 (x + 1 + y - v1)) rfl rfl rfl (by omega) (by unfold maxLen; omega) (Below.refl _ _) hsz8 ?_))
        intro v4 w4 hown4 hb4 _
        rw [i64_snoc2] at hown4
        have hS4 := hS8.low hb4
        have hsm4 := hide (show Small (zs ++ [x + 1 + y - v1]) from fun z hz => by
          rcases List.mem_append.1 hz with hz | hz
          · exact unhide hsm z hz
          · rw [List.mem_singleton] at hz; subst hz; omega)
        have hlen4 : (zs ++ [x + 1 + y - v1]).length = k + 1 := by rw [List.length_append, unhide HZL]; rfl
        clear hown8 hS8 hb4
        go_wp2
        go_roundw
        case rel => exact ⟨k + 1, _, x + 1 + y - v1, by omega, by go_num, rfl, by omega, by omega, hlen4, hsm4, hS4, hown4⟩
        case measure => simp [intOf]; omega
      · obtain rfl : L = k := by omega
        subst hzl
        obtain ⟨A6, c6, rfl, _⟩ := Reads.of_own hown
        have hb6 := hS.under hb2 hcb
        have hI6 := hI.below hb6
        have hJ6 := hJ.below hb6
        have hb7 := below_after hb1 hb6
        have hK6 := ((Ints.of_own hown).low hb2.size).low hb1.size
        have hL6 := hide (show Lite 9 zs from ⟨by omega, unhide hsm⟩)
        clear hown hS hb6 hsm hI hJ hb1 hb2
        go_wp2
        go_ret3
        exact DrewI3.mk hI6 hJ6 hK6 (unhide HP) (unhide HQ) (unhide hL6) hb7
end Go.Proofs.Ytichenjbkclljaa


/-
  THE DRAWS OF CHAPTER 3: spec.DrawSymmetryOf, spec.DrawOrderPerms, spec.DrawIsInvolution; laws.sameInts at any lists; laws.hasList.
-/

namespace Go.Proofs.Ytichenjbkclljaa
set_option maxRecDepth 100000
open Go.RowKit

set_option maxHeartbeats 400000 in
theorem samed_any (A A' : Option Addr) (n c B n' c' B' : Nat) (p q : List Int) (b : Bool) (hb : decide (p = q) = b) (w : World) (h : Arg w B A n c p) (h' : Arg w B' A' n' c' q) :
    Calls Try.prog 25 #[.slice A n c, .slice A' n' c'] w fun e w' => e = .returned (.bool b) ∧ Drew w w' := by
  have hl := h.len
  have hl' := h'.len
  have hn := h.le
  have hn' := h'.le
  have hr := h.reads
  have hr' := h'.reads
  clear h h'
  by_cases he : n = n'
  · subst he
    have HB := hide hb
    have HL := hide hl
    have HL' := hide hl'
    clear hb hl hl'
    go_enter Try.func25, Try.ntmps25
    go_wp2
    go_loopw [5] (fun i wr => ∃ k : Nat, k ≤ n ∧ i = .int .i64 k ∧ Drew w wr ∧ Hid (p.take k = q.take k)) (fun i _ => n - (intOf i).toNat)
    case atStart => exact ⟨0, Nat.zero_le _, rfl, Drew.refl _, by exact (rfl : p.take 0 = q.take 0)⟩
    case round =>
      obtain ⟨k, hk, rfl, hd, hs⟩ := hrel
      by_cases hlt : k < n
      · obtain ⟨ad, u, rfl, _, hu, hc⟩ := (hr.ofDrew hd).at_ hlt
        obtain ⟨ad', u', rfl, _, hu', hc'⟩ := (hr'.ofDrew hd).at_ hlt
        obtain ⟨x, hx, rfl⟩ := i64_at hu
        obtain ⟨y, hy, rfl⟩ := i64_at hu'
        have HD := hide hd
        clear hu hu' hr hr' hd
        by_cases hxy : x = y
        · subst hxy
          have hnext := hide (take_same_step (unhide hs) hx hy)
          clear hx hy hs
          go_wp2
          go_quiet (fail)
          go_wp2
          go_roundw
          case rel => exact ⟨k + 1, by omega, by go_num, (unhide HD).more _, hnext⟩
          case measure => simp [intOf]; omega
        · obtain rfl : b = false := (unhide HB).symm.trans (same_ne hx hy hxy)
          have hne : (x == y) = false := by simpa using hxy
          clear hx hy hs HB hxy
          go_wp2
          go_quiet (fail)
          go_wp2
          go_ret
          exact ⟨rfl, (unhide HD).more _⟩
      · obtain rfl : n = k := by omega
        obtain rfl : b = true := (unhide HB).symm.trans (same_end (unhide hs) (unhide HL) (unhide HL'))
        clear HB hs
        go_wp2
        go_ret
        exact ⟨rfl, hd⟩
  · obtain rfl : b = false := hb.symm.trans (same_len (by omega))
    have hne : ((n : Int) == (n' : Int)) = false := by simp; omega
    clear hb hl hl' hr hr'
    go_enter Try.func25, Try.ntmps25
    go_wp2
    go_ret
    exact ⟨rfl, Drew.refl _⟩

set_option maxHeartbeats 800000 in
/-- laws.hasList, at a list that has the row. -/
theorem has_any (A A' : Option Addr) (n c B n' c' B' : Nat) (zss : List (List Int)) (x : List Int) (w : World) (hS : IntsS w B (.slice A n c) zss) (hx : Arg w B' A' n' c' x) (hsm : ∀ z ∈ zss, z.length ≤ 1048576 ∧ Small z) (hn : n ≤ 1048576) (hin : x ∈ zss) :
    Calls Try.prog 35 #[.slice A n c, .slice A' n' c'] w fun e w' => e = .returned (.bool true) ∧ Drew w w' := by
  have hl := hS.len
  have HL := hide hl
  have HSM := hide hsm
  have HIN := hide hin
  clear hl hsm hin
  go_enter Try.func35, Try.ntmps35
  go_wp2
  go_loopw [5] (fun i wr => ∃ k : Nat, k ≤ n ∧ i = .int .i64 k ∧ Drew w wr ∧ Hid (x ∉ zss.take k)) (fun i _ => n - (intOf i).toNat)
  case atStart => exact ⟨0, Nat.zero_le _, rfl, Drew.refl _, by exact (by simp : x ∉ zss.take 0)⟩
  case round =>
    obtain ⟨k, hk, rfl, hd, hno⟩ := hrel
    by_cases hlt : k < n
    · obtain ⟨ad, A1, c1, z, rfl, hz, hcell, hI⟩ := (hS.below (hd.below _)).at_ hlt
      obtain ⟨hzl, hzs⟩ := unhide HSM z (List.mem_of_getElem? hz)
      obtain ⟨b, hb⟩ : ∃ b, decide (z = x) = b := ⟨_, rfl⟩
      have H1 := hide (samed_any A1 A' _ c1 _ n' c' B' z x b hb wr (hI.arg hzl hI.cap hzs) (hx.below (hd.below _)))
      cases b with
      | true =>
        clear hb hz hI hzs
        go_wp2_with fail
        refine (unhide H1).mono ?_
        rintro e w2 ⟨rfl, hd2⟩
        have hd3 := hd.trans hd2
        clear H1 hd hd2
        go_wp2
        go_ret
        exact ⟨rfl, hd3⟩
      | false =>
        have hnext : Hid (x ∉ zss.take (k + 1)) := hide (fun h => by
          rw [take_snoc_r hz] at h
          rcases List.mem_append.1 h with h | h
          · exact unhide hno h
          · rw [List.mem_singleton] at h
            subst h
            simp at hb)
        clear hb hz hI hzs hno
        go_wp2_with fail
        refine (unhide H1).mono ?_
        rintro e w2 ⟨rfl, hd2⟩
        have hd3 := hd.trans hd2
        clear H1 hd hd2
        go_wp2
        go_roundw
        case rel => exact ⟨k + 1, by omega, by go_num, hd3, hnext⟩
        case measure => simp [intOf]; omega
    · exfalso
      have h := unhide hno
      rw [List.take_of_length_le (by rw [unhide HL]; omega)] at h
      exact h (unhide HIN)

theorem Ints.shape {w : World} {B n c : Nat} {A : Option Addr} {zs : List Int} (h : Ints w B (.slice A n c) zs) (h0 : 0 < n) : ∃ g, A = some ⟨g, 0, none⟩ ∧ B ≤ g := by
  rcases h.2 with ⟨hv, hz⟩ | ⟨g, cap, cur, e, hv, hb, _⟩
  · injection hv with _ h3; omega
  · injection hv with h3
    exact ⟨g, h3, hb⟩
theorem Ints.stored {w : World} {B g n c : Nat} {zs : List Int} (h : Ints w B (.slice (some ⟨g, 0, none⟩) n c) zs) (j : Nat) (z : Int) : Ints (w.setCell ⟨g, j, none⟩ (.int .i64 z)) B (.slice (some ⟨g, 0, none⟩) n c) (zs.set j z) := by
  have h1 := (Row.stored h (g := g) rfl j (.int .i64 z)).1
  unfold Ints
  rw [List.length_set, show i64s (zs.set j z) = (i64s zs).set j (.int .i64 z) by unfold i64s; rw [List.map_set]]
  exact h1

end Go.Proofs.Ytichenjbkclljaa


/-
  spec.InversePerm and impl.InversePerm, by their contracts.
-/

namespace Go.Proofs.Ytichenjbkclljaa
set_option maxRecDepth 100000
open Go.RowKit

set_option maxHeartbeats 400000 in
theorem l2inv_any (A : Option Addr) (n c B : Nat) (zs : List Int) (w : World) (h : Arg w B A n c zs) (hp : isP zs = true) :
    Calls Try.prog 74 #[.slice A n c] w (GivesI w (invFill zs zs.length)) := by
  obtain ⟨i0, hi, hz0, hz1, hz2⟩ := info_parts intInfo
  have hl := h.len
  have hr := h.reads
  have hB := h.under
  have hn8 : n ≤ 8 := by have := isP_le hp; omega
  have HL := hide hl
  have HP := hide (fun k z hz => isP_range hp (k := k) (z := z) hz)
  clear hl h hp
  go_enter Try.func74, Try.ntmps74
  go_wp2_with (first
    | (at_make; refine wpList_make_full _ rfl (.tmp 6) (.tmp 6) 24 rfl w.heap.size 3 i0 (.int .i64 0) 1 Try.underlying24 hi hz0 hz1 _ _ _ _ n rfl rfl (by first | rfl | omega) (by first | rfl | omega) (by rw [hz2]; omega) (by unfold maxLen; omega) (Nat.le_refl _) ?_; intro w1 hown hg))
  have hb1 := (Below.refl _ _).grown hg (Nat.le_refl _) (by simp)
  clear hg
  go_loopw [4] (fun i wr => ∃ k : Nat, k ≤ n ∧ i = .int .i64 k ∧ Below w.heap.size w wr ∧ wr.ownsRow w.heap.size 3 1 (.slice (some ⟨w.heap.size, 0, none⟩) n n) n (i64s (invFill zs k))) (fun i _ => n - (intOf i).toNat)
  case atStart =>
    refine ⟨0, Nat.zero_le _, rfl, hb1, ?_⟩
    rw [invFill, unhide HL, ← made_zeros]
    exact hown
  case round =>
    obtain ⟨k, hk, rfl, hb, hown'⟩ := hrel
    clear hown hb1
    by_cases hlt : k < n
    · obtain ⟨ad, u, rfl, had, hu, hc⟩ := ((hr.more hB).below hb).at_ hlt
      obtain ⟨z, hz, rfl⟩ := i64_at hu
      obtain ⟨hz1', hz2'⟩ := unhide HP k z hz
      rw [unhide HL] at hz2'
      have hzn : z.toNat - 1 < n := by omega
      obtain ⟨old, hold⟩ : ∃ old, wr.cell? ⟨w.heap.size, z.toNat - 1, none⟩ = some old := ⟨_, by rw [hown'.cellAt (z.toNat - 1) (by omega)]; exact List.getElem?_eq_getElem (by rw [i64_length, invFill_length, unhide HL]; exact hzn)⟩
      have hfz := hown'.frozenAt (z.toNat - 1)
      have ho2 := (hown'.stored (z.toNat - 1) (.int .i64 ((k : Int) + 1))).1
      have hb2 := below_set_i hb hown' (z.toNat - 1) (.int .i64 ((k : Int) + 1))
      have e : (i64s (invFill zs k)).set (z.toNat - 1) (.int .i64 ((k : Int) + 1)) = i64s (invFill zs (k + 1)) := by
        rw [← invFill_step hz]; unfold i64s; rw [List.map_set]
      rw [e] at ho2
      clear e hu hz hown' hb
      go_wp2
      go_roundw
      case rel => exact ⟨k + 1, by omega, by go_num, hb2, ho2⟩
      case measure => simp [intOf]; omega
    · obtain rfl : n = k := by omega
      have hI : Ints wr w.heap.size (.slice (some ⟨w.heap.size, 0, none⟩) n n) (invFill zs zs.length) := by rw [unhide HL]; exact Ints.of_own hown'
      clear hown'
      go_wp2
      go_ret
      exact GivesI.mk hI hb
theorem sinv_any (A : Option Addr) (n c B : Nat) (zs : List Int) (b : Bool) (hb : isP zs = b) (w : World) (h : Arg w B A n c zs) :
    Calls Try.prog 33 #[.slice A n c] w (GivesIB w (invR zs) b) := by
  have H1 := hide (sisperm_any A n c B zs b hb w h.reads h.le h.cap)
  cases b with
  | false =>
    rw [invR_no hb]
    clear hb h
    go_enter Try.func33, Try.ntmps33
    go_wp2_with fail
    refine (unhide H1).mono ?_
    rintro e w1 ⟨rfl, hd⟩
    have hb := hd.below w.heap.size
    clear hd H1
    go_wp2
    go_ret2
    exact GivesIB.mk false (Ints.made0 w1 w.heap.size hb.size) (hb.alloc hb.size _)
  | true =>
    rw [invR_yes hb]
    have H2 := hide (fun w' (hb' : Below w.heap.size w w') => l2inv_any A n c B zs w' (h.below hb') hb)
    clear hb h
    go_enter Try.func33, Try.ntmps33
    go_wp2_with fail
    refine (unhide H1).mono ?_
    rintro e w1 ⟨rfl, hd⟩
    have hb := hd.below w.heap.size
    have H3 := hide (unhide H2 w1 hb)
    clear hd H1 H2
    go_wp2_with fail
    refine (unhide H3).mono ?_
    rintro e w2 ⟨A2, c2, rfl, own2, hb2⟩
    clear H3
    go_wp2
    go_ret2
    exact GivesIB.mk true (own2.low hb.size) (below_after hb hb2)
end Go.Proofs.Ytichenjbkclljaa


/-
  laws.sameInts, laws.sameLists, at equal lists, by their contracts.
-/

namespace Go.Proofs.Ytichenjbkclljaa
set_option maxRecDepth 100000
open Go.RowKit

set_option maxHeartbeats 400000 in
/-- laws.sameInts: equal lists. -/
theorem samei_any (A A' : Option Addr) (n c n' c' B B' : Nat) (zs : List Int) (w : World) (hr : Reads w B A n (i64s zs)) (hr' : Reads w B' A' n' (i64s zs)) (hn : n ≤ 1099511627776) :
    Calls Try.prog 25 #[.slice A n c, .slice A' n' c'] w fun e w' => e = .returned (.bool true) ∧ Drew w w' := by
  have e1 : zs.length = n := by have := hr.1; rwa [i64_length] at this
  have e2 : zs.length = n' := by have := hr'.1; rwa [i64_length] at this
  obtain rfl : n = n' := by omega
  clear e1 e2
  go_enter Try.func25, Try.ntmps25
  go_wp2
  go_loopw [5] (fun i wr => ∃ k : Nat, k ≤ n ∧ i = .int .i64 k ∧ Drew w wr) (fun i _ => n - (intOf i).toNat)
  case atStart => exact ⟨0, Nat.zero_le _, rfl, Drew.refl _⟩
  case round =>
    obtain ⟨k, hk, rfl, hd⟩ := hrel
    by_cases hlt : k < n
    · obtain ⟨ad, u, rfl, _, hx, hc⟩ := (hr.ofDrew hd).at_ hlt
      obtain ⟨ad', u', rfl, _, hx', hc'⟩ := (hr'.ofDrew hd).at_ hlt
      obtain ⟨s, hs, rfl⟩ := i64_at hx
      obtain ⟨s', hs', rfl⟩ := i64_at hx'
      obtain rfl : s = s' := by rw [hs] at hs'; exact Option.some.inj hs'
      clear hx hx' hs hs' hr hr'
      have HD := hide hd
      clear hd
      go_wp2
      go_quiet (fail)
      go_wp2
      go_roundw
      case rel => exact ⟨k + 1, by omega, by go_num, (unhide HD).more _⟩
      case measure => simp [intOf]; omega
    · go_wp2
      go_ret
      exact ⟨rfl, hd⟩

set_option maxHeartbeats 400000 in
/-- laws.sameLists: equal lists of rows. -/
theorem samess_any (A A' : Option Addr) (n c n' c' B B' : Nat) (zss : List (List Int)) (w : World) (hr : IntsS w B (.slice A n c) zss) (hr' : IntsS w B' (.slice A' n' c') zss) (hn : n ≤ 1048576) (ht : tot zss ≤ 1099511627776) :
    Calls Try.prog 20 #[.slice A n c, .slice A' n' c'] w fun e w' => e = .returned (.bool true) ∧ Drew w w' := by
  have e1 := hr.len
  have e2 := hr'.len
  obtain rfl : n = n' := by omega
  have HE := hide e1
  clear e1 e2
  go_enter Try.func20, Try.ntmps20
  go_wp2
  go_loopw [5] (fun i wr => ∃ k : Nat, k ≤ n ∧ i = .int .i64 k ∧ Drew w wr) (fun i _ => n - (intOf i).toNat)
  case atStart => exact ⟨0, Nat.zero_le _, rfl, Drew.refl _⟩
  case round =>
    obtain ⟨k, hk, rfl, hd⟩ := hrel
    by_cases hlt : k < n
    · obtain ⟨ad, A1, c1, zs, rfl, hz, hc, hI⟩ := (hr.below (hd.below _)).at_ hlt
      obtain ⟨ad', A1', c1', zs', rfl, hz', hc', hI'⟩ := (hr'.below (hd.below _)).at_ hlt
      obtain rfl : zs = zs' := by rw [hz] at hz'; exact Option.some.inj hz'
      have hle := tot_at hz
      have HD := hide hd
      have H1 := hide hI.reads
      have H2 := hide hI'.reads
      clear hz hz' hd hI hI' hr hr'
      go_wp2
      go_quiet ((go_at_call 25; exact Calls.quiet_of (samei_any _ _ _ _ _ _ _ _ zs _ ((unhide H1).drewN _) ((unhide H2).drewN _) (by omega))))
      go_wp2
      go_roundw
      case rel => exact ⟨k + 1, by omega, by go_num, (unhide HD).more _⟩
      case measure => simp [intOf]; omega
    · go_wp2
      go_ret
      exact ⟨rfl, hd⟩
end Go.Proofs.Ytichenjbkclljaa


/-
  laws.big, by its contract.
-/

namespace Go.Proofs.Ytichenjbkclljaa
set_option maxRecDepth 100000
open Go.RowKit
theorem big_any (A : Option Addr) (n c : Nat) (hn : n ≤ 9223372036854775807) (w : World) :
    Calls Try.prog 11 #[.slice A n c] w fun e w' => e = .returned (.bool (decide (1048576 < n))) ∧ w = w' := by
  go_enter Try.func11, Try.ntmps11
  go_wp2
  go_ret
  exact ⟨ret_bool (by simp; omega), rfl⟩
end Go.Proofs.Ytichenjbkclljaa
