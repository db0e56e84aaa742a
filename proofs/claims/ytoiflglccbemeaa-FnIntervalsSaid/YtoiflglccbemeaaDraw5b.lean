
/-
  THE DRAWS OF CHAPTER 5, the others: spec.DrawIsInterval, spec.DrawInflateBy, by their contracts.
-/
import Derived.Test.YtoiflglccbemeaaDraw5
namespace Go.Proofs.Ytoiflglccbemeaa
set_option maxRecDepth 100000
open Go.RowKit

/-- A row of two numbers: where it lies, its cells. -/
theorem Ints.pair {w : World} {B n c : Nat} {A : Option Addr} {f t : Int} (h : Ints w B (.slice A n c) [f, t]) : ∃ g, A = some ⟨g, 0, none⟩ ∧ n = 2 ∧ B ≤ g ∧ g < w.heap.size ∧ w.cell? ⟨g, 0, none⟩ = some (.int .i64 f) ∧ w.cell? ⟨g, 1, none⟩ = some (.int .i64 t) := by
  have hl := h.len
  have h' : Row w B (.slice A n c) 2 (i64s [f, t]) := h
  rcases h'.2 with ⟨_, h0⟩ | ⟨g, cap, cur, e, hv, hb, hg, _⟩
  · cases h0
  · injection hv with hA hn
    subst hA
    have c0 := Row.cells (g := g) h' rfl 0 (by omega)
    have c1 := Row.cells (g := g) h' rfl 1 (by omega)
    exact ⟨g, rfl, by simpa using hl.symm, hb, (Array.getElem?_eq_some_iff.1 hg).1, c0, c1⟩

set_option maxHeartbeats 3200000 in
theorem disiv_any (A : Option Addr) (n c B : Nat) (bs : List UInt8) (w : World) (hr : Reads w B A n (u8s bs)) (hn : n ≤ 1048576) (hB : B ≤ w.heap.size) :
    Calls Try.prog 14 #[.slice A n c] w (DrewIII w) := by
  have H1 := hide (new_any A n c B bs w hr hn hB)
  clear hr
  go_enter Try.func14, Try.ntmps14
  go_wp2_with fail
  refine (unhide H1).mono ?_
  rintro e w1 ⟨cb, rfl, hcb, hc1, hb1⟩
  have hS0 := Side.start hc1
  have hsz1 := hb1.size
  have H2 := hide (l5bent_any B cb w1 hc1)
  clear H1 hc1
  go_wp2_with fail
  refine (unhide H2).mono ?_
  rintro e w2 ⟨A2, c2, zs, rfl, hl, hI, hc2, hg2⟩
  have hS2 := hS0.drawn hc2 hg2
  have hI2 := hI.low hS0.size
  have HL := hide hl
  have H3 := hide (sivs_any A2 _ c2 _ zs w2 (hl.arg hI2 (by omega)))
  clear H2 hS0 hl hI hg2 hc2
  go_wp2_with fail
  refine (unhide H3).mono ?_
  rintro e w3 ⟨A3, c3, rfl, own3, hb3⟩
  have hS3 := hS2.below hb3
  have hI3 := hI2.below hb3
  have hO3 := own3.low hS2.size
  have HM := hide (fun z (hz : z ∈ ivsR zs) => mem_ivsR hz)
  have hl64 := (ivsR_small zs).1
  obtain ⟨l, hll⟩ : ∃ l, l = ivsR zs := ⟨_, rfl⟩
  rw [← hll] at hO3 HM hl64 ⊢
  clear H3 hS2 hI2 hb3 own3 hll
  by_cases h0 : 0 < l.length
  · have H4 := hide (once_any B cb 2 (by omega) w3 hS3.cur)
    have h0' : (0 : Int) < (l.length : Int) := by omega
    go_wp2_with fail
    refine (unhide H4).mono ?_
    rintro e w4 ⟨v, rfl, ⟨b, rfl⟩, hc4, hg4⟩
    have hS4 := hS3.drawn hc4 hg4
    have hI4 := hI3.drawn hg4 hS3.lt
    have hO4 := hO3.drawn hg4 hS3.lt
    clear H4 hS3 hI3 hO3 hg4 hc4
    cases b with
    | true =>
      have H5 := hide (below_any B cb (l.length : Int) (by omega) w4 hS4.cur)
      go_wp2_with fail
      refine (unhide H5).mono ?_
      rintro e w5 ⟨v, rfl, ⟨x, rfl, hx0, hx1⟩, hc5, hg5⟩
      rw [if_pos (by omega)] at hx1
      obtain ⟨m, rfl⟩ : ∃ m : Nat, x = m := ⟨x.toNat, by omega⟩
      have hS5 := hS4.drawn hc5 hg5
      have hI5 := hI4.drawn hg5 hS4.lt
      have hO5 := hO4.drawn hg5 hS4.lt
      have hml : m < l.length := by omega
      obtain ⟨ad, A6, c6, z, rfl, hz, hcell, hIz⟩ := hO5.at_ hml
      obtain ⟨_, f, t, rfl, _, hf1, hf8, ht1, ht8⟩ := unhide HM z (List.mem_of_getElem? hz)
      obtain ⟨g, rfl, _, _, _, p0, p1⟩ := hIz.pair
      have hb5 := hide (hS5.under hb1 hcb)
      have hI6 := hide (hI5.low hsz1)
      simp only [List.length_cons, List.length_nil] at hcell
      clear H5 hS4 hI4 hO4 hg5 hc5 hz hIz hO5 hS5 hI5 hx0 hx1
      go_wp2
      go_quiet (fail)
      go_wp2
      go_ret3
      exact DrewIII.mk ((unhide hI6).below (((Drew.refl _).more _).below _)) (unhide HL) (by omega) (by omega) ((unhide hb5).trans (((Drew.refl _).more _).below _))
    | false =>
      have H6 := hide (below_any B cb 10 (by omega) w4 hS4.cur)
      go_wp2_with fail
      refine (unhide H6).mono ?_
      rintro e w8 ⟨v, rfl, ⟨x, rfl, hx0, hx1⟩, hc8, hg8⟩
      rw [if_pos (by omega)] at hx1
      have hS8 := hS4.drawn hc8 hg8
      have hI8 := hI4.drawn hg8 hS4.lt
      have H7 := hide (below_any B cb 10 (by omega) w8 hc8)
      clear H6 hS4 hI4 hO4 hg8 hc8
      go_wp2_with fail
      refine (unhide H7).mono ?_
      rintro e w9 ⟨v, rfl, ⟨y, rfl, hy0, hy1⟩, hc9, hg9⟩
      rw [if_pos (by omega)] at hy1
      have hS9 := hS8.drawn hc9 hg9
      have hI9 := (hI8.drawn hg9 hS8.lt).low hsz1
      have hb9 := hS9.under hb1 hcb
      clear H7 hS8 hI8 hS9 hg9 hc9
      go_wp2
      go_ret3
      exact DrewIII.mk hI9 (unhide HL) (by omega) (by omega) hb9
  · have h0' : ¬ (0 : Int) < (l.length : Int) := by omega
    have H6 := hide (below_any B cb 10 (by omega) w3 hS3.cur)
    go_wp2_with fail
    refine (unhide H6).mono ?_
    rintro e w8 ⟨v, rfl, ⟨x, rfl, hx0, hx1⟩, hc8, hg8⟩
    rw [if_pos (by omega)] at hx1
    have hS8 := hS3.drawn hc8 hg8
    have hI8 := hI3.drawn hg8 hS3.lt
    have H7 := hide (below_any B cb 10 (by omega) w8 hc8)
    clear H6 hS3 hI3 hO3 hg8 hc8
    go_wp2_with fail
    refine (unhide H7).mono ?_
    rintro e w9 ⟨v, rfl, ⟨y, rfl, hy0, hy1⟩, hc9, hg9⟩
    rw [if_pos (by omega)] at hy1
    have hS9 := hS8.drawn hc9 hg9
    have hI9 := (hI8.drawn hg9 hS8.lt).low hsz1
    have hb9 := hS9.under hb1 hcb
    clear H7 hS8 hI8 hS9 hg9 hc9
    go_wp2
    go_ret3
    exact DrewIII.mk hI9 (unhide HL) (by omega) (by omega) hb9

theorem IntsS.putFresh {w : World} {B g n cap k : Nat} {zss : List (List Int)} {z : List Int} {u : Value} (h : Fresh w B (.slice (some ⟨g, 0, none⟩) n cap) zss u) (hu : Ints w B u z) :
    IntsS (w.setCell ⟨g, k, none⟩ u) B (.slice (some ⟨g, 0, none⟩) n cap) (zss.set k z) ∧ KeepI w (w.setCell ⟨g, k, none⟩ u) := by
  obtain ⟨vs, h2, h3, ha⟩ := h
  have hl : n = zss.length := by
    rcases h2.2 with ⟨hv, hz⟩ | ⟨g', cap', cur, hv, _⟩
    · injection hv with _ h3; omega
    · injection hv
  subst hl
  have st := h2.stored k u
  have hk := KeepI.of_grown h2 st.2
  refine ⟨⟨vs.set k u, by rw [List.length_set]; exact st.1, ?_⟩, hk⟩
  exact (h3.keepI hk).set k (hu.keepI hk) ha

set_option maxHeartbeats 3200000 in
theorem dinfl_any (A : Option Addr) (n c B : Nat) (bs : List UInt8) (w : World) (hr : Reads w B A n (u8s bs)) (hn : n ≤ 1048576) (hB : B ≤ w.heap.size) :
    Calls Try.prog 16 #[.slice A n c] w (DrewIS w) := by
  have H1 := hide (new_any A n c B bs w hr hn hB)
  clear hr
  go_enter Try.func16, Try.ntmps16
  go_wp2_with fail
  refine (unhide H1).mono ?_
  rintro e w1 ⟨cb, rfl, hcb, hc1, hb1⟩
  have hS0 := Side.start hc1
  have hsz1 := hb1.size
  have H2 := hide (below_any B cb 4 (by omega) w1 hc1)
  clear H1 hc1
  go_wp2_with fail
  refine (unhide H2).mono ?_
  rintro e w2 ⟨v, rfl, ⟨x, rfl, hx0, hx1⟩, hc2, hg2⟩
  rw [if_pos (by omega)] at hx1
  obtain ⟨m, rfl⟩ : ∃ m : Nat, x = m := ⟨x.toNat, by omega⟩
  have hS2 := hS0.drawn hc2 hg2
  obtain ⟨L, hL⟩ : ∃ L, 1 + m = L := ⟨_, rfl⟩
  have H3 := hide (l2drawE_any B cb L (by omega) w2 hc2)
  rw [show (L : Int) = 1 + (m : Int) by omega] at H3
  clear H2 hS0 hc2 hg2 hx0
  go_wp2_with fail
  refine (unhide H3).mono ?_
  rintro e w3 ⟨A3, c3, p, rfl, hpl, hps, hown, hc3, hg3⟩
  have hp3 : Ints w3 w1.heap.size (.slice A3 L c3) p := (Ints.of_own hown).low hS2.size
  have hS3 := hS2.drawn hc3 hg3
  have hI0 := IntsS.made0 w3 w1.heap.size hS3.size
  have hal0 := (Below.refl w3.heap.size w3).alloc (Nat.le_refl _) (.cells #[] 24)
  have hSb := hS3.below hal0
  have hpb := hp3.below hal0
  have HP := hide (show Lite 9 p from ⟨by omega, hps⟩)
  have hL1 : 1 ≤ L := by omega
  have hL4 : L ≤ 4 := by omega
  have HPL := hide hpl
  clear H3 hS2 hown hc3 hg3 hpl hps hL hx1 hS3 hp3 hal0
  go_wp2
  go_loopw [6, 7] (fun v i wr => ∃ (k : Nat) (zss : List (List Int)), k ≤ L ∧ i = .int .i64 k ∧ zss.length = k ∧ IntsS wr w1.heap.size v zss ∧ Hid (∀ z ∈ zss, Lite 9 z) ∧ Side B cb w1 wr ∧ Ints wr w1.heap.size (.slice A3 L c3) p) (fun _ i _ => L - (intOf i).toNat)
  case atStart => exact ⟨0, [], Nat.zero_le _, rfl, rfl, hI0, fun z hz => by simp at hz, hSb, hpb⟩
  case round =>
    obtain ⟨k, zss, hk, rfl, hzl, hI, hLz, hS, hp⟩ := hrel
    clear hI0 hSb hpb
    by_cases hlt : k < L
    · have H5 := hide (below_any B cb 2 (by omega) wr hS.cur)
      have HZL := hide hzl
      clear hzl
      go_wp2_with fail
      refine (unhide H5).mono ?_
      rintro e w7 ⟨v, rfl, ⟨y, rfl, hy0, hy1⟩, hc7, hg7⟩
      rw [if_pos (by omega)] at hy1
      obtain ⟨m2, rfl⟩ : ∃ m2 : Nat, y = m2 := ⟨y.toNat, by omega⟩
      have hS7 := hS.drawn hc7 hg7
      have hI7 := hI.drawn hg7 hS.lt
      have hp7 := hp.drawn hg7 hS.lt
      have H6 := hide (l2draw_any B cb (1 + m2) (by omega) w7 hc7)
      rw [show ((1 + m2 : Nat) : Int) = 1 + (m2 : Int) by omega] at H6
      have hm23 : 1 + m2 ≤ 9 := by omega
      clear H5 hS hI hp hc7 hg7 hy0
      go_wp2_with fail
      refine (unhide H6).mono ?_
      rintro e w8 ⟨A8, c8, z8, rfl, hl8, hown8, hc8, hg8⟩
      have hu := Ints.of_own hown8
      have hF := hI7.fresh hg8 hS7.lt hu
      have hS8 := hS7.drawn hc8 hg8
      have hp8 := hp7.drawn hg8 hS7.lt
      have hu8 := hu.low hS7.size
      have hlen : zss.length ≤ 1048576 := by have := unhide HZL; omega
      have hL2 := hide (show ∀ z ∈ zss ++ [z8], Lite 9 z from fun z hz => by
        rcases List.mem_append.1 hz with hz | hz
        · exact unhide hLz z hz
        · rw [List.mem_singleton] at hz; subst hz; exact hl8.more hm23)
      have hsz := hS8.size
      clear H6 hl8 hown8 hu hI7 hS7 hp7 hc8 hg8 hLz
      go_wp2_with (first
        | (at_builtin; refine wpList_push_fresh_keep rfl (.tmp 22) (.tmp 28) rfl w1.heap.size w8 _ _ zss z8 rfl rfl rfl hF hu8 hlen hsz ?_))
      intro v9 w9 hI9 hb9 hk9
      have hS9 := hS8.low hb9
      have hp9 := hp8.keepI hk9
      have hlen9 : (zss ++ [z8]).length = k + 1 := by rw [List.length_append, unhide HZL]; rfl
      clear hF hu8 hS8 hb9 hp8 hk9
      go_wp2
      go_roundw
      case rel => exact ⟨k + 1, zss ++ [z8], by omega, by go_num, hlen9, hI9, hL2, hS9, hp9⟩
      case measure => simp [intOf]; omega
    · obtain rfl : L = k := by omega
      have H5 := hide (below_any B cb 12 (by omega) wr hS.cur)
      have HZL := hide hzl
      obtain ⟨A9, c9, rfl⟩ := hI.slice
      clear hzl
      go_wp2_with fail
      refine (unhide H5).mono ?_
      rintro e w7 ⟨v, rfl, ⟨y, rfl, hy0, hy1⟩, hc7, hg7⟩
      rw [if_pos (by omega)] at hy1
      have hS7 := hS.drawn hc7 hg7
      have hI7 := hI.drawn hg7 hS.lt
      have hp7 := hp.drawn hg7 hS.lt
      clear H5 hS hI hp hg7
      have hzn : zss.length ≤ 4 := by have := unhide HZL; omega
      by_cases h0 : y = 0
      · subst h0
        have hal := (Below.refl w7.heap.size w7).alloc (Nat.le_refl _) (.cells #[.int .i64 1] 3)
        have hu : Ints (w7.alloc (.cells #[.int .i64 1] 3)) w7.heap.size (.slice (some ⟨w7.heap.size, 0, none⟩) 1 1) [1] :=
          Ints.of_own (zs := [1]) ⟨rfl, .inr ⟨w7.heap.size, 1, #[.int .i64 1], rfl, Nat.le_refl _, heap_alloc_new w7 _, Nat.le_refl _, by unfold maxLen; omega, rfl, rfl⟩⟩
        have hp8 := hp7.below hal
        have hsz7 := hS7.size
        have hb8 := hal.mono hsz7
        have hL2 : Hid (∀ z ∈ zss ++ [[1]], Lite 9 z) := hide (fun z hz => by
          rcases List.mem_append.1 hz with hz | hz
          · exact unhide hLz z hz
          · rw [List.mem_singleton] at hz; subst hz; exact ⟨by simp, fun x hx => by simp at hx; subst hx; omega⟩)
        have hlen : zss.length ≤ 1048576 := by omega
        clear hp7 hLz
        go_wp2_with (first
          | (at_builtin; refine wpList_push_row_keep rfl (.tmp 34) (.tmp 36) rfl w1.heap.size w7 w7 _ _ _ zss [1] rfl ?c1 ?c2 hI7 hal hu hlen hb8 hsz7 ?_))
        case c1 => simp; rfl
        case c2 => rfl
        intro v9 w9 hI9 hb9 hk9
        have hS9 := hS7.low hb9
        have hp9 := (hp8.keepI hk9).low hsz1
        have hI10 := hI9.low hsz1
        have hb10 := hS9.under hb1 hcb
        have hn5 : (zss ++ [[1]]).length ≤ 10 := by rw [List.length_append]; simp; omega
        clear hI7 hal hu hb8 hI9 hb9 hk9 hS9 hS7 hp8 hc7
        go_wp2
        go_ret2
        exact DrewIS.mk hp9 hI10 (unhide HP) hn5 (unhide hL2) hb10
      · by_cases h1 : y = 1
        · subst h1
          obtain ⟨g, rfl⟩ := hI7.shape (by have := unhide HZL; omega)
          have H6 := hide (l2bent_any B cb w7 hc7)
          have hzpos : 0 < zss.length := by have := unhide HZL; omega
          go_wp2_with fail
          refine (unhide H6).mono ?_
          rintro e w8 ⟨A8, c8, z8, rfl, hl8, hu, hc8, hg8⟩
          have hF := hI7.fresh hg8 hS7.lt hu
          have hS8 := hS7.drawn hc8 hg8
          have hp8 := hp7.drawn hg8 hS7.lt
          have hI8 := hI7.drawn hg8 hS7.lt
          obtain ⟨⟨old, hold⟩, hfz, hge⟩ := hI8.old (k := 0) hzpos
          obtain ⟨hI9, hk9⟩ := IntsS.putFresh (k := 0) hF (hu.low hS7.size)
          have hS9 := hS8.low ((Below.refl w1.heap.size w8).setCell (p := ⟨g, 0, none⟩) hge (.slice A8 z8.length c8))
          have hp9 := (hp8.keepI hk9).low hsz1
          have hI10 := hI9.low hsz1
          have hb10 := hS9.under hb1 hcb
          have hL2 : Hid (∀ z ∈ zss.set 0 z8, Lite 9 z) := hide (fun z hz => by
            rcases List.mem_or_eq_of_mem_set hz with hz | hz
            · exact unhide hLz z hz
            · subst hz; exact hl8)
          have hn5 : (zss.set 0 z8).length ≤ 10 := by rw [List.length_set]; omega
          clear H6 hc7 hS7 hI7 hp7 hl8 hu hc8 hg8 hF hS8 hp8 hI8 hge hk9 hI9 hS9 hLz
          go_wp2
          go_ret2
          exact DrewIS.mk hp9 hI10 (unhide HP) hn5 (unhide hL2) hb10
        · have hp9 := hp7.low hsz1
          have hI10 := hI7.low hsz1
          have hb10 := hS7.under hb1 hcb
          have hy0' : (y == 0) = false := by rw [beq_eq_false_iff_ne]; exact h0
          have hy1' : (y == 1) = false := by rw [beq_eq_false_iff_ne]; exact h1
          have hn5 : zss.length ≤ 10 := by omega
          clear hp7 hI7 hS7 hc7
          go_wp2
          go_ret2
          exact DrewIS.mk hp9 hI10 (unhide HP) hn5 (unhide hLz) hb10
end Go.Proofs.Ytoiflglccbemeaa
