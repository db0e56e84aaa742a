/-
  Words and contracts that the laws lean on, bundled: DrawI, Filled, Push, Fresh, DrawL, PermS, Blk, Asc, ArrEq.
-/
import Derived.Test.YtplchjeamooliaaGreatDoorB1
import Derived.Maps.AppendAt
import Derived.Test.YtplchjeamooliaaGreatDoorProg
import Derived.Deep.QuietTactic
import Derived.BigQuiet
import Derived.Laws.Rows
import Derived.Laws.Tables
import Derived.Laws.StructEq

/-
  DRAWS OF ROWS OF INTEGERS: spec.l2Draw, spec.l2Any, spec.l2Bent, by their contracts.
-/

namespace Go.Proofs.YtplchjeamooliaaGreatDoor
set_option maxRecDepth 100000
open Go.RowKit

/-- What a call that draws has done so far: the cursor stands in block cb; of the blocks that were there the cursor's alone may have turned. -/
structure Side (B cb : Nat) (w wr : World) : Prop where
  cur : Cur wr B cb
  lt : cb < w.heap.size
  gr : w.grownBy wr (some cb)
theorem Cur.base {w : World} {B cb : Nat} (h : Cur w B cb) : B ≤ cb := by
  obtain ⟨_, _, _, _, _, _, _, _, _, _, hB⟩ := h
  exact hB
theorem Side.start {B cb : Nat} {w : World} (h : Cur w B cb) : Side B cb w w := ⟨h, h.lt, World.grownBy.refl w _⟩
theorem Side.size {B cb : Nat} {w wr : World} (h : Side B cb w wr) : w.heap.size ≤ wr.heap.size := h.gr.size
theorem Cur.low {w w' : World} {B cb L : Nat} (h : Cur w B cb) (hL : cb < L) (hb : Below L w w') : Cur w' B cb := by
  obtain ⟨A, n, c, k, bs, x, h1, hr, hn, hk, hB⟩ := h
  exact ⟨A, n, c, k, bs, x, (hb.block cb hL).trans h1, hr.below (hb.mono (by omega)), hn, hk, hB⟩
/-- Work of the call's own. -/
theorem Side.low {B cb : Nat} {w wr w' : World} (h : Side B cb w wr) (hb : Below w.heap.size wr w') : Side B cb w w' :=
  ⟨h.cur.low h.lt hb, h.lt, ⟨hb.os.trans h.gr.os, hb.tape.trans h.gr.tape, hb.output.trans h.gr.output, Nat.le_trans h.gr.size hb.size, fun i hi hne => (hb.block i hi).trans (h.gr.block i hi hne)⟩⟩
theorem Side.below {B cb : Nat} {w wr w' : World} (h : Side B cb w wr) (hb : Below wr.heap.size wr w') : Side B cb w w' := h.low (hb.mono h.size)
/-- A draw. -/
theorem Side.drawn {B cb : Nat} {w wr w' : World} (h : Side B cb w wr) (hc : Cur w' B cb) (hg : wr.grownBy w' (some cb)) : Side B cb w w' := ⟨hc, h.lt, grown_then h.gr hg⟩
theorem own_drawn {w w' : World} {B cb n : Nat} {e : TypeId} {v : Value} {xs : List Value} (h : w.ownsRow B e 1 v n xs) (hg : w.grownBy w' (some cb)) (hc : cb < B) : w'.ownsRow B e 1 v n xs := by
  refine h.kept hg ?_
  cases hv : v.ownBlock with
  | none => exact .inl rfl
  | some k => exact .inr (fun e => by have := (h.lt k hv).1; injection e with e; omega)
theorem Ints.drawn {w w' : World} {B cb : Nat} {v : Value} {zs : List Int} (h : Ints w B v zs) (hg : w.grownBy w' (some cb)) (hc : cb < B) : Ints w' B v zs := by
  refine h.kept hg ?_
  cases hv : v.ownBlock with
  | none => exact .inl rfl
  | some k => exact .inr (fun e => by have := h.since k hv; injection e with e; omega)
theorem Inner.drawn {w w' : World} {B cb : Nat} {vs : List Value} {zss : List (List Int)} (h : Inner w B vs zss) (hg : w.grownBy w' (some cb)) (hc : cb < B) : Inner w' B vs zss :=
  ⟨h.len, fun i u zs hu hz => (h.row i u zs hu hz).drawn hg hc, h.away⟩
theorem IntsS.drawn {w w' : World} {B cb : Nat} {v : Value} {zss : List (List Int)} (h : IntsS w B v zss) (hg : w.grownBy w' (some cb)) (hc : cb < B) : IntsS w' B v zss := by
  obtain ⟨vs, h1, h2⟩ := h
  exact ⟨vs, own_drawn h1 hg hc, h2.drawn hg hc⟩

/-- What is drawn is short and its numbers have 64 bits. -/
def Lite (L : Nat) (zs : List Int) : Prop := zs.length ≤ L ∧ Small zs
/-- A row that was drawn, with room to grow. -/
def DrawnO (B cb : Nat) (w : World) (L : Nat) (e : Ending) (w' : World) : Prop :=
  ∃ A c zs, e = .returned (.slice A zs.length c) ∧ Lite L zs ∧ w'.ownsRow w.heap.size 3 1 (.slice A zs.length c) zs.length (i64s zs) ∧ Cur w' B cb ∧ w.grownBy w' (some cb)
/-- .. of a known length. -/
def DrawnE (B cb : Nat) (w : World) (L : Nat) (e : Ending) (w' : World) : Prop :=
  ∃ A c zs, e = .returned (.slice A L c) ∧ zs.length = L ∧ Small zs ∧ w'.ownsRow w.heap.size 3 1 (.slice A L c) L (i64s zs) ∧ Cur w' B cb ∧ w.grownBy w' (some cb)
theorem DrawnE.mk {B cb L : Nat} {w w' : World} {v : Value} {zs : List Int} (hI : w'.ownsRow w.heap.size 3 1 v L (i64s zs)) (hn : zs.length = L) (hl : Small zs) (h : Side B cb w w') : DrawnE B cb w L (.returned v) w' := by
  obtain ⟨A, c, rfl, _⟩ := Reads.of_own hI
  exact ⟨A, c, zs, rfl, hn, hl, hI, h.cur, h.gr⟩
theorem DrawnO.mk {B cb L : Nat} {w w' : World} {v : Value} {zs : List Int} (hI : w'.ownsRow w.heap.size 3 1 v zs.length (i64s zs)) (hl : Lite L zs) (h : Side B cb w w') : DrawnO B cb w L (.returned v) w' := by
  obtain ⟨A, c, rfl, _⟩ := Reads.of_own hI
  exact ⟨A, c, zs, rfl, hl, hI, h.cur, h.gr⟩
/-- A row that was drawn. -/
def DrawnI (B cb : Nat) (w : World) (L : Nat) (e : Ending) (w' : World) : Prop :=
  ∃ A c zs, e = .returned (.slice A zs.length c) ∧ Lite L zs ∧ Ints w' w.heap.size (.slice A zs.length c) zs ∧ Cur w' B cb ∧ w.grownBy w' (some cb)
theorem DrawnI.mk {B cb L : Nat} {w w' : World} {v : Value} {zs : List Int} (hI : Ints w' w.heap.size v zs) (hl : Lite L zs) (h : Side B cb w w') : DrawnI B cb w L (.returned v) w' := by
  obtain ⟨A, c, rfl⟩ := hI.slice
  exact ⟨A, c, zs, rfl, hl, hI, h.cur, h.gr⟩
theorem Lite.more {L L' : Nat} {zs : List Int} (h : Lite L zs) (hL : L ≤ L') : Lite L' zs := ⟨Nat.le_trans h.1 hL, h.2⟩
theorem Lite.arg {w : World} {B n c L : Nat} {A : Option Addr} {zs : List Int} (h : Lite L zs) (hI : Ints w B (.slice A n c) zs) (hL : L ≤ 1048576) : Arg w w.heap.size A n c zs :=
  hI.arg (by have := hI.len; have := h.1; omega) hI.cap h.2
theorem small_nil : Small [] := fun z hz => by simp at hz
theorem small_put {zs : List Int} {at_ : Nat} {k : Int} (h : Small zs) (hk : -9223372036854775808 ≤ k ∧ k ≤ 9223372036854775807) : Small (zs.take at_ ++ [k] ++ zs.drop at_) := fun z hz => by
  rcases List.mem_append.1 hz with hz | hz
  · rcases List.mem_append.1 hz with hz | hz
    · exact h z (List.mem_of_mem_take hz)
    · rw [List.mem_singleton] at hz; subst hz; exact hk
  · exact h z (List.mem_of_mem_drop hz)

theorem own_base {w : World} {B B' n : Nat} {e : TypeId} {v : Value} {xs : List Value} (h : w.ownsRow B e 1 v n xs) (hB : B' ≤ B) : w.ownsRow B' e 1 v n xs := by
  refine ⟨h.1, ?_⟩
  rcases h.2 with h2 | ⟨g, cap, cur, e, hb, h2⟩
  · exact .inl h2
  · exact .inr ⟨g, cap, cur, e, Nat.le_trans hB hb, h2⟩
theorem take_i64 (zs : List Int) (s : Nat) : (i64s zs).take s = i64s (zs.take s) := by unfold i64s; rw [List.map_take]
theorem drop_i64 (zs : List Int) (s : Nat) : (i64s zs).drop s = i64s (zs.drop s) := by unfold i64s; rw [List.map_drop]
theorem i64_snoc2 (xs : List Int) (z : Int) : i64s xs ++ [Value.int .i64 z] = i64s (xs ++ [z]) := by unfold i64s; simp

set_option maxHeartbeats 1600000 in
theorem l2drawE_any (B cb m : Nat) (hm : m ≤ 16) (w : World) (hc : Cur w B cb) :
    Calls Tryz.prog 78 #[.pointer (some ⟨cb, 0, none⟩), .int .i64 m] w (DrawnE B cb w m) := by
  obtain ⟨i0, hi, hz0, hz1, hz2⟩ := info_parts intInfo
  have hS0 := Side.start hc
  have hst := own0 w w.heap.size (Nat.le_refl _)
  have hS := hS0.below ((Below.refl w.heap.size w).alloc (Nat.le_refl _) (.cells #[] 3))
  clear hS0 hc
  go_enter Tryz.func78, Tryz.ntmps78
  go_wp2
  go_loopw [5, 6, 7, 8] (fun v i _ _ wr => ∃ (k : Nat) (zs : List Int) (g cap : Nat), k ≤ m ∧ i = .int .i64 ((k : Int) + 1) ∧ v = .slice (some ⟨g, 0, none⟩) k cap ∧ zs.length = k ∧ k ≤ cap ∧ w.heap.size ≤ g ∧ Hid (Small zs) ∧ Side B cb w wr ∧ wr.ownsRow w.heap.size 3 1 (.slice (some ⟨g, 0, none⟩) k cap) k (i64s zs)) (fun _ i _ _ _ => m + 1 - (intOf i).toNat)
  case atStart => exact ⟨0, [], w.heap.size, 0, Nat.zero_le _, rfl, rfl, rfl, Nat.le_refl _, Nat.le_refl _, small_nil, hS, hst⟩
  case round =>
    obtain ⟨k, zs, g, cap, hk, rfl, rfl, hzl, hkc, hgb, hsm, hS, hown⟩ := hrel
    clear hst
    by_cases hlt : k < m
    · have H1 := hide (below_any B cb ((k : Int) + 1) (by omega) wr hS.cur)
      have hlt' : (k : Int) + 1 ≤ (m : Int) := by omega
      have HZL := hide hzl
      clear hzl
      go_wp2_with fail
      refine (unhide H1).mono ?_
      rintro e w1 ⟨v, rfl, ⟨x, rfl, hx0, hx1⟩, hc1, hg1⟩
      rw [if_pos (by omega)] at hx1
      obtain ⟨s, rfl⟩ : ∃ s : Nat, x = s := ⟨x.toNat, by omega⟩
      have hsk : s ≤ k := by omega
      have hown1 := own_drawn hown hg1 hS.lt
      have hS1 := hS.drawn hc1 hg1
      clear H1 hown hc1 hg1 hS hx0 hx1
      by_cases hsc : s < cap
      · have hsc' : (s : Int) < (cap : Int) := by omega
        have hsk' : (s : Int) ≤ (k : Int) := by omega
        have hE := own0 w1 w1.heap.size (Nat.le_refl _)
        have hal := (Below.refl w1.heap.size w1).alloc (Nat.le_refl _) (.cells #[] 3)
        have hsz1 := hS1.size
        have hA : Arg (w1.alloc (.cells #[] 3)) w1.heap.size (some ⟨g, s, none⟩) (k - s) (cap - s) (zs.drop s) := by
          refine ⟨by rw [← drop_i64]; exact (own_rest hown1 hsk).below hal, by simp, by omega, by omega, fun z hz => unhide hsm z (List.mem_of_mem_drop hz), fun e => by cases e⟩
        go_wp2_with (first
          | (at_builtin; refine wpList_append_arg rfl (.tmp 20) (.tmp 23) rfl w1.heap.size w1.heap.size 0 (k - s) (cap - s) w1 _ (some ⟨g, s, none⟩) [] (zs.drop s) rfl rfl hE hA (by omega) hal hal.size ?_))
        intro v2 w2 hown2 hb2 hg2
        clear hE hA hal hg2
        have hown3 := own_cut (own_below hown1 hb2) hsk
        rw [take_i64] at hown3
        have hS2 := hS1.below hb2
        have hgw1 := (hown1.lt g rfl).2
        clear hown1 hS1
        go_wp2_with (first
          | (at_builtin; refine wpList_append_one rfl (.tmp 27) (.tmp 29) 27 rfl w.heap.size 3 i0 (.int .i64 0) 8 Tryz.underlying27 hi hz0 hz1 hz2 rfl w2 w2 _ _ _ rfl hown3 (.int .i64 ((k : Int) + 1)) rfl rfl rfl (by omega) (by unfold maxLen; omega) (Below.refl _ _) hS2.size ?_))
        intro v4 w4 hown4 hb4 hg4
        have hI2 : Ints w4 w1.heap.size v2 (zs.drop s) := by
          have h : Ints w2 w1.heap.size v2 (zs.drop s) := Ints.of_own hown2
          refine h.kept hg4 ?_
          cases hv : v2.ownBlock with
          | none => exact .inl rfl
          | some q => exact .inr (fun e => by have := h.since q hv; simp [Value.ownBlock] at e; omega)
        obtain ⟨A2, c2, rfl, _⟩ := Reads.of_own hown2
        have hdl : (zs.drop s).length = k - s := by have h := hown2.1; rw [i64_length] at h; omega
        have hA4 := hI2.arg (by omega) hI2.cap (show Small (zs.drop s) from fun z hz => unhide hsm z (List.mem_of_mem_drop hz))
        rw [i64_snoc2] at hown4
        have hS4 := hS2.low hb4
        clear hown2 hI2 hown3 hS2 hg4 hb2
        go_wp2_with (first
          | (at_builtin; refine wpList_append_arg rfl (.tmp 30) (.tmp 31) rfl w.heap.size w4.heap.size (s + 1) (k - s) c2 w4 _ A2 (zs.take s ++ [(k : Int) + 1]) (zs.drop s) rfl rfl hown4 hA4 (by omega) (Below.refl _ _) hS4.size ?_))
        intro v5 w5 hown5 hb5 hg5
        obtain ⟨g5, c5, rfl, hg5b, hc5⟩ := own_first hown5 (by omega)
        have hS5 := hS4.low hb5
        have hk1 : s + 1 + (k - s) = k + 1 := by omega
        rw [hk1] at hown5 hc5 ⊢
        have hsm5 := hide (small_put (at_ := s) (k := (k : Int) + 1) (unhide hsm) (by omega))
        have hlen5 : (zs.take s ++ [(k : Int) + 1] ++ zs.drop s).length = k + 1 := by
          have := unhide HZL
          simp only [List.length_append, List.length_take, List.length_drop, List.length_singleton]; omega
        clear hown4 hA4 hS4 hb4 hb5 hg5
        go_wp2
        go_roundw
        case rel => exact ⟨k + 1, _, g5, c5, by omega, by go_num, rfl, hlen5, hc5, hg5b, hsm5, hS5, by rw [List.append_assoc]; exact hown5⟩
        case measure => simp [intOf]; omega
      · have hsk2 : s = k := by omega
        have hkc2 : k = cap := by omega
        subst hsk2
        subst hkc2
        have hsk' : (s : Int) ≤ (s : Int) := by omega
        have hE := own0 w1 w1.heap.size (Nat.le_refl _)
        have hal := (Below.refl w1.heap.size w1).alloc (Nat.le_refl _) (.cells #[] 3)
        have hsz1 := hS1.size
        have hA : Arg (w1.alloc (.cells #[] 3)) w1.heap.size (some ⟨g, 0, none⟩) (0) (0) (zs.drop s) := by
          have hz0 : zs.drop s = [] := List.drop_of_length_le (by have := unhide HZL; omega)
          rw [hz0]
          exact ⟨⟨rfl, fun h => absurd h (by omega)⟩, by simp, by omega, by omega, small_nil, fun e => by cases e⟩
        go_wp2_with (first
          | (at_builtin; refine wpList_append_arg rfl (.tmp 20) (.tmp 23) rfl w1.heap.size w1.heap.size 0 (0) (0) w1 _ (some ⟨g, 0, none⟩) [] (zs.drop s) rfl rfl hE hA (by omega) hal hal.size ?_))
        intro v2 w2 hown2 hb2 hg2
        clear hE hA hal hg2
        have hown3 := own_cut (own_below hown1 hb2) hsk
        rw [take_i64] at hown3
        have hS2 := hS1.below hb2
        have hgw1 := (hown1.lt g rfl).2
        clear hown1 hS1
        go_wp2_with (first
          | (at_builtin; refine wpList_append_one rfl (.tmp 27) (.tmp 29) 27 rfl w.heap.size 3 i0 (.int .i64 0) 8 Tryz.underlying27 hi hz0 hz1 hz2 rfl w2 w2 _ _ _ rfl hown3 (.int .i64 ((s : Int) + 1)) rfl rfl rfl (by omega) (by unfold maxLen; omega) (Below.refl _ _) hS2.size ?_))
        intro v4 w4 hown4 hb4 hg4
        have hI2 : Ints w4 w1.heap.size v2 (zs.drop s) := by
          have h : Ints w2 w1.heap.size v2 (zs.drop s) := Ints.of_own hown2
          refine h.kept hg4 ?_
          cases hv : v2.ownBlock with
          | none => exact .inl rfl
          | some q => exact .inr (fun e => by have := h.since q hv; simp [Value.ownBlock] at e; omega)
        obtain ⟨A2, c2, rfl, _⟩ := Reads.of_own hown2
        have hdl : (zs.drop s).length = 0 := by have h := hown2.1; rw [i64_length] at h; omega
        have hA4 := hI2.arg (by omega) hI2.cap (show Small (zs.drop s) from fun z hz => unhide hsm z (List.mem_of_mem_drop hz))
        rw [i64_snoc2] at hown4
        have hS4 := hS2.low hb4
        clear hown2 hI2 hown3 hS2 hg4 hb2
        go_wp2_with (first
          | (at_builtin; refine wpList_append_arg rfl (.tmp 30) (.tmp 31) rfl w.heap.size w4.heap.size (s + 1) (0) c2 w4 _ A2 (zs.take s ++ [(s : Int) + 1]) (zs.drop s) rfl rfl hown4 hA4 (by omega) (Below.refl _ _) hS4.size ?_))
        intro v5 w5 hown5 hb5 hg5
        obtain ⟨g5, c5, rfl, hg5b, hc5⟩ := own_first hown5 (by omega)
        have hS5 := hS4.low hb5
        have hk1 : s + 1 + (0) = s + 1 := by omega
        rw [hk1] at hown5 hc5 ⊢
        have hsm5 := hide (small_put (at_ := s) (k := (s : Int) + 1) (unhide hsm) (by omega))
        have hlen5 : (zs.take s ++ [(s : Int) + 1] ++ zs.drop s).length = s + 1 := by
          have := unhide HZL
          simp only [List.length_append, List.length_take, List.length_drop, List.length_singleton]; omega
        clear hown4 hA4 hS4 hb4 hb5 hg5
        go_wp2
        go_roundw
        case rel => exact ⟨s + 1, _, g5, c5, by omega, by go_num, rfl, hlen5, hc5, hg5b, hsm5, hS5, by rw [List.append_assoc]; exact hown5⟩
        case measure => simp [intOf]; omega
    · obtain rfl : k = m := by omega
      have hlt' : ¬ (k : Int) + 1 ≤ (k : Int) := by omega
      have HS := hide hS
      have HZ := hide hzl
      clear hzl hS
      go_wp2
      go_ret
      exact DrawnE.mk hown (unhide HZ) (unhide hsm) (unhide HS)
theorem l2draw_any (B cb m : Nat) (hm : m ≤ 16) (w : World) (hc : Cur w B cb) :
    Calls Tryz.prog 78 #[.pointer (some ⟨cb, 0, none⟩), .int .i64 m] w (DrawnO B cb w m) := by
  refine (l2drawE_any B cb m hm w hc).mono ?_
  rintro e w1 ⟨A, c, zs, rfl, hl, hs, hown, hc1, hg1⟩
  refine ⟨A, c, zs, by rw [hl], ⟨by omega, hs⟩, ?_, hc1, hg1⟩
  rw [hl]
  exact hown

set_option maxHeartbeats 800000 in
theorem l2any_any (B cb : Nat) (w : World) (hc : Cur w B cb) : Calls Tryz.prog 87 #[.pointer (some ⟨cb, 0, none⟩)] w (DrawnO B cb w 8) := by
  have hal := (Below.refl w.heap.size w).alloc (Nat.le_refl _) (.cells ([0, 1, 2, 3, 4, 5, 5, 6, 6, 7, 8].map (Value.int .i64)).toArray 3)
  have hS := (Side.start hc).below hal
  have hne : w.heap.size ≠ cb := by have := hc.lt; omega
  have H1 := hide (pickInt_any B cb w.heap.size 11 11 [0, 1, 2, 3, 4, 5, 5, 6, 6, 7, 8] _ hS.cur (Blk.new w _ _) hne rfl (by omega) (by omega))
  clear hal hc
  simp only [List.map_cons, List.map_nil] at hS H1
  go_enter Tryz.func87, Tryz.ntmps87
  go_wp2_with fail
  refine (unhide H1).mono ?_
  rintro e w1 ⟨v, rfl, ⟨x, hx, rfl⟩, hc1, hg1⟩
  have hx8 : 0 ≤ x ∧ x ≤ 8 := by
    simp only [List.mem_cons, List.not_mem_nil, or_false] at hx
    omega
  obtain ⟨m, rfl⟩ : ∃ m : Nat, x = m := ⟨x.toNat, by omega⟩
  have hm : m ≤ 8 := by omega
  have hS1 := hS.drawn hc1 hg1
  have H2 := hide (l2draw_any B cb m (by omega) w1 hc1)
  clear H1 hx hx8 hS hc1 hg1
  go_wp2_with fail
  refine (unhide H2).mono ?_
  rintro e w2 ⟨A2, c2, zs, rfl, hl, hown, hc2, hg2⟩
  have hS2 := hS1.drawn hc2 hg2
  have hown2 := own_base hown hS1.size
  have HL := hide (hl.more hm)
  have HS := hide hS2
  clear H2 hl hc2 hg2 hS2 hown
  go_wp2
  go_ret
  exact ⟨A2, c2, zs, rfl, unhide HL, hown2, (unhide HS).cur, (unhide HS).gr⟩

set_option maxHeartbeats 1600000 in
theorem l2bent_any (B cb : Nat) (w : World) (hc : Cur w B cb) : Calls Tryz.prog 47 #[.pointer (some ⟨cb, 0, none⟩)] w (DrawnI B cb w 9) := by
  obtain ⟨i0, hi, hz0, hz1, hz2⟩ := info_parts intInfo
  have hS := Side.start hc
  have H1 := hide (l2any_any B cb w hc)
  clear hc
  go_enter Tryz.func47, Tryz.ntmps47
  go_wp2_with fail
  refine (unhide H1).mono ?_
  rintro e w1 ⟨A, c, zs, rfl, hl, hown, hc1, hg1⟩
  have hS1 := hS.drawn hc1 hg1
  have H2 := hide (below_any B cb 14 (by omega) w1 hc1)
  have HL := hide hl
  have hl8 := hl.1
  clear H1 hS hc1 hg1 hl
  go_wp2_with fail
  refine (unhide H2).mono ?_
  rintro e w2 ⟨v, rfl, ⟨x, rfl, hx0, hx1⟩, hc2, hg2⟩
  have hS2 := hS1.drawn hc2 hg2
  have hown2 := own_drawn hown hg2 hS1.lt
  clear H2 hown hS1 hg2
  by_cases h0 : x = 0
  · subst h0
    have H3 := hide (below_any B cb 12 (by omega) w2 hc2)
    clear hc2
    go_wp2_with fail
    refine (unhide H3).mono ?_
    rintro e w3 ⟨v, rfl, ⟨y, rfl, hy0, hy1⟩, hc3, hg3⟩
    rw [if_pos (by omega)] at hy1
    have hS3 := hS2.drawn hc3 hg3
    have hown3 := own_drawn hown2 hg3 hS2.lt
    have hsz := hS3.size
    clear H3 hown2 hS2 hc3 hg3
    go_wp2_with (first
      | (at_builtin; refine wpList_append_one rfl (.tmp 10) (.tmp 14) 27 rfl w.heap.size 3 i0 (.int .i64 0) 8 Tryz.underlying27 hi hz0 hz1 hz2 rfl w3 w3 _ _ _ rfl hown3 (.int .i64 (y - 1)) rfl rfl rfl (by omega) (by unfold maxLen; omega) (Below.refl _ _) hsz ?_))
    intro v4 w4 hown4 hb4 _
    rw [i64_snoc2] at hown4
    have hI : Ints w4 w.heap.size v4 (zs ++ [y - 1]) := by
      have h := hown4
      rw [show zs.length + 1 = (zs ++ [y - 1]).length by simp] at h
      exact Ints.of_own h
    have hS4 := hS3.low hb4
    have HL2 := hide (show Lite 9 (zs ++ [y - 1]) from ⟨by simp; omega, fun z hz => by
      rcases List.mem_append.1 hz with hz | hz
      · exact (unhide HL).2 z hz
      · rw [List.mem_singleton] at hz; subst hz; omega⟩)
    have HS := hide hS4
    clear hown3 hS3 hown4 hb4 hS4
    go_wp2
    go_ret
    exact DrawnI.mk hI (unhide HL2) (unhide HS)
  · have HS := hide hS2
    have HL2 := hide ((unhide HL).more (show 8 ≤ 9 by omega))
    by_cases h1 : x = 1
    · subst h1
      by_cases hlen : 0 < zs.length
      · obtain ⟨g, c', hv, hgb, hcc⟩ := own_first hown2 hlen
        injection hv with hv1 hv2 hv3
        subst hv1
        subst hv3
        have H3 := hide (below_any B cb 11 (by omega) w2 hc2)
        have hlen' : (0 : Int) < (zs.length : Int) := by omega
        clear hc2
        go_wp2_with fail
        refine (unhide H3).mono ?_
        rintro e w3 ⟨v, rfl, ⟨y, rfl, hy0, hy1⟩, hc3, hg3⟩
        rw [if_pos (by omega)] at hy1
        have hS3 := hS2.drawn hc3 hg3
        have hown3 := own_drawn hown2 hg3 hS2.lt
        obtain ⟨old, hold⟩ : ∃ old, w3.cell? ⟨g, 0, none⟩ = some old := ⟨_, by rw [hown3.cellAt 0 (by omega)]; exact List.getElem?_eq_getElem (by rw [i64_length]; exact hlen)⟩
        have hfz := hown3.frozenAt 0
        have hst := hown3.stored 0 (.int .i64 (y - 1))
        have hb4 := (Below.refl w.heap.size w3).setCell (p := ⟨g, 0, none⟩) hgb (.int .i64 (y - 1))
        have hS4 := hS3.low hb4
        have hI : Ints (w3.setCell ⟨g, 0, none⟩ (.int .i64 (y - 1))) w.heap.size (.slice (some ⟨g, 0, none⟩) zs.length c) (zs.set 0 (y - 1)) := by
          have h := hst.1
          rw [show (i64s zs).set 0 (.int .i64 (y - 1)) = i64s (zs.set 0 (y - 1)) by unfold i64s; rw [List.map_set]] at h
          have h9 := Ints.of_own (zs := zs.set 0 (y - 1)) (n := zs.length) h
          exact h9
        have HL3 := hide (show Lite 9 (zs.set 0 (y - 1)) from ⟨by rw [List.length_set]; omega, fun z hz => by
          rcases List.mem_or_eq_of_mem_set hz with hz | hz
          · exact (unhide HL).2 z hz
          · subst hz; omega⟩)
        have HS4 := hide hS4
        clear H3 hown2 hS2 hc3 hg3 hown3 hS3 hst hb4 hS4
        go_wp2
        go_ret
        exact DrawnI.mk hI (unhide HL3) (unhide HS4)
      · obtain rfl : zs = [] := List.eq_nil_of_length_eq_zero (by omega)
        have hI : Ints w2 w.heap.size (.slice A 0 c) [] := Ints.of_own hown2
        clear hown2 hc2 hS2 hlen
        go_wp2
        go_ret
        exact DrawnI.mk hI (unhide HL2) (unhide HS)
    · have hI : Ints w2 w.heap.size (.slice A zs.length c) zs := Ints.of_own hown2
      clear hown2 hc2 hS2
      go_wp2
      go_ret
      exact DrawnI.mk hI (unhide HL2) (unhide HS)
end Go.Proofs.YtplchjeamooliaaGreatDoor


/-
  WORDS FOR A LIST OF ROWS THAT IS FILLED PLACE BY PLACE. Nothing here speaks of a function of the program.
-/

namespace Go.Proofs.YtplchjeamooliaaGreatDoor
set_option maxRecDepth 100000
open Go.RowKit

/-! a list of rows that is filled place by place -/
def fillS (zss : List (List Int)) (k : Nat) : List (List Int) := zss.take k ++ List.replicate (zss.length - k) []
theorem fillS_zero (zss : List (List Int)) : fillS zss 0 = List.replicate zss.length [] := by simp [fillS]
theorem fillS_length (zss : List (List Int)) (k : Nat) (h : k ≤ zss.length) : (fillS zss k).length = zss.length := by simp [fillS]; omega
theorem fillS_all (zss : List (List Int)) : fillS zss zss.length = zss := by simp [fillS]
theorem fillS_set {zss : List (List Int)} {k : Nat} {z : List Int} (h : zss[k]? = some z) : (fillS zss k).set k z = fillS zss (k + 1) := by
  have hk : k < zss.length := (List.getElem?_eq_some_iff.1 h).1
  unfold fillS
  rw [List.set_append_right _ _ (by rw [List.length_take]; omega), List.length_take, Nat.min_eq_left (by omega), Nat.sub_self, show zss.length - k = (zss.length - (k + 1)) + 1 by omega, List.replicate_succ, List.set_cons_zero, List.take_add_one, h]
  simp
theorem Inner.zero (w : World) (B n : Nat) : Inner w B (List.replicate n (.slice none 0 0)) (List.replicate n []) := by
  refine ⟨by simp, fun i u zs hu hz => ?_, ?_⟩
  · obtain ⟨_, rfl⟩ := List.mem_replicate.1 (List.mem_of_getElem? hu)
    obtain ⟨_, rfl⟩ := List.mem_replicate.1 (List.mem_of_getElem? hz)
    exact Ints.nil w B
  · refine List.pairwise_of_forall_mem_list fun a ha b _ => ?_
    obtain ⟨_, rfl⟩ := List.mem_replicate.1 ha
    exact .inl rfl
theorem Inner.set {w : World} {B : Nat} {vs : List Value} {zss : List (List Int)} {u : Value} {z : List Int} (h : Inner w B vs zss) (k : Nat) (hu : Ints w B u z) (ha : ∀ x ∈ vs, Away x u) : Inner w B (vs.set k u) (zss.set k z) := by
  have hl := h.len
  refine ⟨by simp [hl], fun i x ys hx hy => ?_, ?_⟩
  · rw [List.getElem?_set] at hx hy
    by_cases e : k = i
    · subst e
      rw [if_pos rfl] at hx hy
      by_cases hk : k < vs.length
      · rw [if_pos hk] at hx
        rw [if_pos (by omega)] at hy
        cases hx; cases hy
        exact hu
      · rw [if_neg hk] at hx
        cases hx
    · rw [if_neg e] at hx hy
      exact h.row i x ys hx hy
  · rw [List.pairwise_iff_getElem]
    intro i j hi hj hij
    rw [List.length_set] at hi hj
    rw [List.getElem_set, List.getElem_set]
    by_cases e1 : k = i
    · rw [if_pos e1, if_neg (by omega)]
      exact (ha _ (List.getElem_mem hj)).symm
    · rw [if_neg e1]
      by_cases e2 : k = j
      · rw [if_pos e2]
        exact ha _ (List.getElem_mem hi)
      · rw [if_neg e2]
        exact List.pairwise_iff_getElem.1 h.away i j hi hj hij
/-- A row of rows that is filled up to k. -/
structure Filled (w wr : World) (g n : Nat) (zss : List (List Int)) (k : Nat) : Prop where
  below : Below w.heap.size w wr
  rows : ∃ vs, wr.ownsRow w.heap.size 27 1 (.slice (some ⟨g, 0, none⟩) n n) n vs ∧ Inner wr w.heap.size vs (fillS zss k)
theorem made_rows (n : Nat) : (madeCells (Value.slice none 0 0).cells (n * 1)).toList = List.replicate n (.slice none 0 0) := by
  rw [Nat.mul_one]
  exact toList_madeCells_one _ _
/-- One more row, made behind all that stands. -/
theorem Filled.put {w wr w' : World} {g n k : Nat} {zss : List (List Int)} {z : List Int} {u : Value} (h : Filled w wr g n zss k) (hz : zss[k]? = some z) (hb : Below wr.heap.size wr w') (hu : Ints w' wr.heap.size u z) :
    Filled w (w'.setCell ⟨g, k, none⟩ u) g n zss (k + 1) := by
  obtain ⟨h1, vs, h2, h3⟩ := h
  have o := own_below h2 hb
  have i := h3.keepI (KeepI.of_below hb)
  have ha := h3.away_new hu.since (Nat.le_refl _)
  have st := o.stored k u
  have hk := KeepI.of_grown o st.2
  have hg := (h2.lt g rfl).1
  refine ⟨(below_after h1 hb).setCell hg _, _, st.1, ?_⟩
  rw [← fillS_set hz]
  exact (i.keepI hk).set k ((hu.low h1.size).keepI hk) ha
theorem Filled.old {w wr w' : World} {g n k : Nat} {zss : List (List Int)} (h : Filled w wr g n zss k) (hb : Below wr.heap.size wr w') (hk : k < n) : (∃ old, w'.cell? ⟨g, k, none⟩ = some old) ∧ w'.frozen? ⟨g, k, none⟩ = false := by
  obtain ⟨_, vs, h2, _⟩ := h
  have o := own_below h2 hb
  have hl : vs.length = n := by simpa using o.1
  exact ⟨⟨_, by rw [o.cellAt k (by omega)]; exact List.getElem?_eq_getElem (by omega)⟩, o.frozenAt k⟩
theorem Filled.start {w w0 w1 : World} {g n : Nat} {zss : List (List Int)} (hl : zss.length = n) (hb : Below w.heap.size w w0) (hown : w1.ownsRow w.heap.size 27 1 (.slice (some ⟨g, 0, none⟩) n n) n (madeCells (Value.slice none 0 0).cells (n * 1)).toList) (hg : w0.grownBy w1 none) : Filled w w1 g n zss 0 := by
  refine ⟨hb.grown hg hb.size (by simp), _, hown, ?_⟩
  rw [made_rows, fillS_zero, hl]
  exact Inner.zero _ _ _

end Go.Proofs.YtplchjeamooliaaGreatDoor


/-
  WORDS: 'list = append(list, row)', row a list that was just made; a cut of an argument. Nothing here speaks of a function of the program.
-/

namespace Go.Proofs.YtplchjeamooliaaGreatDoor
set_option maxRecDepth 100000
open Go.RowKit

theorem wpList_push_row {ops : Array Oper} {rest : List Oper} {o : Oper} {a : Act} {W : World} {Q : Exit → Act → World → Prop} (hgd : o.guard = none) (sl x : Operand)
    (ho : o.op = .call { callee := .builtin .append, args := #[sl, x], argTypes := #[24, 24] })
    (base : Nat) (W0 w0 wr : World) (v u : Value) (zss : List (List Int)) (zs : List Int) (hs : a.eval sl = v) (hx : a.eval x = .slice (some ⟨wr.heap.size, 0, none⟩) 1 1) (hW : W = wr.alloc (.cells #[u] 27))
    (hS : IntsS w0 base v zss) (hb0 : Below w0.heap.size w0 wr) (hu : Ints wr w0.heap.size u zs) (hn : zss.length ≤ 1048576) (hb : Below base W0 wr) (hbase : base ≤ w0.heap.size)
    (K : ∀ v' w', IntsS w' base v' (zss ++ [zs]) → Below base W0 w' → wpList Tryz.prog ops Q rest (a.put o.dst v') w') : wpList Tryz.prog ops Q (o :: rest) a W := by
  obtain ⟨i0, hi, hz0, hz1, hz2⟩ := info_parts rowsInfo
  obtain ⟨vs, hown, hin⟩ := hS
  have hown1 := own_below hown hb0
  obtain ⟨A1, c1, rfl⟩ := hu.slice
  refine wpList_append_one hgd sl x 24 ho base 27 i0 (.slice none 0 0) 24 Tryz.underlying24 hi hz0 hz1 hz2 rfl W0 wr v _ _ hs hown1 _ hx hW rfl (by omega) (by unfold maxLen; omega) hb (Nat.le_trans hbase hb0.size) fun v' w' h1 h2 h3 => K v' w' ?_ h2
  have hk := KeepI.of_grown hown1 h3
  refine ⟨vs ++ [.slice A1 zs.length c1], by rw [List.length_append]; exact h1, ?_⟩
  exact ((hin.keepI (KeepI.of_below hb0)).keepI hk).push ((hu.low hbase).keepI hk) (hin.away_new hu.since (Nat.le_refl _))
/-- The same, with what it leaves of other lists of rows. -/
theorem wpList_push_row_at {ops : Array Oper} {rest : List Oper} {o : Oper} {a : Act} {W : World} {Q : Exit → Act → World → Prop} (hgd : o.guard = none) (sl x : Operand)
    (ho : o.op = .call { callee := .builtin .append, args := #[sl, x], argTypes := #[24, 24] })
    (base : Nat) (W0 w0 wr : World) (v u : Value) (zss : List (List Int)) (zs : List Int) (hs : a.eval sl = v) (hx : a.eval x = .slice (some ⟨wr.heap.size, 0, none⟩) 1 1) (hW : W = wr.alloc (.cells #[u] 27))
    (hS : IntsS w0 base v zss) (hb0 : Below w0.heap.size w0 wr) (hu : Ints wr w0.heap.size u zs) (hn : zss.length ≤ 1048576) (hb : Below base W0 wr) (hbase : base ≤ w0.heap.size)
    (K : ∀ v' w', IntsS w' base v' (zss ++ [zs]) → Below base W0 w' → (∀ B' l yss, IntsS w0 B' l yss → Away l v → IntsS w' B' l yss ∧ Away l v') → wpList Tryz.prog ops Q rest (a.put o.dst v') w') : wpList Tryz.prog ops Q (o :: rest) a W := by
  obtain ⟨i0, hi, hz0, hz1, hz2⟩ := info_parts rowsInfo
  obtain ⟨vs, hown, hin⟩ := hS
  have hown1 := own_below hown hb0
  have hal := (Below.refl wr.heap.size wr).alloc (Nat.le_refl _) (.cells #[u] 27)
  have hown2 := own_below hown1 hal
  obtain ⟨A1, c1, rfl⟩ := hu.slice
  subst hW
  refine wpList_append_own_at _ hgd sl x 24 ho base 27 i0 (.slice none 0 0) 1 24 Tryz.underlying24 hi hz0 hz1 hz2 rfl (by decide) v _ _ hs hown2 ⟨wr.heap.size, 0, none⟩ 1 1 [.slice A1 zs.length c1] hx rfl ?_ ?_ (by unfold maxLen; omega) (by omega) (by simp; have := hb0.size; omega) ?_
  · intro j u hj
    match j, hj with
    | 0, hj => simp at hj; subst hj; simp [Addr.add]
  · intro y hy
    obtain rfl := List.mem_singleton.1 hy
    rfl
  · intro v' w' h1 h2 _ h4
    have hk := (KeepI.of_below hal).trans (KeepI.of_grown hown2 h2)
    refine K v' w' ⟨vs ++ [.slice A1 zs.length c1], by rw [List.length_append]; exact h1, ?_⟩ ?_ ?_
    · exact ((hin.keepI (KeepI.of_below hb0)).keepI hk).push ((hu.low hbase).keepI hk) (hin.away_new hu.since (Nat.le_refl _))
    · exact (hb.trans (hal.mono (Nat.le_trans hbase hb0.size))).grown h2 (by simp; have := hb0.size; omega) (fun k hk => (hown.lt k hk).1)
    · rintro B' l yss ⟨ys, ho, hi'⟩ ha
      have ho1 := own_below ho hb0
      refine ⟨⟨ys, (own_below ho1 hal).kept h2 ha, (hi'.keepI (KeepI.of_below hb0)).keepI hk⟩, ?_⟩
      rcases h4 with h4 | h4
      · rcases ha with ha | ha
        · exact .inl ha
        · exact .inr (by rw [h4]; exact ha)
      · cases hl : l.ownBlock with
        | none => exact .inl hl
        | some g =>
          refine .inr ?_
          rw [hl, h4]
          intro e
          have h5 := (ho1.lt g hl).2
          simp at e
          omega
/-- A row of rows whose row k is made anew. -/
theorem IntsS.put {w w' : World} {B g n cap k : Nat} {zss : List (List Int)} {z : List Int} {u : Value} (h : IntsS w B (.slice (some ⟨g, 0, none⟩) n cap) zss) (hb : Below w.heap.size w w') (hu : Ints w' w.heap.size u z) (hB : B ≤ w.heap.size) :
    IntsS (w'.setCell ⟨g, k, none⟩ u) B (.slice (some ⟨g, 0, none⟩) n cap) (zss.set k z) := by
  have hl := h.len
  subst hl
  obtain ⟨vs, h2, h3⟩ := h
  have o := own_below h2 hb
  have i := h3.keepI (KeepI.of_below hb)
  have ha := h3.away_new hu.since (Nat.le_refl _)
  have st := o.stored k u
  have hk := KeepI.of_grown o st.2
  refine ⟨vs.set k u, by rw [List.length_set]; exact st.1, ?_⟩
  exact (i.keepI hk).set k ((hu.low hB).keepI hk) ha
theorem IntsS.old {w : World} {B g n cap k : Nat} {zss : List (List Int)} (h : IntsS w B (.slice (some ⟨g, 0, none⟩) n cap) zss) (hk : k < n) : (∃ old, w.cell? ⟨g, k, none⟩ = some old) ∧ w.frozen? ⟨g, k, none⟩ = false ∧ B ≤ g := by
  have hl := h.len
  subst hl
  obtain ⟨vs, h2, _⟩ := h
  have hv : vs.length = zss.length := by simpa using h2.1
  exact ⟨⟨_, by rw [h2.cellAt k (by omega)]; exact List.getElem?_eq_getElem (by omega)⟩, h2.frozenAt k, (h2.lt g rfl).1⟩
theorem IntsS.shape {w : World} {B n c : Nat} {A : Option Addr} {zss : List (List Int)} (h : IntsS w B (.slice A n c) zss) (h0 : 0 < n) : ∃ g, A = some ⟨g, 0, none⟩ := by
  obtain ⟨vs, h1, _⟩ := h
  rcases h1.2 with ⟨hv, hz⟩ | ⟨g, cap, cur, hv, _⟩
  · injection hv with _ h3; omega
  · injection hv with h3
    exact ⟨g, h3⟩
theorem cut_at {zs : List Int} {f m j : Nat} (hj : j < m) : ((zs.drop f).take m)[j]? = zs[f + j]? := by rw [List.getElem?_take_of_lt hj, List.getElem?_drop]
/-- 'p[f : f + m]' as an argument. -/
theorem Arg.cut {w : World} {B n c f m : Nat} {ad : Addr} {zs : List Int} (h : Arg w B (some ad) n c zs) (hm : f + m ≤ n) : Arg w B (some (ad.add f)) m (c - f) ((zs.drop f).take m) := by
  have hl := h.len
  have hcap := h.cap
  refine ⟨⟨by rw [i64_length, List.length_take, List.length_drop]; omega, fun h0 => ?_⟩, h.under, by have := h.le; omega, by omega, fun z hz => h.small z (List.mem_of_mem_drop (List.mem_of_mem_take hz)), fun e => by cases e⟩
  obtain ⟨ad', he, hb, hc⟩ := h.reads.2 (by omega)
  injection he with he
  subst he
  refine ⟨_, rfl, by rw [block_of_add]; exact hb, fun j u hu => ?_⟩
  obtain ⟨z, hz, rfl⟩ := i64_at hu
  have hj : j < m := by have := (List.getElem?_eq_some_iff.1 hz).1; rw [List.length_take] at this; omega
  rw [cut_at hj] at hz
  rw [add_of_add]
  exact hc _ _ (i64_get hz)
end Go.Proofs.YtplchjeamooliaaGreatDoor


/-
  WORDS: a row that lies apart from all rows of a list; it is put behind the list, or at a place of it. Nothing here speaks of a function of the program.
-/

namespace Go.Proofs.YtplchjeamooliaaGreatDoor
set_option maxRecDepth 100000
open Go.RowKit

/-- A list of rows and a row that lies apart from all of it. -/
def Fresh (w : World) (B : Nat) (v : Value) (zss : List (List Int)) (u : Value) : Prop := ∃ vs, w.ownsRow B 27 1 v zss.length vs ∧ Inner w B vs zss ∧ ∀ x ∈ vs, Away x u
theorem wpList_push_fresh_keep {ops : Array Oper} {rest : List Oper} {o : Oper} {a : Act} {W : World} {Q : Exit → Act → World → Prop} (hgd : o.guard = none) (sl x : Operand)
    (ho : o.op = .call { callee := .builtin .append, args := #[sl, x], argTypes := #[24, 24] })
    (base : Nat) (wr : World) (v u : Value) (zss : List (List Int)) (zs : List Int) (hs : a.eval sl = v) (hx : a.eval x = .slice (some ⟨wr.heap.size, 0, none⟩) 1 1) (hW : W = wr.alloc (.cells #[u] 27))
    (hS : Fresh wr base v zss u) (hu : Ints wr base u zs) (hn : zss.length ≤ 1048576) (hbase : base ≤ wr.heap.size)
    (K : ∀ v' w', IntsS w' base v' (zss ++ [zs]) → Below base wr w' → KeepI wr w' → wpList Tryz.prog ops Q rest (a.put o.dst v') w') : wpList Tryz.prog ops Q (o :: rest) a W := by
  obtain ⟨i0, hi, hz0, hz1, hz2⟩ := info_parts rowsInfo
  obtain ⟨vs, hown, hin, ha⟩ := hS
  obtain ⟨A1, c1, rfl⟩ := hu.slice
  refine wpList_append_one hgd sl x 24 ho base 27 i0 (.slice none 0 0) 24 Tryz.underlying24 hi hz0 hz1 hz2 rfl wr wr v _ _ hs hown _ hx hW rfl (by omega) (by unfold maxLen; omega) (Below.refl _ _) hbase fun v' w' h1 h2 h3 => K v' w' ?_ h2 (KeepI.of_grown hown h3)
  have hk := KeepI.of_grown hown h3
  refine ⟨vs ++ [.slice A1 zs.length c1], by rw [List.length_append]; exact h1, ?_⟩
  exact (hin.keepI hk).push (hu.keepI hk) ha

theorem IntsS.putFresh {w : World} {B g n cap k : Nat} {zss : List (List Int)} {z : List Int} {u : Value} (h : Fresh w B (.slice (some ⟨g, 0, none⟩) n cap) zss u) (hu : Ints w B u z) :
    IntsS (w.setCell ⟨g, k, none⟩ u) B (.slice (some ⟨g, 0, none⟩) n cap) (zss.set k z) ∧ KeepI w (w.setCell ⟨g, k, none⟩ u) := by
  obtain ⟨vs, h2, h3, ha⟩ := h
  have hl : n = zss.length := by
    rcases h2.2 with ⟨hv, hz⟩ | ⟨g', cap', cur, hv, _⟩
    · injection hv with _ h3; omega
    · injection hv
  subst hl
  have st := h2.stored k u
  have hk := KeepI.of_grown h2 st.2
  refine ⟨⟨vs.set k u, by rw [List.length_set]; exact st.1, ?_⟩, hk⟩
  exact (h3.keepI hk).set k (hu.keepI hk) ha
/-- A list of two rows that was just built. -/
theorem IntsS.two {w : World} {B : Nat} {u v : Value} {p q : List Int} (hp : Ints w B u p) (hq : Ints w B v q) (ha : Away u v) (hB : B ≤ w.heap.size) :
    IntsS (w.alloc (.cells #[u, v] 27)) B (.slice (some ⟨w.heap.size, 0, none⟩) 2 2) [p, q] := by
  have hal := (Below.refl w.heap.size w).alloc (Nat.le_refl _) (.cells #[u, v] 27)
  refine ⟨[u, v], ⟨rfl, .inr ⟨w.heap.size, 2, #[u, v], rfl, hB, heap_alloc_new w _, Nat.le_refl _, by unfold maxLen; omega, rfl, rfl⟩⟩, ?_⟩
  have h1 := (Inner.nil (w.alloc (.cells #[u, v] 27)) B).push (hp.below hal) (fun x hx => by simp at hx)
  exact h1.push (hq.below hal) (fun x hx => by simp at hx; subst hx; exact ha)
theorem away_since {w : World} {B : Nat} {u v : Value} {zs : List Int} (hu : Ints w B u zs) (hv : Since w.heap.size v) : Away u v := by
  unfold Away
  cases h : u.ownBlock with
  | none => exact .inl rfl
  | some k =>
    refine .inr fun e => ?_
    have h1 := hv k e.symm
    have h2 := hu.until_ k h
    omega

theorem Fresh.two {w : World} {B : Nat} {u v r : Value} {p q : List Int} (hp : Ints w B u p) (hq : Ints w B v q) (ha : Away u v) (hr1 : Away u r) (hr2 : Away v r) (hB : B ≤ w.heap.size) :
    Fresh (w.alloc (.cells #[u, v] 27)) B (.slice (some ⟨w.heap.size, 0, none⟩) 2 2) [p, q] r := by
  have hal := (Below.refl w.heap.size w).alloc (Nat.le_refl _) (.cells #[u, v] 27)
  refine ⟨[u, v], ⟨rfl, .inr ⟨w.heap.size, 2, #[u, v], rfl, hB, heap_alloc_new w _, Nat.le_refl _, by unfold maxLen; omega, rfl, rfl⟩⟩, ?_, ?_⟩
  · have h1 := (Inner.nil (w.alloc (.cells #[u, v] 27)) B).push (hp.below hal) (fun x hx => by simp at hx)
    exact h1.push (hq.below hal) (fun x hx => by simp at hx; subst hx; exact ha)
  · intro x hx
    simp only [List.mem_cons, List.not_mem_nil, or_false] at hx
    rcases hx with rfl | rfl
    · exact hr1
    · exact hr2
end Go.Proofs.YtplchjeamooliaaGreatDoor


/-
  DRAWS OF LISTS: spec.l3List, by its contract.
-/

namespace Go.Proofs.YtplchjeamooliaaGreatDoor
set_option maxRecDepth 100000
open Go.RowKit

theorem IntsS.fresh {w0 w : World} {B cb : Nat} {v u : Value} {zss : List (List Int)} {zs : List Int} (h : IntsS w0 B v zss) (hg : w0.grownBy w (some cb)) (hc : cb < B) (hu : Ints w w0.heap.size u zs) : Fresh w B v zss u := by
  obtain ⟨vs, h1, h2⟩ := h
  exact ⟨vs, own_drawn h1 hg hc, h2.drawn hg hc, h2.away_new hu.since (Nat.le_refl _)⟩
theorem wpList_push_fresh {ops : Array Oper} {rest : List Oper} {o : Oper} {a : Act} {W : World} {Q : Exit → Act → World → Prop} (hgd : o.guard = none) (sl x : Operand)
    (ho : o.op = .call { callee := .builtin .append, args := #[sl, x], argTypes := #[24, 24] })
    (base : Nat) (wr : World) (v u : Value) (zss : List (List Int)) (zs : List Int) (hs : a.eval sl = v) (hx : a.eval x = .slice (some ⟨wr.heap.size, 0, none⟩) 1 1) (hW : W = wr.alloc (.cells #[u] 27))
    (hS : Fresh wr base v zss u) (hu : Ints wr base u zs) (hn : zss.length ≤ 1048576) (hbase : base ≤ wr.heap.size)
    (K : ∀ v' w', IntsS w' base v' (zss ++ [zs]) → Below base wr w' → wpList Tryz.prog ops Q rest (a.put o.dst v') w') : wpList Tryz.prog ops Q (o :: rest) a W := by
  obtain ⟨i0, hi, hz0, hz1, hz2⟩ := info_parts rowsInfo
  obtain ⟨vs, hown, hin, ha⟩ := hS
  obtain ⟨A1, c1, rfl⟩ := hu.slice
  refine wpList_append_one hgd sl x 24 ho base 27 i0 (.slice none 0 0) 24 Tryz.underlying24 hi hz0 hz1 hz2 rfl wr wr v _ _ hs hown _ hx hW rfl (by omega) (by unfold maxLen; omega) (Below.refl _ _) hbase fun v' w' h1 h2 h3 => K v' w' ?_ h2
  have hk := KeepI.of_grown hown h3
  refine ⟨vs ++ [.slice A1 zs.length c1], by rw [List.length_append]; exact h1, ?_⟩
  exact (hin.keepI hk).push (hu.keepI hk) ha
theorem IntsS.putDrawn {w0 w : World} {B cb g n cap k : Nat} {zss : List (List Int)} {z : List Int} {u : Value} (h : IntsS w0 B (.slice (some ⟨g, 0, none⟩) n cap) zss) (hg : w0.grownBy w (some cb)) (hc : cb < B) (hu : Ints w w0.heap.size u z) (hB : B ≤ w0.heap.size) :
    IntsS (w.setCell ⟨g, k, none⟩ u) B (.slice (some ⟨g, 0, none⟩) n cap) (zss.set k z) := by
  have hl := h.len
  subst hl
  obtain ⟨vs, h2, h3⟩ := h
  have o := own_drawn h2 hg hc
  have ha := h3.away_new hu.since (Nat.le_refl _)
  have st := o.stored k u
  have hk := KeepI.of_grown o st.2
  refine ⟨vs.set k u, by rw [List.length_set]; exact st.1, ?_⟩
  exact ((h3.drawn hg hc).keepI hk).set k ((hu.low hB).keepI hk) ha
/-- A list of rows that was drawn. -/
def DrawnSS (B cb : Nat) (w : World) (e : Ending) (w' : World) : Prop :=
  ∃ A c zss, e = .returned (.slice A zss.length c) ∧ zss.length ≤ 4 ∧ (∀ z ∈ zss, Lite 9 z) ∧ IntsS w' w.heap.size (.slice A zss.length c) zss ∧ Cur w' B cb ∧ w.grownBy w' (some cb)
theorem DrawnSS.mk {B cb : Nat} {w w' : World} {v : Value} {zss : List (List Int)} (hI : IntsS w' w.heap.size v zss) (hn : zss.length ≤ 4) (hl : ∀ z ∈ zss, Lite 9 z) (h : Side B cb w w') : DrawnSS B cb w (.returned v) w' := by
  obtain ⟨A, c, rfl⟩ := hI.slice
  exact ⟨A, c, zss, rfl, hn, hl, hI, h.cur, h.gr⟩

set_option maxHeartbeats 1600000 in
theorem l3list_any (B cb : Nat) (w : World) (hc : Cur w B cb) : Calls Tryz.prog 37 #[.pointer (some ⟨cb, 0, none⟩)] w (DrawnSS B cb w) := by
  have hI0 := IntsS.made0 w w.heap.size (Nat.le_refl _)
  have hS0 := (Side.start hc).below ((Below.refl w.heap.size w).alloc (Nat.le_refl _) (.cells #[] 27))
  have H1 := hide (below_any B cb 5 (by omega) _ hS0.cur)
  clear hc
  go_enter Tryz.func37, Tryz.ntmps37
  go_wp2_with fail
  refine (unhide H1).mono ?_
  rintro e w1 ⟨v, rfl, ⟨x, rfl, hx0, hx1⟩, hc1, hg1⟩
  rw [if_pos (by omega)] at hx1
  obtain ⟨n, rfl⟩ : ∃ n : Nat, x = n := ⟨x.toNat, by omega⟩
  have hn4 : n ≤ 4 := by omega
  have hS1 := hS0.drawn hc1 hg1
  have hI1 := hI0.drawn hg1 hS0.lt
  clear H1 hS0 hI0 hc1 hg1 hx0 hx1
  go_wp2
  go_loopw [3, 5] (fun v i wr => ∃ (k : Nat) (zss : List (List Int)), k ≤ n ∧ i = .int .i64 k ∧ zss.length = k ∧ IntsS wr w.heap.size v zss ∧ Hid (∀ z ∈ zss, Lite 9 z) ∧ Side B cb w wr) (fun _ i _ => n - (intOf i).toNat)
  case atStart => exact ⟨0, [], Nat.zero_le _, rfl, rfl, hI1, fun z hz => by simp at hz, hS1⟩
  case round =>
    obtain ⟨k, zss, hk, rfl, hzl, hI, hL, hS⟩ := hrel
    clear hI1 hS1
    by_cases hlt : k < n
    · have H2 := hide (below_any B cb 5 (by omega) wr hS.cur)
      have HZL := hide hzl
      clear hzl
      go_wp2_with fail
      refine (unhide H2).mono ?_
      rintro e w2 ⟨v, rfl, ⟨y, rfl, hy0, hy1⟩, hc2, hg2⟩
      rw [if_pos (by omega)] at hy1
      obtain ⟨m, rfl⟩ : ∃ m : Nat, y = m := ⟨y.toNat, by omega⟩
      have hS2 := hS.drawn hc2 hg2
      have hI2 := hI.drawn hg2 hS.lt
      have H3 := hide (l2draw_any B cb m (by omega) w2 hc2)
      have hm4 : m ≤ 4 := by omega
      clear H2 hS hI hc2 hg2 hy0 hy1
      go_wp2_with fail
      refine (unhide H3).mono ?_
      rintro e w3 ⟨A3, c3, zs, rfl, hl, hown, hc3, hg3⟩
      have hu := Ints.of_own hown
      have hF := hI2.fresh hg3 hS2.lt hu
      have hS3 := hS2.drawn hc3 hg3
      have hu3 := hu.low hS2.size
      have hlen : zss.length ≤ 1048576 := by have := unhide HZL; omega
      have hL2 := hide (show ∀ z ∈ zss ++ [zs], Lite 9 z from fun z hz => by
        rcases List.mem_append.1 hz with hz | hz
        · exact unhide hL z hz
        · rw [List.mem_singleton] at hz; subst hz; exact hl.more (by omega))
      have hsz := hS3.size
      clear H3 hl hown hu hI2 hS2 hc3 hg3 hL
      go_wp2_with (first
        | (at_builtin; refine wpList_push_fresh rfl (.tmp 14) (.tmp 19) rfl w.heap.size w3 _ _ zss zs rfl rfl rfl hF hu3 hlen hsz ?_))
      intro v4 w4 hI4 hb4
      have hS4 := hS3.low hb4
      have hlen4 : (zss ++ [zs]).length = k + 1 := by rw [List.length_append, unhide HZL]; rfl
      clear hF hu3 hS3 hb4
      go_wp2
      go_roundw
      case rel => exact ⟨k + 1, zss ++ [zs], by omega, by go_num, hlen4, hI4, hL2, hS4⟩
      case measure => simp [intOf]; omega
    · obtain rfl : n = k := by omega
      subst hzl
      obtain ⟨A3, c3, rfl⟩ := hI.slice
      have HL := hide (unhide hL)
      by_cases h0 : 0 < zss.length
      · have H4 := hide (once_any B cb 12 (by omega) wr hS.cur)
        have h0' : (0 : Int) < (zss.length : Int) := by omega
        go_wp2_with fail
        refine (unhide H4).mono ?_
        rintro e w5 ⟨v, rfl, ⟨b, rfl⟩, hc5, hg5⟩
        have hS5 := hS.drawn hc5 hg5
        have hI5 := hI.drawn hg5 hS.lt
        clear H4 hS hI hg5
        cases b with
        | false =>
          have HS := hide hS5
          clear hS5 hc5
          go_wp2
          go_ret
          exact DrawnSS.mk hI5 hn4 (unhide HL) (unhide HS)
        | true =>
          obtain ⟨g, rfl⟩ := hI5.shape h0
          have H5 := hide (l2bent_any B cb w5 hc5)
          clear hc5
          go_wp2_with fail
          refine (unhide H5).mono ?_
          rintro e w6 ⟨A6, c6, zs, rfl, hl, hu, hc6, hg6⟩
          obtain ⟨⟨old, hold⟩, hfz, hge⟩ := (hI5.drawn hg6 hS5.lt).old (k := 0) h0
          have hI7 := hI5.putDrawn (k := 0) hg6 hS5.lt hu hS5.size
          have hS7 := (hS5.drawn hc6 hg6).low ((Below.refl w.heap.size w6).setCell (p := ⟨g, 0, none⟩) hge (.slice A6 zs.length c6))
          have hL7 := hide (show ∀ z ∈ zss.set 0 zs, Lite 9 z from fun z hz => by
            rcases List.mem_or_eq_of_mem_set hz with hz | hz
            · exact unhide HL z hz
            · subst hz; exact hl)
          have hlen7 : (zss.set 0 zs).length ≤ 4 := by rw [List.length_set]; exact hn4
          have HS := hide hS7
          clear H5 hl hu hc6 hg6 hI5 hS5 hS7 hge
          go_wp2
          go_ret
          exact DrawnSS.mk hI7 hlen7 (unhide hL7) (unhide HS)
      · obtain rfl : zss = [] := List.eq_nil_of_length_eq_zero (by omega)
        have HS := hide hS
        clear hS h0
        go_wp2
        go_ret
        exact DrawnSS.mk hI hn4 (unhide HL) (unhide HS)

/-- What stood before the cursor was made is as it was. -/
theorem Side.under {B cb : Nat} {w w1 w2 : World} (h : Side B cb w1 w2) (hb : Below w.heap.size w w1) (hc : w.heap.size ≤ cb) : Below w.heap.size w w2 :=
  hb.grown h.gr hb.size (fun k hk => by injection hk with hk; omega)
/-- A row that was drawn from the bytes. -/
def DrewI (w : World) (L : Nat) (e : Ending) (w' : World) : Prop := ∃ A c zs, e = .returned (.slice A zs.length c) ∧ Lite L zs ∧ Ints w' w.heap.size (.slice A zs.length c) zs ∧ Below w.heap.size w w'
def DrewII (w : World) (L : Nat) (e : Ending) (w' : World) : Prop :=
  ∃ A c p A' c' q, e = .returned (.tuple #[.slice A p.length c, .slice A' q.length c']) ∧ Lite L p ∧ Lite L q ∧ Ints w' w.heap.size (.slice A p.length c) p ∧ Ints w' w.heap.size (.slice A' q.length c') q ∧ Below w.heap.size w w'
def DrewSB (w : World) (e : Ending) (w' : World) : Prop :=
  ∃ A c zss b, e = .returned (.tuple #[.slice A zss.length c, .bool b]) ∧ zss.length ≤ 4 ∧ (∀ z ∈ zss, Lite 9 z) ∧ IntsS w' w.heap.size (.slice A zss.length c) zss ∧ Below w.heap.size w w'
theorem DrewI.mk {L : Nat} {w w' : World} {v : Value} {zs : List Int} (hI : Ints w' w.heap.size v zs) (hl : Lite L zs) (h : Below w.heap.size w w') : DrewI w L (.returned v) w' := by
  obtain ⟨A, c, rfl⟩ := hI.slice
  exact ⟨A, c, zs, rfl, hl, hI, h⟩
theorem DrewII.mk {L : Nat} {w w' : World} {v v' : Value} {p q : List Int} (hp : Ints w' w.heap.size v p) (hq : Ints w' w.heap.size v' q) (hl : Lite L p) (hl' : Lite L q) (h : Below w.heap.size w w') : DrewII w L (.returned (.tuple #[v, v'])) w' := by
  obtain ⟨A, c, rfl⟩ := hp.slice
  obtain ⟨A', c', rfl⟩ := hq.slice
  exact ⟨A, c, p, A', c', q, rfl, hl, hl', hp, hq, h⟩

end Go.Proofs.YtplchjeamooliaaGreatDoor


/-
  spec.l1In, spec.l2Has and spec.IsPerm, by their contracts.
-/

namespace Go.Proofs.YtplchjeamooliaaGreatDoor
set_option maxRecDepth 100000
open Go.RowKit

theorem l1in_any (x lo hi : Int) (b : Bool) (hb : decide (lo ≤ x ∧ x ≤ hi) = b) (w : World) :
    Calls Tryz.prog 52 #[.int .i64 x, .int .i64 lo, .int .i64 hi] w fun e w' => e = .returned (.bool b) ∧ w' = w := by
  by_cases h1 : lo ≤ x
  · by_cases h2 : x ≤ hi
    · obtain rfl : b = true := by rw [← hb]; simp [h1, h2]
      clear hb
      go_enter Tryz.func52, Tryz.ntmps52
      go_wp2
      go_ret
      exact ⟨rfl, rfl⟩
    · obtain rfl : b = false := by rw [← hb]; simp [h2]
      clear hb
      go_enter Tryz.func52, Tryz.ntmps52
      go_wp2
      go_ret
      exact ⟨rfl, rfl⟩
  · obtain rfl : b = false := by rw [← hb]; simp [h1]
    clear hb
    go_enter Tryz.func52, Tryz.ntmps52
    go_wp2
    go_ret
    exact ⟨rfl, rfl⟩

theorem has_step {zs : List Int} {k : Nat} {y z : Int} (hz : zs[k]? = some y) (hne : y ≠ z) (h : z ∉ zs.take k) : z ∉ zs.take (k + 1) := by
  rw [take_snoc_i hz, List.mem_append, List.mem_singleton]
  rintro (h' | h')
  · exact h h'
  · exact hne h'.symm
theorem l2has_any (A : Option Addr) (n c B : Nat) (zs : List Int) (z : Int) (b : Bool) (hb : decide (z ∈ zs) = b) (w : World) (hr : Reads w B A n (i64s zs)) (hn : n ≤ 1099511627776) :
    Calls Tryz.prog 91 #[.slice A n c, .int .i64 z] w fun e w' => e = .returned (.bool b) ∧ w' = w := by
  have HB := hide hb
  clear hb
  go_enter Tryz.func91, Tryz.ntmps91
  go_wp2
  go_loop [5] (fun i => ∃ k : Nat, k ≤ n ∧ i = .int .i64 k ∧ Hid (z ∉ zs.take k)) (fun i => n - (intOf i).toNat)
  case atStart => exact ⟨0, Nat.zero_le _, rfl, by exact (by simp : z ∉ zs.take 0)⟩
  case round =>
    obtain ⟨k, hk, rfl, hno⟩ := hrel
    by_cases hlt : k < n
    · obtain ⟨ad, u, rfl, had, hu, hc⟩ := hr.at_ hlt
      obtain ⟨y, hy, rfl⟩ := i64_at hu
      clear hu
      by_cases he : y = z
      · subst he
        have hin : decide (y ∈ zs) = true := by simp [List.mem_of_getElem? hy]
        obtain rfl : b = true := (unhide HB).symm.trans hin
        clear hin hy HB hno
        go_wp2
        go_ret
        exact ⟨rfl, rfl⟩
      · have hnext := hide (has_step hy he (unhide hno))
        have he' : (y == z) = false := by simpa using he
        clear hno hy HB he
        go_wp2
        go_round
        case rel => exact ⟨k + 1, by omega, by go_num, hnext⟩
        case measure => simp [intOf]; omega
    · obtain rfl : n = k := by omega
      have hl : zs.length = n := by have := hr.1; rwa [i64_length] at this
      have hin : decide (z ∈ zs) = false := by
        have h := unhide hno
        rw [List.take_of_length_le (by omega)] at h
        simpa using h
      obtain rfl : b = false := (unhide HB).symm.trans hin
      clear hin HB hno hl
      go_wp2
      go_ret
      exact ⟨rfl, rfl⟩

theorem Reads.pre {w : World} {B n k : Nat} {A : Option Addr} {zs : List Int} (h : Reads w B A n (i64s zs)) (hk : k ≤ n) : Reads w B A k (i64s (zs.take k)) := by
  have hl : zs.length = n := by have := h.1; rwa [i64_length] at this
  refine ⟨by rw [i64_length, List.length_take]; omega, fun h0 => ?_⟩
  obtain ⟨ad, e, hb, hc⟩ := h.2 (by omega)
  refine ⟨ad, e, hb, fun j u hu => hc j u ?_⟩
  unfold i64s at hu ⊢
  rw [List.getElem?_map, List.getElem?_take] at hu
  rw [List.getElem?_map]
  by_cases hj : j < k
  · rwa [if_pos hj] at hu
  · rw [if_neg hj] at hu; cases hu
theorem Reads.len {w : World} {B n : Nat} {A : Option Addr} {zs : List Int} (h : Reads w B A n (i64s zs)) : zs.length = n := by have := h.1; rwa [i64_length] at this
theorem range_of {zs : List Int} {n : Nat} {z : Int} (hl : zs.length = n) (h : decide ((1 : Int) ≤ z ∧ z ≤ (n : Int)) = true) : 1 ≤ z ∧ z ≤ (zs.length : Int) := by rw [hl]; simpa using h
theorem range_not {zs : List Int} {n : Nat} {z : Int} (hl : zs.length = n) (h : decide ((1 : Int) ≤ z ∧ z ≤ (n : Int)) = false) : ¬ (1 ≤ z ∧ z ≤ (zs.length : Int)) := by rw [hl]; simpa using h

set_option maxHeartbeats 800000 in
theorem sisperm_any (A : Option Addr) (n c B : Nat) (zs : List Int) (b : Bool) (hb : isP zs = b) (w : World) (hr : Reads w B A n (i64s zs)) (hn : n ≤ 1048576) (hc : n ≤ c) :
    Calls Tryz.prog 55 #[.slice A n c] w fun e w' => e = .returned (.bool b) ∧ Drew w w' := by
  have HB := hide hb
  clear hb
  have hl := hr.len
  by_cases h8 : n ≤ 8
  · have HL := hide hl
    clear hl
    go_enter Tryz.func55, Tryz.ntmps55
    go_wp2
    go_loopw [3] (fun i wr => ∃ k : Nat, k ≤ n ∧ i = .int .i64 k ∧ Drew w wr ∧ Hid (Seen zs k)) (fun i _ => n - (intOf i).toNat)
    case atStart => exact ⟨0, Nat.zero_le _, rfl, Drew.refl _, by exact Seen.zero zs⟩
    case round =>
      obtain ⟨k, hk, rfl, hd, hs⟩ := hrel
      by_cases hlt : k < n
      · obtain ⟨ad, u, rfl, had, hu, hcell⟩ := (hr.ofDrew hd).at_ hlt
        obtain ⟨z, hz, rfl⟩ := i64_at hu
        have hpre := (hr.ofDrew hd).pre hk
        have HZ := hide hz
        have HD := hide hd
        clear hu hz hd
        obtain ⟨b1, hb1⟩ : ∃ b1, decide ((1 : Int) ≤ z ∧ z ≤ (n : Int)) = b1 := ⟨_, rfl⟩
        obtain ⟨b2, hb2⟩ : ∃ b2, decide (z ∈ zs.take k) = b2 := ⟨_, rfl⟩
        have HB1 := hide hb1
        have HB2 := hide hb2
        clear hb1 hb2
        have hkc : k ≤ c := by omega
        cases b1 with
        | false =>
          obtain rfl : b = false := (unhide HB).symm.trans (isP_no_range (unhide HZ) (range_not (unhide HL) (unhide HB1)))
          clear HB
          go_wp2
          go_quiet ((first | (go_at_call 52; exact Calls.quiet_of_same (l1in_any _ _ _ _ (unhide HB1) _)) | (go_at_call 91; exact Calls.quiet_of_same (l2has_any _ _ _ _ _ _ _ (unhide HB2) _ hpre (by omega)))))
          go_wp2
          go_ret
          exact ⟨rfl, (unhide HD).more _⟩
        | true =>
          cases b2 with
          | true =>
            obtain rfl : b = false := (unhide HB).symm.trans (isP_no_twice (unhide HZ) (by simpa using unhide HB2))
            clear HB
            go_wp2
            go_quiet ((first | (go_at_call 52; exact Calls.quiet_of_same (l1in_any _ _ _ _ (unhide HB1) _)) | (go_at_call 91; exact Calls.quiet_of_same (l2has_any _ _ _ _ _ _ _ (unhide HB2) _ hpre (by omega)))))
            go_wp2
            go_ret
            exact ⟨rfl, (unhide HD).more _⟩
          | false =>
            have hnext := hide ((unhide hs).step (unhide HZ) (range_of (unhide HL) (unhide HB1)) (by simpa using unhide HB2))
            go_wp2
            go_quiet ((first | (go_at_call 52; exact Calls.quiet_of_same (l1in_any _ _ _ _ (unhide HB1) _)) | (go_at_call 91; exact Calls.quiet_of_same (l2has_any _ _ _ _ _ _ _ (unhide HB2) _ hpre (by omega)))))
            go_wp2
            go_roundw
            case rel => exact ⟨k + 1, by omega, by go_num, (unhide HD).more _, hnext⟩
            case measure => simp [intOf]; omega
      · obtain rfl : n = k := by omega
        obtain rfl : b = true := (unhide HB).symm.trans (Seen.isP (by rw [unhide HL]; exact unhide hs) (by rw [unhide HL]; exact h8))
        clear HB hs
        have h8b : decide ((n : Int) ≤ 8) = true := by simp; omega
        go_wp2
        go_ret
        exact ⟨rfl, hd⟩
  · obtain rfl : b = false := (unhide HB).symm.trans (isP_long (by omega))
    clear HB hl
    have h8' : 8 < n := by omega
    go_enter Tryz.func55, Tryz.ntmps55
    go_wp2
    go_loopw [3] (fun i wr => i = .int .i64 0 ∧ w = wr) (fun i _ => 0)
    case atStart => exact ⟨rfl, rfl⟩
    case round =>
      obtain ⟨rfl, rfl⟩ := hrel
      have h8b : decide ((n : Int) ≤ 8) = false := by simp; omega
      go_wp2
      go_ret
      exact ⟨rfl, Drew.refl _⟩

end Go.Proofs.YtplchjeamooliaaGreatDoor


/-
  A block known whole (its cells, its type, nothing frozen); arrays of eight integers as values.
-/

namespace Go.Proofs.YtplchjeamooliaaGreatDoor
set_option maxRecDepth 100000
open Go.RowKit

/-- Block g holds these cells of this type, and none is frozen. -/
def Whole (w : World) (g : Nat) (t : TypeId) (cs : Array Value) : Prop := w.heap[g]? = some (.cells cs t (0, 0))
section
variable {w w' : World} {g : Nat} {t : TypeId} {cs : Array Value}
theorem Whole.lt (h : Whole w g t cs) : g < w.heap.size := by
  unfold Whole at h
  exact (Array.getElem?_eq_some_iff.1 h).1
theorem Whole.cell (h : Whole w g t cs) (i : Nat) : w.cell? ⟨g, i, none⟩ = cs[i]? := cell_of_row w g i cs t (0, 0) h
theorem Whole.frozen (h : Whole w g t cs) (i : Nat) : w.frozen? ⟨g, i, none⟩ = false := by
  unfold Whole at h
  simp [World.frozen?, h]
theorem Whole.new (w : World) (t : TypeId) (cs : Array Value) : Whole (w.alloc (.cells cs t)) w.heap.size t cs := heap_alloc_new w _
theorem Whole.drewN (h : Whole w g t cs) (n : Nat) : Whole (w.drewN n) g t cs := h
theorem Whole.alloc (h : Whole w g t cs) (o : Obj) : Whole (w.alloc o) g t cs := (Below.heap_alloc w o g h.lt).trans h
theorem Whole.put (h : Whole w g t cs) (i : Nat) (u : Value) : Whole (w.setCell ⟨g, i, none⟩ u) g t (cs.setIfInBounds i u) := by
  unfold Whole at h ⊢
  simp [World.setCell, Array.getElem?_modify, h]
theorem Whole.far (h : Whole w g t cs) {p : Addr} (hp : g ≠ p.block) (u : Value) : Whole (w.setCell p u) g t cs := (Below.heap_setCell w p u g hp).trans h
theorem Whole.below {B : Nat} (h : Whole w g t cs) (hb : Below B w w') (hg : g < B) : Whole w' g t cs := (hb.block g hg).trans h
theorem Whole.grown {row : Option Nat} (h : Whole w g t cs) (hb : w.grownBy w' row) (hg : some g ≠ row) : Whole w' g t cs := (hb.block g h.lt hg).trans h
end
theorem below_drew (B : Nat) (w : World) : Below B w w.drew := ⟨rfl, rfl, rfl, Nat.le_refl _, fun _ _ => rfl⟩
/-- An array's cells. -/
def arr (l : List Int) : Array Value := (i64s l).toArray
theorem arr_at {l : List Int} {k : Nat} {z : Int} (h : l[k]? = some z) : (arr l)[k]? = some (.int .i64 z) := by unfold arr; rw [List.getElem?_toArray]; exact i64_get h
theorem arr_set (l : List Int) (k : Nat) (z : Int) : (arr l).setIfInBounds k (.int .i64 z) = arr (l.set k z) := by
  unfold arr i64s
  rw [List.setIfInBounds_toArray, List.map_set]
theorem arr_size (l : List Int) : (arr l).size = l.length := by unfold arr; rw [List.size_toArray, i64_length]
end Go.Proofs.YtplchjeamooliaaGreatDoor


/-
  impl.ascendingArray, by its contract.
-/

namespace Go.Proofs.YtplchjeamooliaaGreatDoor
set_option maxRecDepth 100000
open Go.RowKit

theorem permInfo : (Tryz.prog.info? 87).map (·.size) = some 8 := by kernel_rfl
theorem arr_one (l : List Int) : (arr l).all (·.oneCell') = true := by
  unfold arr i64s
  simp only [List.all_toArray, List.all_map, List.all_eq_true]
  intro z _
  rfl
theorem zeros_asc : (#[Value.int .i64 0, Value.int .i64 0, Value.int .i64 0, Value.int .i64 0, Value.int .i64 0, Value.int .i64 0, Value.int .i64 0, Value.int .i64 0] : Array Value) = arr (ascL 0) := by rw [ascL_zero]; rfl
theorem below_set_row {B : Nat} {w w' : World} (hb : Below B w w') (g : Nat) (cs : Array Value) (hg : B ≤ g) : Below B w (w'.setRow g cs) :=
  hb.trans ⟨rfl, rfl, rfl, by simp [World.setRow], fun k hk => setRow_other w' g k cs (by omega)⟩

set_option maxHeartbeats 400000 in
theorem asc_any (n : Nat) (hn : n ≤ 8) (w : World) :
    Calls Tryz.prog 90 #[.int .i64 n] w fun e w' => e = .returned (.agg (arr (ascL n))) ∧ Below w.heap.size w w' := by
  go_enter Tryz.func90, Tryz.ntmps90
  go_wp2
  rw [zeros_asc]
  go_loopw [4, 6] (fun _ i wr => ∃ k : Nat, k ≤ n ∧ i = .int .i64 k ∧ Below w.heap.size w wr ∧ Whole wr w.heap.size 87 (arr (ascL 0)) ∧ Whole wr (w.heap.size + 1) 87 (arr (ascL k))) (fun _ i _ => n - (intOf i).toNat)
  case atStart =>
    have h1 := Whole.new w 87 (arr (ascL 0))
    have h2 := Whole.new (w.alloc (.cells (arr (ascL 0)) 87)) 87 (arr (ascL 0))
    rw [show (w.alloc (.cells (arr (ascL 0)) 87)).heap.size = w.heap.size + 1 by simp] at h2
    exact ⟨0, Nat.zero_le _, rfl, ((Below.refl _ _).alloc (Nat.le_refl _) _).alloc (by simp) _, h1.alloc _, h2⟩
  case round =>
    obtain ⟨k, hk, rfl, hb, hw0, hw1⟩ := hrel
    by_cases hlt : k < n
    · have hk8 : k < 8 := by omega
      obtain ⟨old, hold⟩ : ∃ old, wr.cell? ⟨w.heap.size + 1, k, none⟩ = some old := by
        rw [hw1.cell]
        exact ⟨_, Array.getElem?_eq_getElem (by rw [arr_size, ascL_length]; exact hk8)⟩
      have hfz := hw1.frozen k
      have n1 := hw1.put k (.int .i64 ((k : Int) + 1))
      rw [arr_set, ascL_step] at n1
      have n0 := hw0.far (p := ⟨w.heap.size + 1, k, none⟩) (by simp) (.int .i64 ((k : Int) + 1))
      have nb := hb.setCell (p := ⟨w.heap.size + 1, k, none⟩) (by simp) (.int .i64 ((k : Int) + 1))
      clear hw0 hw1 hb
      go_wp2
      go_roundw
      case rel => exact ⟨k + 1, by omega, by go_num, nb, n0, n1⟩
      case measure => simp [intOf]; omega
    · obtain rfl : n = k := by omega
      go_wp2_with (first
        | (refine wpList_load_row rfl 87 (.tmp 3) rfl (w.heap.size + 1) rfl 87 (arr (ascL n)) (0, 0) _ hw1 Tryz.underlying87 rfl (by rw [arr_size, ascL_length]; exact permInfo) ?_)
        | (refine wpList_store_row rfl 87 (.tmp 2) (.tmp 14) rfl w.heap.size (arr (ascL n)) rfl rfl 87 (arr (ascL 0)) hw0 (by rw [arr_size, ascL_length]; exact permInfo) (by rw [arr_size, arr_size, ascL_length, ascL_length]) (arr_one _) ?_))
      refine bodyPost_ret (v := .agg (arr (ascL n))) (results_cell_row Tryz.results90 _ _ w.heap.size 87 (arr (ascL n)) (0, 0) _ rfl (setRow_heap _ _ _ _ _ _ hw0) Tryz.underlying87 rfl (by rw [arr_size, ascL_length]; exact permInfo)) rfl ?_
      exact ⟨rfl, below_set_row hb _ _ (Nat.le_refl _)⟩
end Go.Proofs.YtplchjeamooliaaGreatDoor


/-
  PLAIN: arrays of integers compared.
-/

namespace Go.Proofs.YtplchjeamooliaaGreatDoor
set_option maxRecDepth 100000
open Go.RowKit

theorem all_at_eq : ∀ (xs ys : List Int), xs.length = ys.length → ((List.range xs.length).all fun i => xs.getD i 0 == ys.getD i 0) = (xs == ys)
  | [], [], _ => rfl
  | x :: xs, y :: ys, h => by
    have ih := all_at_eq xs ys (by simpa using h)
    rw [List.length_cons, List.range_succ_eq_map, List.all_cons, List.all_map]
    simp only [List.getD_cons_zero, Function.comp_def, List.getD_cons_succ, ih]
    simp [List.cons_beq_cons]
  | [], _ :: _, h => by simp at h
  | _ :: _, [], h => by simp at h

theorem run_equalIn_ints {P : Program} (w : World) (d : Nat) (t e : TypeId) (n : Nat) (ht : P.underlying t = some (.array n e)) (he : P.underlying e = some (.int .i64)) (hsz : ∀ w, (sizeOf e).run P w = .ok 1 w)
    (xs ys : List Int) (hx : xs.length = n) (hy : ys.length = n) :
    (Op.equalIn (d + 2) t (.agg (arr xs)) (.agg (arr ys))).run P w = .ok (xs == ys) w := by
  unfold arr i64s
  rw [← all_at_eq xs ys (hx.trans hy.symm), hx, List.range_eq_range', Op.equalIn]
  simp only [Sem.run_bind, run_underlying ht, Result.andThen_ok, hsz, Std.Legacy.Range.forIn_eq_forIn_range', Std.Legacy.Range.size, Nat.sub_zero, Nat.add_sub_cancel, Nat.div_one]
  have hl : ∀ i ∈ List.range' 0 n 1, i < n := fun i hi => by simpa using (List.mem_range'_1.1 hi).2
  generalize List.range' 0 n 1 = l at hl ⊢
  induction l with
  | nil => simp
  | cons i l ih =>
    have hi : i < n := hl i (by simp)
    have px : (part e (xs.map (Value.int .i64)).toArray (i * 1)).run P w = .ok (.int .i64 (xs.getD i 0)) w := by
      simp [part, isAgg, run_underlying he, List.getD, List.getElem?_eq_getElem (show i < xs.length by omega)]
    have py : (part e (ys.map (Value.int .i64)).toArray (i * 1)).run P w = .ok (.int .i64 (ys.getD i 0)) w := by
      simp [part, isAgg, run_underlying he, List.getD, List.getElem?_eq_getElem (show i < ys.length by omega)]
    have pe : (Op.equalIn (d + 1) e (.int .i64 (xs.getD i 0)) (.int .i64 (ys.getD i 0))).run P w = .ok (xs.getD i 0 == ys.getD i 0) w := by
      rw [run_equalIn_int w d e .i64 .i64 _ _ he]
    simp only [List.forIn_cons, Sem.run_bind, px, py, pe, Result.andThen_ok, List.all_cons]
    cases hb : (xs.getD i 0 == ys.getD i 0)
    · simp
    · simp only [Bool.not_true, Bool.false_eq_true, if_false, Sem.run_pure, Result.andThen_ok, Bool.true_and]
      exact ih fun j hj => hl j (by simp [hj])
theorem list8 {l : List Int} (h : l.length = 8) : ∃ x0 x1 x2 x3 x4 x5 x6 x7, l = [x0, x1, x2, x3, x4, x5, x6, x7] := by
  match l, h with
  | [x0, x1, x2, x3, x4, x5, x6, x7], _ => exact ⟨x0, x1, x2, x3, x4, x5, x6, x7, rfl⟩
end Go.Proofs.YtplchjeamooliaaGreatDoor
