
/-
  DRAWS OF ROWS OF INTEGERS: spec.l2Draw, spec.l2Any, spec.l2Bent, by their contracts.
-/
import Derived.Test.YtoiflglccbemeaaDraw
import Derived.Test.YtoiflglccbemeaaApp
import Derived.Test.YtoiflglccbemeaaIntsS
namespace Go.Proofs.Ytoiflglccbemeaa
set_option maxRecDepth 100000
open Go.RowKit

/-- What a call that draws has done so far: the cursor stands in block cb; of the blocks that were there the cursor's alone may have turned. -/
structure Side (B cb : Nat) (w wr : World) : Prop where
  cur : Cur wr B cb
  lt : cb < w.heap.size
  gr : w.grownBy wr (some cb)
theorem Cur.base {w : World} {B cb : Nat} (h : Cur w B cb) : B ≤ cb := by
  obtain ⟨_, _, _, _, _, _, _, _, _, _, hB⟩ := h
  exact hB
theorem Side.start {B cb : Nat} {w : World} (h : Cur w B cb) : Side B cb w w := ⟨h, h.lt, World.grownBy.refl w _⟩
theorem Side.size {B cb : Nat} {w wr : World} (h : Side B cb w wr) : w.heap.size ≤ wr.heap.size := h.gr.size
theorem Cur.low {w w' : World} {B cb L : Nat} (h : Cur w B cb) (hL : cb < L) (hb : Below L w w') : Cur w' B cb := by
  obtain ⟨A, n, c, k, bs, x, h1, hr, hn, hk, hB⟩ := h
  exact ⟨A, n, c, k, bs, x, (hb.block cb hL).trans h1, hr.below (hb.mono (by omega)), hn, hk, hB⟩
/-- Work of the call's own. -/
theorem Side.low {B cb : Nat} {w wr w' : World} (h : Side B cb w wr) (hb : Below w.heap.size wr w') : Side B cb w w' :=
  ⟨h.cur.low h.lt hb, h.lt, ⟨hb.os.trans h.gr.os, hb.tape.trans h.gr.tape, hb.output.trans h.gr.output, Nat.le_trans h.gr.size hb.size, fun i hi hne => (hb.block i hi).trans (h.gr.block i hi hne)⟩⟩
theorem Side.below {B cb : Nat} {w wr w' : World} (h : Side B cb w wr) (hb : Below wr.heap.size wr w') : Side B cb w w' := h.low (hb.mono h.size)
/-- A draw. -/
theorem Side.drawn {B cb : Nat} {w wr w' : World} (h : Side B cb w wr) (hc : Cur w' B cb) (hg : wr.grownBy w' (some cb)) : Side B cb w w' := ⟨hc, h.lt, grown_then h.gr hg⟩
theorem own_drawn {w w' : World} {B cb n : Nat} {e : TypeId} {v : Value} {xs : List Value} (h : w.ownsRow B e 1 v n xs) (hg : w.grownBy w' (some cb)) (hc : cb < B) : w'.ownsRow B e 1 v n xs := by
  refine h.kept hg ?_
  cases hv : v.ownBlock with
  | none => exact .inl rfl
  | some k => exact .inr (fun e => by have := (h.lt k hv).1; injection e with e; omega)
theorem Ints.drawn {w w' : World} {B cb : Nat} {v : Value} {zs : List Int} (h : Ints w B v zs) (hg : w.grownBy w' (some cb)) (hc : cb < B) : Ints w' B v zs := by
  refine h.kept hg ?_
  cases hv : v.ownBlock with
  | none => exact .inl rfl
  | some k => exact .inr (fun e => by have := h.since k hv; injection e with e; omega)
theorem Inner.drawn {w w' : World} {B cb : Nat} {vs : List Value} {zss : List (List Int)} (h : Inner w B vs zss) (hg : w.grownBy w' (some cb)) (hc : cb < B) : Inner w' B vs zss :=
  ⟨h.len, fun i u zs hu hz => (h.row i u zs hu hz).drawn hg hc, h.away⟩
theorem IntsS.drawn {w w' : World} {B cb : Nat} {v : Value} {zss : List (List Int)} (h : IntsS w B v zss) (hg : w.grownBy w' (some cb)) (hc : cb < B) : IntsS w' B v zss := by
  obtain ⟨vs, h1, h2⟩ := h
  exact ⟨vs, own_drawn h1 hg hc, h2.drawn hg hc⟩

/-- What is drawn is short and its numbers have 64 bits. -/
def Lite (L : Nat) (zs : List Int) : Prop := zs.length ≤ L ∧ Small zs
/-- A row that was drawn, with room to grow. -/
def DrawnO (B cb : Nat) (w : World) (L : Nat) (e : Ending) (w' : World) : Prop :=
  ∃ A c zs, e = .returned (.slice A zs.length c) ∧ Lite L zs ∧ w'.ownsRow w.heap.size 3 1 (.slice A zs.length c) zs.length (i64s zs) ∧ Cur w' B cb ∧ w.grownBy w' (some cb)
/-- .. of a known length. -/
def DrawnE (B cb : Nat) (w : World) (L : Nat) (e : Ending) (w' : World) : Prop :=
  ∃ A c zs, e = .returned (.slice A L c) ∧ zs.length = L ∧ Small zs ∧ w'.ownsRow w.heap.size 3 1 (.slice A L c) L (i64s zs) ∧ Cur w' B cb ∧ w.grownBy w' (some cb)
theorem DrawnE.mk {B cb L : Nat} {w w' : World} {v : Value} {zs : List Int} (hI : w'.ownsRow w.heap.size 3 1 v L (i64s zs)) (hn : zs.length = L) (hl : Small zs) (h : Side B cb w w') : DrawnE B cb w L (.returned v) w' := by
  obtain ⟨A, c, rfl, _⟩ := Reads.of_own hI
  exact ⟨A, c, zs, rfl, hn, hl, hI, h.cur, h.gr⟩
theorem DrawnO.mk {B cb L : Nat} {w w' : World} {v : Value} {zs : List Int} (hI : w'.ownsRow w.heap.size 3 1 v zs.length (i64s zs)) (hl : Lite L zs) (h : Side B cb w w') : DrawnO B cb w L (.returned v) w' := by
  obtain ⟨A, c, rfl, _⟩ := Reads.of_own hI
  exact ⟨A, c, zs, rfl, hl, hI, h.cur, h.gr⟩
/-- A row that was drawn. -/
def DrawnI (B cb : Nat) (w : World) (L : Nat) (e : Ending) (w' : World) : Prop :=
  ∃ A c zs, e = .returned (.slice A zs.length c) ∧ Lite L zs ∧ Ints w' w.heap.size (.slice A zs.length c) zs ∧ Cur w' B cb ∧ w.grownBy w' (some cb)
theorem DrawnI.mk {B cb L : Nat} {w w' : World} {v : Value} {zs : List Int} (hI : Ints w' w.heap.size v zs) (hl : Lite L zs) (h : Side B cb w w') : DrawnI B cb w L (.returned v) w' := by
  obtain ⟨A, c, rfl⟩ := hI.slice
  exact ⟨A, c, zs, rfl, hl, hI, h.cur, h.gr⟩
theorem Lite.more {L L' : Nat} {zs : List Int} (h : Lite L zs) (hL : L ≤ L') : Lite L' zs := ⟨Nat.le_trans h.1 hL, h.2⟩
theorem Lite.arg {w : World} {B n c L : Nat} {A : Option Addr} {zs : List Int} (h : Lite L zs) (hI : Ints w B (.slice A n c) zs) (hL : L ≤ 1048576) : Arg w w.heap.size A n c zs :=
  hI.arg (by have := hI.len; have := h.1; omega) hI.cap h.2
theorem small_nil : Small [] := fun z hz => by simp at hz
theorem small_put {zs : List Int} {at_ : Nat} {k : Int} (h : Small zs) (hk : -9223372036854775808 ≤ k ∧ k ≤ 9223372036854775807) : Small (zs.take at_ ++ [k] ++ zs.drop at_) := fun z hz => by
  rcases List.mem_append.1 hz with hz | hz
  · rcases List.mem_append.1 hz with hz | hz
    · exact h z (List.mem_of_mem_take hz)
    · rw [List.mem_singleton] at hz; subst hz; exact hk
  · exact h z (List.mem_of_mem_drop hz)

theorem own_base {w : World} {B B' n : Nat} {e : TypeId} {v : Value} {xs : List Value} (h : w.ownsRow B e 1 v n xs) (hB : B' ≤ B) : w.ownsRow B' e 1 v n xs := by
  refine ⟨h.1, ?_⟩
  rcases h.2 with h2 | ⟨g, cap, cur, e, hb, h2⟩
  · exact .inl h2
  · exact .inr ⟨g, cap, cur, e, Nat.le_trans hB hb, h2⟩
theorem take_i64 (zs : List Int) (s : Nat) : (i64s zs).take s = i64s (zs.take s) := by unfold i64s; rw [List.map_take]
theorem drop_i64 (zs : List Int) (s : Nat) : (i64s zs).drop s = i64s (zs.drop s) := by unfold i64s; rw [List.map_drop]
theorem i64_snoc2 (xs : List Int) (z : Int) : i64s xs ++ [Value.int .i64 z] = i64s (xs ++ [z]) := by unfold i64s; simp

set_option maxHeartbeats 1600000 in
theorem l2drawE_any (B cb m : Nat) (hm : m ≤ 16) (w : World) (hc : Cur w B cb) :
    Calls Try.prog 53 #[.pointer (some ⟨cb, 0, none⟩), .int .i64 m] w (DrawnE B cb w m) := by
  obtain ⟨i0, hi, hz0, hz1, hz2⟩ := info_parts intInfo
  have hS0 := Side.start hc
  have hst := own0 w w.heap.size (Nat.le_refl _)
  have hS := hS0.below ((Below.refl w.heap.size w).alloc (Nat.le_refl _) (.cells #[] 3))
  clear hS0 hc
  go_enter Try.func53, Try.ntmps53
  go_wp2
  go_loopw [5, 6, 7, 8] (fun v i _ _ wr => ∃ (k : Nat) (zs : List Int) (g cap : Nat), k ≤ m ∧ i = .int .i64 ((k : Int) + 1) ∧ v = .slice (some ⟨g, 0, none⟩) k cap ∧ zs.length = k ∧ k ≤ cap ∧ w.heap.size ≤ g ∧ Hid (Small zs) ∧ Side B cb w wr ∧ wr.ownsRow w.heap.size 3 1 (.slice (some ⟨g, 0, none⟩) k cap) k (i64s zs)) (fun _ i _ _ _ => m + 1 - (intOf i).toNat)
  case atStart => exact ⟨0, [], w.heap.size, 0, Nat.zero_le _, rfl, rfl, rfl, Nat.le_refl _, Nat.le_refl _, small_nil, hS, hst⟩
  case round =>
    obtain ⟨k, zs, g, cap, hk, rfl, rfl, hzl, hkc, hgb, hsm, hS, hown⟩ := hrel
    clear hst
    by_cases hlt : k < m
    · have H1 := hide (below_any B cb ((k : Int) + 1) (by omega) wr hS.cur)
      have hlt' : (k : Int) + 1 ≤ (m : Int) := by omega
      have HZL := hide hzl
      clear hzl
      go_wp2_with fail
      refine (unhide H1).mono ?_
      rintro e w1 ⟨v, rfl, ⟨x, rfl, hx0, hx1⟩, hc1, hg1⟩
      rw [if_pos (by omega)] at hx1
      obtain ⟨s, rfl⟩ : ∃ s : Nat, x = s := ⟨x.toNat, by omega⟩
      have hsk : s ≤ k := by omega
      have hown1 := own_drawn hown hg1 hS.lt
      have hS1 := hS.drawn hc1 hg1
      clear H1 hown hc1 hg1 hS hx0 hx1
      by_cases hsc : s < cap
      · have hsc' : (s : Int) < (cap : Int) := by omega
        have hsk' : (s : Int) ≤ (k : Int) := by omega
        have hE := own0 w1 w1.heap.size (Nat.le_refl _)
        have hal := (Below.refl w1.heap.size w1).alloc (Nat.le_refl _) (.cells #[] 3)
        have hsz1 := hS1.size
        have hA : Arg (w1.alloc (.cells #[] 3)) w1.heap.size (some ⟨g, s, none⟩) (k - s) (cap - s) (zs.drop s) := by
          refine ⟨by rw [← drop_i64]; exact (own_rest hown1 hsk).below hal, by simp, by omega, by omega, fun z hz => unhide hsm z (List.mem_of_mem_drop hz), fun e => by cases e⟩
        go_wp2_with (first
          | (at_builtin; refine wpList_append_arg rfl (.tmp 20) (.tmp 23) rfl w1.heap.size w1.heap.size 0 (k - s) (cap - s) w1 _ (some ⟨g, s, none⟩) [] (zs.drop s) rfl rfl hE hA (by omega) hal hal.size ?_))
        intro v2 w2 hown2 hb2 hg2
        clear hE hA hal hg2
        have hown3 := own_cut (own_below hown1 hb2) hsk
        rw [take_i64] at hown3
        have hS2 := hS1.below hb2
        have hgw1 := (hown1.lt g rfl).2
        clear hown1 hS1
        go_wp2_with (first
          | (at_builtin; refine wpList_append_one rfl (.tmp 27) (.tmp 29) 24 rfl w.heap.size 3 i0 (.int .i64 0) 8 Try.underlying24 hi hz0 hz1 hz2 rfl w2 w2 _ _ _ rfl hown3 (.int .i64 ((k : Int) + 1)) rfl rfl rfl (by omega) (by unfold maxLen; omega) (Below.refl _ _) hS2.size ?_))
        intro v4 w4 hown4 hb4 hg4
        have hI2 : Ints w4 w1.heap.size v2 (zs.drop s) := by
          have h : Ints w2 w1.heap.size v2 (zs.drop s) := Ints.of_own hown2
          refine h.kept hg4 ?_
          cases hv : v2.ownBlock with
          | none => exact .inl rfl
          | some q => exact .inr (fun e => by have := h.since q hv; simp [Value.ownBlock] at e; omega)
        obtain ⟨A2, c2, rfl, _⟩ := Reads.of_own hown2
        have hdl : (zs.drop s).length = k - s := by have h := hown2.1; rw [i64_length] at h; omega
        have hA4 := hI2.arg (by omega) hI2.cap (show Small (zs.drop s) from fun z hz => unhide hsm z (List.mem_of_mem_drop hz))
        rw [i64_snoc2] at hown4
        have hS4 := hS2.low hb4
        clear hown2 hI2 hown3 hS2 hg4 hb2
        go_wp2_with (first
          | (at_builtin; refine wpList_append_arg rfl (.tmp 30) (.tmp 31) rfl w.heap.size w4.heap.size (s + 1) (k - s) c2 w4 _ A2 (zs.take s ++ [(k : Int) + 1]) (zs.drop s) rfl rfl hown4 hA4 (by omega) (Below.refl _ _) hS4.size ?_))
        intro v5 w5 hown5 hb5 hg5
        obtain ⟨g5, c5, rfl, hg5b, hc5⟩ := own_first hown5 (by omega)
        have hS5 := hS4.low hb5
        have hk1 : s + 1 + (k - s) = k + 1 := by omega
        rw [hk1] at hown5 hc5 ⊢
        have hsm5 := hide (small_put (at_ := s) (k := (k : Int) + 1) (unhide hsm) (by omega))
        have hlen5 : (zs.take s ++ [(k : Int) + 1] ++ zs.drop s).length = k + 1 := by
          have := unhide HZL
          simp only [List.length_append, List.length_take, List.length_drop, List.length_singleton]; omega
        clear hown4 hA4 hS4 hb4 hb5 hg5
        go_wp2
        go_roundw
        case rel => exact ⟨k + 1, _, g5, c5, by omega, by go_num, rfl, hlen5, hc5, hg5b, hsm5, hS5, by rw [List.append_assoc]; exact hown5⟩
        case measure => simp [intOf]; omega
      · have hsk2 : s = k := by omega
        have hkc2 : k = cap := by omega
        subst hsk2
        subst hkc2
        have hsk' : (s : Int) ≤ (s : Int) := by omega
        have hE := own0 w1 w1.heap.size (Nat.le_refl _)
        have hal := (Below.refl w1.heap.size w1).alloc (Nat.le_refl _) (.cells #[] 3)
        have hsz1 := hS1.size
        have hA : Arg (w1.alloc (.cells #[] 3)) w1.heap.size (some ⟨g, 0, none⟩) (0) (0) (zs.drop s) := by
          have hz0 : zs.drop s = [] := List.drop_of_length_le (by have := unhide HZL; omega)
          rw [hz0]
          exact ⟨⟨rfl, fun h => absurd h (by omega)⟩, by simp, by omega, by omega, small_nil, fun e => by cases e⟩
        go_wp2_with (first
          | (at_builtin; refine wpList_append_arg rfl (.tmp 20) (.tmp 23) rfl w1.heap.size w1.heap.size 0 (0) (0) w1 _ (some ⟨g, 0, none⟩) [] (zs.drop s) rfl rfl hE hA (by omega) hal hal.size ?_))
        intro v2 w2 hown2 hb2 hg2
        clear hE hA hal hg2
        have hown3 := own_cut (own_below hown1 hb2) hsk
        rw [take_i64] at hown3
        have hS2 := hS1.below hb2
        have hgw1 := (hown1.lt g rfl).2
        clear hown1 hS1
        go_wp2_with (first
          | (at_builtin; refine wpList_append_one rfl (.tmp 27) (.tmp 29) 24 rfl w.heap.size 3 i0 (.int .i64 0) 8 Try.underlying24 hi hz0 hz1 hz2 rfl w2 w2 _ _ _ rfl hown3 (.int .i64 ((s : Int) + 1)) rfl rfl rfl (by omega) (by unfold maxLen; omega) (Below.refl _ _) hS2.size ?_))
        intro v4 w4 hown4 hb4 hg4
        have hI2 : Ints w4 w1.heap.size v2 (zs.drop s) := by
          have h : Ints w2 w1.heap.size v2 (zs.drop s) := Ints.of_own hown2
          refine h.kept hg4 ?_
          cases hv : v2.ownBlock with
          | none => exact .inl rfl
          | some q => exact .inr (fun e => by have := h.since q hv; simp [Value.ownBlock] at e; omega)
        obtain ⟨A2, c2, rfl, _⟩ := Reads.of_own hown2
        have hdl : (zs.drop s).length = 0 := by have h := hown2.1; rw [i64_length] at h; omega
        have hA4 := hI2.arg (by omega) hI2.cap (show Small (zs.drop s) from fun z hz => unhide hsm z (List.mem_of_mem_drop hz))
        rw [i64_snoc2] at hown4
        have hS4 := hS2.low hb4
        clear hown2 hI2 hown3 hS2 hg4 hb2
        go_wp2_with (first
          | (at_builtin; refine wpList_append_arg rfl (.tmp 30) (.tmp 31) rfl w.heap.size w4.heap.size (s + 1) (0) c2 w4 _ A2 (zs.take s ++ [(s : Int) + 1]) (zs.drop s) rfl rfl hown4 hA4 (by omega) (Below.refl _ _) hS4.size ?_))
        intro v5 w5 hown5 hb5 hg5
        obtain ⟨g5, c5, rfl, hg5b, hc5⟩ := own_first hown5 (by omega)
        have hS5 := hS4.low hb5
        have hk1 : s + 1 + (0) = s + 1 := by omega
        rw [hk1] at hown5 hc5 ⊢
        have hsm5 := hide (small_put (at_ := s) (k := (s : Int) + 1) (unhide hsm) (by omega))
        have hlen5 : (zs.take s ++ [(s : Int) + 1] ++ zs.drop s).length = s + 1 := by
          have := unhide HZL
          simp only [List.length_append, List.length_take, List.length_drop, List.length_singleton]; omega
        clear hown4 hA4 hS4 hb4 hb5 hg5
        go_wp2
        go_roundw
        case rel => exact ⟨s + 1, _, g5, c5, by omega, by go_num, rfl, hlen5, hc5, hg5b, hsm5, hS5, by rw [List.append_assoc]; exact hown5⟩
        case measure => simp [intOf]; omega
    · obtain rfl : k = m := by omega
      have hlt' : ¬ (k : Int) + 1 ≤ (k : Int) := by omega
      have HS := hide hS
      have HZ := hide hzl
      clear hzl hS
      go_wp2
      go_ret
      exact DrawnE.mk hown (unhide HZ) (unhide hsm) (unhide HS)
theorem l2draw_any (B cb m : Nat) (hm : m ≤ 16) (w : World) (hc : Cur w B cb) :
    Calls Try.prog 53 #[.pointer (some ⟨cb, 0, none⟩), .int .i64 m] w (DrawnO B cb w m) := by
  refine (l2drawE_any B cb m hm w hc).mono ?_
  rintro e w1 ⟨A, c, zs, rfl, hl, hs, hown, hc1, hg1⟩
  refine ⟨A, c, zs, by rw [hl], ⟨by omega, hs⟩, ?_, hc1, hg1⟩
  rw [hl]
  exact hown

set_option maxHeartbeats 800000 in
theorem l2any_any (B cb : Nat) (w : World) (hc : Cur w B cb) : Calls Try.prog 64 #[.pointer (some ⟨cb, 0, none⟩)] w (DrawnO B cb w 8) := by
  have hal := (Below.refl w.heap.size w).alloc (Nat.le_refl _) (.cells ([0, 1, 2, 3, 4, 5, 5, 6, 6, 7, 8].map (Value.int .i64)).toArray 3)
  have hS := (Side.start hc).below hal
  have hne : w.heap.size ≠ cb := by have := hc.lt; omega
  have H1 := hide (pickInt_any B cb w.heap.size 11 11 [0, 1, 2, 3, 4, 5, 5, 6, 6, 7, 8] _ hS.cur (Blk.new w _ _) hne rfl (by omega) (by omega))
  clear hal hc
  simp only [List.map_cons, List.map_nil] at hS H1
  go_enter Try.func64, Try.ntmps64
  go_wp2_with fail
  refine (unhide H1).mono ?_
  rintro e w1 ⟨v, rfl, ⟨x, hx, rfl⟩, hc1, hg1⟩
  have hx8 : 0 ≤ x ∧ x ≤ 8 := by
    simp only [List.mem_cons, List.not_mem_nil, or_false] at hx
    omega
  obtain ⟨m, rfl⟩ : ∃ m : Nat, x = m := ⟨x.toNat, by omega⟩
  have hm : m ≤ 8 := by omega
  have hS1 := hS.drawn hc1 hg1
  have H2 := hide (l2draw_any B cb m (by omega) w1 hc1)
  clear H1 hx hx8 hS hc1 hg1
  go_wp2_with fail
  refine (unhide H2).mono ?_
  rintro e w2 ⟨A2, c2, zs, rfl, hl, hown, hc2, hg2⟩
  have hS2 := hS1.drawn hc2 hg2
  have hown2 := own_base hown hS1.size
  have HL := hide (hl.more hm)
  have HS := hide hS2
  clear H2 hl hc2 hg2 hS2 hown
  go_wp2
  go_ret
  exact ⟨A2, c2, zs, rfl, unhide HL, hown2, (unhide HS).cur, (unhide HS).gr⟩

set_option maxHeartbeats 1600000 in
theorem l2bent_any (B cb : Nat) (w : World) (hc : Cur w B cb) : Calls Try.prog 54 #[.pointer (some ⟨cb, 0, none⟩)] w (DrawnI B cb w 9) := by
  obtain ⟨i0, hi, hz0, hz1, hz2⟩ := info_parts intInfo
  have hS := Side.start hc
  have H1 := hide (l2any_any B cb w hc)
  clear hc
  go_enter Try.func54, Try.ntmps54
  go_wp2_with fail
  refine (unhide H1).mono ?_
  rintro e w1 ⟨A, c, zs, rfl, hl, hown, hc1, hg1⟩
  have hS1 := hS.drawn hc1 hg1
  have H2 := hide (below_any B cb 14 (by omega) w1 hc1)
  have HL := hide hl
  have hl8 := hl.1
  clear H1 hS hc1 hg1 hl
  go_wp2_with fail
  refine (unhide H2).mono ?_
  rintro e w2 ⟨v, rfl, ⟨x, rfl, hx0, hx1⟩, hc2, hg2⟩
  have hS2 := hS1.drawn hc2 hg2
  have hown2 := own_drawn hown hg2 hS1.lt
  clear H2 hown hS1 hg2
  by_cases h0 : x = 0
  · subst h0
    have H3 := hide (below_any B cb 12 (by omega) w2 hc2)
    clear hc2
    go_wp2_with fail
    refine (unhide H3).mono ?_
    rintro e w3 ⟨v, rfl, ⟨y, rfl, hy0, hy1⟩, hc3, hg3⟩
    rw [if_pos (by omega)] at hy1
    have hS3 := hS2.drawn hc3 hg3
    have hown3 := own_drawn hown2 hg3 hS2.lt
    have hsz := hS3.size
    clear H3 hown2 hS2 hc3 hg3
    go_wp2_with (first
      | (at_builtin; refine wpList_append_one rfl (.tmp 10) (.tmp 14) 24 rfl w.heap.size 3 i0 (.int .i64 0) 8 Try.underlying24 hi hz0 hz1 hz2 rfl w3 w3 _ _ _ rfl hown3 (.int .i64 (y - 1)) rfl rfl rfl (by omega) (by unfold maxLen; omega) (Below.refl _ _) hsz ?_))
    intro v4 w4 hown4 hb4 _
    rw [i64_snoc2] at hown4
    have hI : Ints w4 w.heap.size v4 (zs ++ [y - 1]) := by
      have h := hown4
      rw [show zs.length + 1 = (zs ++ [y - 1]).length by simp] at h
      exact Ints.of_own h
    have hS4 := hS3.low hb4
    have HL2 := hide (show Lite 9 (zs ++ [y - 1]) from ⟨by simp; omega, fun z hz => by
      rcases List.mem_append.1 hz with hz | hz
      · exact (unhide HL).2 z hz
      · rw [List.mem_singleton] at hz; subst hz; omega⟩)
    have HS := hide hS4
    clear hown3 hS3 hown4 hb4 hS4
    go_wp2
    go_ret
    exact DrawnI.mk hI (unhide HL2) (unhide HS)
  · have HS := hide hS2
    have HL2 := hide ((unhide HL).more (show 8 ≤ 9 by omega))
    by_cases h1 : x = 1
    · subst h1
      by_cases hlen : 0 < zs.length
      · obtain ⟨g, c', hv, hgb, hcc⟩ := own_first hown2 hlen
        injection hv with hv1 hv2 hv3
        subst hv1
        subst hv3
        have H3 := hide (below_any B cb 11 (by omega) w2 hc2)
        have hlen' : (0 : Int) < (zs.length : Int) := by omega
        clear hc2
        go_wp2_with fail
        refine (unhide H3).mono ?_
        rintro e w3 ⟨v, rfl, ⟨y, rfl, hy0, hy1⟩, hc3, hg3⟩
        rw [if_pos (by omega)] at hy1
        have hS3 := hS2.drawn hc3 hg3
        have hown3 := own_drawn hown2 hg3 hS2.lt
        obtain ⟨old, hold⟩ : ∃ old, w3.cell? ⟨g, 0, none⟩ = some old := ⟨_, by rw [hown3.cellAt 0 (by omega)]; exact List.getElem?_eq_getElem (by rw [i64_length]; exact hlen)⟩
        have hfz := hown3.frozenAt 0
        have hst := hown3.stored 0 (.int .i64 (y - 1))
        have hb4 := (Below.refl w.heap.size w3).setCell (p := ⟨g, 0, none⟩) hgb (.int .i64 (y - 1))
        have hS4 := hS3.low hb4
        have hI : Ints (w3.setCell ⟨g, 0, none⟩ (.int .i64 (y - 1))) w.heap.size (.slice (some ⟨g, 0, none⟩) zs.length c) (zs.set 0 (y - 1)) := by
          have h := hst.1
          rw [show (i64s zs).set 0 (.int .i64 (y - 1)) = i64s (zs.set 0 (y - 1)) by unfold i64s; rw [List.map_set]] at h
          have h9 := Ints.of_own (zs := zs.set 0 (y - 1)) (n := zs.length) h
          exact h9
        have HL3 := hide (show Lite 9 (zs.set 0 (y - 1)) from ⟨by rw [List.length_set]; omega, fun z hz => by
          rcases List.mem_or_eq_of_mem_set hz with hz | hz
          · exact (unhide HL).2 z hz
          · subst hz; omega⟩)
        have HS4 := hide hS4
        clear H3 hown2 hS2 hc3 hg3 hown3 hS3 hst hb4 hS4
        go_wp2
        go_ret
        exact DrawnI.mk hI (unhide HL3) (unhide HS4)
      · obtain rfl : zs = [] := List.eq_nil_of_length_eq_zero (by omega)
        have hI : Ints w2 w.heap.size (.slice A 0 c) [] := Ints.of_own hown2
        clear hown2 hc2 hS2 hlen
        go_wp2
        go_ret
        exact DrawnI.mk hI (unhide HL2) (unhide HS)
    · have hI : Ints w2 w.heap.size (.slice A zs.length c) zs := Ints.of_own hown2
      clear hown2 hc2 hS2
      go_wp2
      go_ret
      exact DrawnI.mk hI (unhide HL2) (unhide HS)
end Go.Proofs.Ytoiflglccbemeaa
