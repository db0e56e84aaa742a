
/-
  THE DRAWS OF CHAPTER 5: spec.l5Inflated, spec.l5Bent, spec.DrawIsSimple, spec.DrawClosureOf, spec.DrawIsInterval, spec.DrawInflateBy, by their contracts.
-/
import Derived.Test.YtoiflglccbemeaaDrawL
import Derived.Test.YtoiflglccbemeaaPPerm
import Derived.Test.YtoiflglccbemeaaInflS
import Derived.Test.YtoiflglccbemeaaInflL
import Derived.Test.YtoiflglccbemeaaCloS
import Derived.OwnWalk
namespace Go.Proofs.Ytoiflglccbemeaa
set_option maxRecDepth 100000
open Go.RowKit

theorem inflR_lite (p : List Int) (l : List (List Int)) : Lite 9 (inflR p l) := by
  have h := inflR_le p l
  refine ⟨by omega, ?_⟩
  cases hf : inflOK p l with
  | false => rw [inflR_no hf]; exact small_nil
  | true => exact isP_small (infl_isP hf)
theorem ppR_lite (s : ByteArray) : Lite 9 (ppR s) := by
  have h := ppR_le s
  refine ⟨by omega, ?_⟩
  by_cases hd : s = ⟨#[45]⟩
  · subst hd; rw [ppR_dash]; exact small_nil
  · cases hk : ppOK s with
    | false => rw [ppR_no hd hk]; exact small_nil
    | true =>
      rw [ppR_yes hd hk]
      by_cases h0 : 0 < s.size
      · rw [ppOK_else hd h0] at hk
        exact isP_small hk
      · rw [ppOK_none hd (by omega)] at hk
        cases hk
/-- What is drawn with two integers. -/
def DrewIII (w : World) (e : Ending) (w' : World) : Prop :=
  ∃ A c zs, ∃ f t : Int, e = .returned (.tuple #[.slice A zs.length c, .int .i64 f, .int .i64 t]) ∧ Lite 9 zs ∧ (-9223372036854775808 ≤ f ∧ f ≤ 9223372036854775807) ∧ (-9223372036854775808 ≤ t ∧ t ≤ 9223372036854775807) ∧ Ints w' w.heap.size (.slice A zs.length c) zs ∧ Below w.heap.size w w'
theorem DrewIII.mk {w w' : World} {v : Value} {zs : List Int} {f t : Int} (hI : Ints w' w.heap.size v zs) (hl : Lite 9 zs) (hf : -1048576 ≤ f ∧ f ≤ 1048576) (ht : -1048576 ≤ t ∧ t ≤ 1048576) (h : Below w.heap.size w w') : DrewIII w (.returned (.tuple #[v, .int .i64 f, .int .i64 t])) w' := by
  obtain ⟨A, c, rfl⟩ := hI.slice
  exact ⟨A, c, zs, f, t, rfl, hl, by omega, by omega, hI, h⟩
/-- A row and a list of rows that were drawn. -/
def DrewIS (w : World) (e : Ending) (w' : World) : Prop :=
  ∃ A c p A' c' l, e = .returned (.tuple #[.slice A p.length c, .slice A' (l : List (List Int)).length c']) ∧ Lite 9 p ∧ l.length ≤ 10 ∧ (∀ z ∈ l, Lite 9 z) ∧ Ints w' w.heap.size (.slice A p.length c) p ∧ IntsS w' w.heap.size (.slice A' l.length c') l ∧ Below w.heap.size w w'
theorem DrewIS.mk {w w' : World} {v v' : Value} {p : List Int} {l : List (List Int)} (hI : Ints w' w.heap.size v p) (hS : IntsS w' w.heap.size v' l) (hp : Lite 9 p) (hn : l.length ≤ 10) (hl : ∀ z ∈ l, Lite 9 z) (h : Below w.heap.size w w') : DrewIS w (.returned (.tuple #[v, v'])) w' := by
  obtain ⟨A, c, rfl⟩ := hI.slice
  obtain ⟨A', c', rfl⟩ := hS.slice
  exact ⟨A, c, p, A', c', l, rfl, hp, hn, hl, hI, hS, h⟩

theorem wpList_push_fresh_keep {ops : Array Oper} {rest : List Oper} {o : Oper} {a : Act} {W : World} {Q : Exit → Act → World → Prop} (hgd : o.guard = none) (sl x : Operand)
    (ho : o.op = .call { callee := .builtin .append, args := #[sl, x], argTypes := #[30, 30] })
    (base : Nat) (wr : World) (v u : Value) (zss : List (List Int)) (zs : List Int) (hs : a.eval sl = v) (hx : a.eval x = .slice (some ⟨wr.heap.size, 0, none⟩) 1 1) (hW : W = wr.alloc (.cells #[u] 24))
    (hS : Fresh wr base v zss u) (hu : Ints wr base u zs) (hn : zss.length ≤ 1048576) (hbase : base ≤ wr.heap.size)
    (K : ∀ v' w', IntsS w' base v' (zss ++ [zs]) → Below base wr w' → KeepI wr w' → wpList Try.prog ops Q rest (a.put o.dst v') w') : wpList Try.prog ops Q (o :: rest) a W := by
  obtain ⟨i0, hi, hz0, hz1, hz2⟩ := info_parts rowsInfo
  obtain ⟨vs, hown, hin, ha⟩ := hS
  obtain ⟨A1, c1, rfl⟩ := hu.slice
  refine wpList_append_one hgd sl x 30 ho base 24 i0 (.slice none 0 0) 24 Try.underlying30 hi hz0 hz1 hz2 rfl wr wr v _ _ hs hown _ hx hW rfl (by omega) (by unfold maxLen; omega) (Below.refl _ _) hbase fun v' w' h1 h2 h3 => K v' w' ?_ h2 (KeepI.of_grown hown h3)
  have hk := KeepI.of_grown hown h3
  refine ⟨vs ++ [.slice A1 zs.length c1], by rw [List.length_append]; exact h1, ?_⟩
  exact (hin.keepI hk).push (hu.keepI hk) ha

set_option maxHeartbeats 3200000 in
theorem l5infl_any (B cb : Nat) (w : World) (hc : Cur w B cb) : Calls Try.prog 59 #[.pointer (some ⟨cb, 0, none⟩)] w (DrawnI B cb w 9) := by
  have hS0 := Side.start hc
  have H1 := hide (below_any B cb 5 (by omega) _ hc)
  clear hc
  go_enter Try.func59, Try.ntmps59
  go_wp2_with fail
  refine (unhide H1).mono ?_
  rintro e w1 ⟨v, rfl, ⟨x, rfl, hx0, hx1⟩, hc1, hg1⟩
  rw [if_pos (by omega)] at hx1
  obtain ⟨m, rfl⟩ : ∃ m : Nat, x = m := ⟨x.toNat, by omega⟩
  have hm : m ≤ 4 := by omega
  have hS1 := hS0.drawn hc1 hg1
  have H2 := hide (l2draw_any B cb (1 + m) (by omega) w1 hc1)
  rw [show ((1 + m : Nat) : Int) = 1 + (m : Int) by omega] at H2
  clear H1 hS0 hc1 hg1 hx0 hx1
  go_wp2_with fail
  refine (unhide H2).mono ?_
  rintro e w2 ⟨A2, c2, zs, rfl, hl, hown, hc2, hg2⟩
  have hS2 := hS1.drawn hc2 hg2
  have hI2 := (Ints.of_own hown).low hS1.size
  have HL2 : Hid (Lite 9 zs) := hide (hl.more (by omega))
  have H3 := hide (once_any B cb 2 (by omega) w2 hc2)
  clear H2 hS1 hl hown hc2 hg2
  go_wp2_with fail
  refine (unhide H3).mono ?_
  rintro e w3 ⟨v, rfl, ⟨b, rfl⟩, hc3, hg3⟩
  have hS3 := hS2.drawn hc3 hg3
  have hI3 := hI2.drawn hg3 hS2.lt
  clear H3 hS2 hI2 hg3
  cases b with
  | true =>
    have hal := (Below.refl w3.heap.size w3).alloc (Nat.le_refl _) (.cells (([⟨#[50, 52, 49, 51]⟩, ⟨#[51, 49, 52, 50]⟩, ⟨#[50, 52, 49, 53, 51]⟩, ⟨#[50, 53, 51, 49, 52]⟩, ⟨#[51, 49, 53, 50, 52]⟩] : List ByteArray).map Value.string).toArray 9)
    have hS4 := hS3.below hal
    have hne : w3.heap.size ≠ cb := by have := hc3.lt; omega
    have H4 := hide (pick_any B cb w3.heap.size 5 5 [⟨#[50, 52, 49, 51]⟩, ⟨#[51, 49, 52, 50]⟩, ⟨#[50, 52, 49, 53, 51]⟩, ⟨#[50, 53, 51, 49, 52]⟩, ⟨#[51, 49, 53, 50, 52]⟩] _ hS4.cur (Blk.new w3 _ _) hne rfl (by omega) (by omega))
    simp only [List.map_cons, List.map_nil] at H4 hS4 hal
    clear hS3 hc3
    go_wp2_with fail
    refine (unhide H4).mono ?_
    rintro e w5 ⟨v, rfl, ⟨s, hs, rfl⟩, hc5, hg5⟩
    have hss : s.size ≤ 1048576 := by
      simp only [List.mem_cons, List.not_mem_nil, or_false] at hs
      rcases hs with rfl | rfl | rfl | rfl | rfl <;> decide
    have hS5 := hS4.drawn hc5 hg5
    have H5 := hide (spp_any s hss _ rfl w5)
    clear H4 hS4 hs hc5 hg5 hal hI3 HL2
    go_wp2_with fail
    refine (unhide H5).mono ?_
    rintro e w6 ⟨A6, c6, rfl, own6, hb6⟩
    have hS := hS5.below hb6
    have hI := own6.low hS5.size
    have HL := hide (ppR_lite s)
    obtain ⟨p, hp⟩ : ∃ p, p = ppR s := ⟨_, rfl⟩
    rw [← hp] at hI HL ⊢
    clear H5 hS5 own6 hb6 hss hp
    have hI0 := IntsS.made0 w6 w.heap.size hS.size
    have hal0 := (Below.refl w6.heap.size w6).alloc (Nat.le_refl _) (.cells #[] 24)
    have hSb := hS.below hal0
    have hIb := hI.below hal0
    obtain ⟨L, hLp⟩ : ∃ L, L = p.length := ⟨_, rfl⟩
    have hL9 : L ≤ 9 := by have := (unhide HL).1; omega
    rw [← hLp] at hIb ⊢
    have HLP := hide hLp
    clear hS hI hal0 hLp
    go_wp2
    go_loopw [4, 5] (fun v i wr => ∃ (k : Nat) (zss : List (List Int)), k ≤ L ∧ i = .int .i64 k ∧ zss.length = k ∧ IntsS wr w.heap.size v zss ∧ Hid (∀ z ∈ zss, Lite 9 z) ∧ Side B cb w wr ∧ Ints wr w.heap.size (.slice A6 L c6) p) (fun _ i _ => L - (intOf i).toNat)
    case atStart => exact ⟨0, [], Nat.zero_le _, rfl, rfl, hI0, fun z hz => by simp at hz, hSb, hIb⟩
    case round =>
      obtain ⟨k, zss, hk, rfl, hzl, hI, hLz, hS, hp⟩ := hrel
      clear hI0 hSb hIb
      by_cases hlt : k < L
      · have hal := (Below.refl wr.heap.size wr).alloc (Nat.le_refl _) (.cells (([1, 1, 1, 2, 3] : List Int).map (Value.int .i64)).toArray 3)
        have hS2 := hS.below hal
        have hI2 := hI.below hal
        have hp2 := hp.below hal
        have hne : wr.heap.size ≠ cb := by have := hS.cur.lt; omega
        have H5 := hide (pickInt_any B cb wr.heap.size 5 5 [1, 1, 1, 2, 3] _ hS2.cur (Blk.new wr _ _) hne rfl (by omega) (by omega))
        have HZL := hide hzl
        simp only [List.map_cons, List.map_nil] at H5 hS2 hI2 hp2
        clear hzl hal hS hI hp
        go_wp2_with fail
        refine (unhide H5).mono ?_
        rintro e w7 ⟨v, rfl, ⟨y, hy, rfl⟩, hc7, hg7⟩
        have hy3 : 0 ≤ y ∧ y ≤ 3 := by
          simp only [List.mem_cons, List.not_mem_nil, or_false] at hy
          omega
        obtain ⟨m2, rfl⟩ : ∃ m2 : Nat, y = m2 := ⟨y.toNat, by omega⟩
        have hS7 := hS2.drawn hc7 hg7
        have hI7 := hI2.drawn hg7 hS2.lt
        have hp7 := hp2.drawn hg7 hS2.lt
        have H6 := hide (l2draw_any B cb m2 (by omega) w7 hc7)
        have hm23 : m2 ≤ 9 := by omega
        clear H5 hS2 hI2 hp2 hc7 hg7 hy3 hy
        go_wp2_with fail
        refine (unhide H6).mono ?_
        rintro e w8 ⟨A8, c8, z8, rfl, hl8, hown8, hc8, hg8⟩
        have hu := Ints.of_own hown8
        have hF := hI7.fresh hg8 hS7.lt hu
        have hS8 := hS7.drawn hc8 hg8
        have hp8 := hp7.drawn hg8 hS7.lt
        have hu8 := hu.low hS7.size
        have hlen : zss.length ≤ 1048576 := by have := unhide HZL; omega
        have hL2 := hide (show ∀ z ∈ zss ++ [z8], Lite 9 z from fun z hz => by
          rcases List.mem_append.1 hz with hz | hz
          · exact unhide hLz z hz
          · rw [List.mem_singleton] at hz; subst hz; exact hl8.more hm23)
        have hsz := hS8.size
        clear H6 hl8 hown8 hu hI7 hS7 hp7 hc8 hg8 hLz
        go_wp2_with (first
          | (at_builtin; refine wpList_push_fresh_keep rfl (.tmp 29) (.tmp 35) rfl w.heap.size w8 _ _ zss z8 rfl rfl rfl hF hu8 hlen hsz ?_))
        intro v9 w9 hI9 hb9 hk9
        have hS9 := hS8.low hb9
        have hp9 := hp8.keepI hk9
        have hlen9 : (zss ++ [z8]).length = k + 1 := by rw [List.length_append, unhide HZL]; rfl
        clear hF hu8 hS8 hb9 hp8 hk9
        go_wp2
        go_roundw
        case rel => exact ⟨k + 1, zss ++ [z8], by omega, by go_num, hlen9, hI9, hL2, hS9, hp9⟩
        case measure => simp [intOf]; omega
      · obtain rfl : L = k := by omega
        subst hzl
        obtain ⟨A9, c9, rfl⟩ := hI.slice
        have hpl := hide (inflR_lite p zss)
        obtain ⟨b, hb⟩ : ∃ b, inflOK p zss = b := ⟨_, rfl⟩
        have H7 := hide (sinfl_any A6 A9 _ c6 _ _ c9 _ p zss wr (hp.arg (by omega) hp.cap (unhide HL).2) hI (by omega) (fun z hz => ⟨by have := (unhide hLz z hz).1; omega, (unhide hLz z hz).2⟩))
        rw [hb] at H7
        clear hI hb
        go_wp2_with fail
        refine (unhide H7).mono ?_
        rintro e w9 ⟨A10, c10, rfl, own10, hb10⟩
        have hS10 := hide (hS.below hb10)
        have hp10 := hp.below hb10
        have ho10 := own10.low hS.size
        clear H7 own10 hb10 hS hp
        cases b with
        | true =>
          go_wp2
          go_ret
          exact DrawnI.mk ho10 (unhide hpl) (unhide hS10)
        | false =>
          go_wp2
          go_ret
          exact DrawnI.mk hp10 (unhide HL) (unhide hS10)
  | false =>
    have hS := hS3
    have hI := hI3
    have HL := HL2
    clear hS3 hI3 HL2 hc3
    have hI0 := IntsS.made0 w3 w.heap.size hS.size
    have hal0 := (Below.refl w3.heap.size w3).alloc (Nat.le_refl _) (.cells #[] 24)
    have hSb := hS.below hal0
    have hIb := hI.below hal0
    obtain ⟨L, hLp⟩ : ∃ L, L = zs.length := ⟨_, rfl⟩
    have hL9 : L ≤ 9 := by have := (unhide HL).1; omega
    rw [← hLp] at hIb ⊢
    have HLP := hide hLp
    clear hS hI hal0 hLp
    go_wp2
    go_loopw [4, 5] (fun v i wr => ∃ (k : Nat) (zss : List (List Int)), k ≤ L ∧ i = .int .i64 k ∧ zss.length = k ∧ IntsS wr w.heap.size v zss ∧ Hid (∀ z ∈ zss, Lite 9 z) ∧ Side B cb w wr ∧ Ints wr w.heap.size (.slice A2 L c2) zs) (fun _ i _ => L - (intOf i).toNat)
    case atStart => exact ⟨0, [], Nat.zero_le _, rfl, rfl, hI0, fun z hz => by simp at hz, hSb, hIb⟩
    case round =>
      obtain ⟨k, zss, hk, rfl, hzl, hI, hLz, hS, hp⟩ := hrel
      clear hI0 hSb hIb
      by_cases hlt : k < L
      · have hal := (Below.refl wr.heap.size wr).alloc (Nat.le_refl _) (.cells (([1, 1, 1, 2, 3] : List Int).map (Value.int .i64)).toArray 3)
        have hS2 := hS.below hal
        have hI2 := hI.below hal
        have hp2 := hp.below hal
        have hne : wr.heap.size ≠ cb := by have := hS.cur.lt; omega
        have H5 := hide (pickInt_any B cb wr.heap.size 5 5 [1, 1, 1, 2, 3] _ hS2.cur (Blk.new wr _ _) hne rfl (by omega) (by omega))
        have HZL := hide hzl
        simp only [List.map_cons, List.map_nil] at H5 hS2 hI2 hp2
        clear hzl hal hS hI hp
        go_wp2_with fail
        refine (unhide H5).mono ?_
        rintro e w7 ⟨v, rfl, ⟨y, hy, rfl⟩, hc7, hg7⟩
        have hy3 : 0 ≤ y ∧ y ≤ 3 := by
          simp only [List.mem_cons, List.not_mem_nil, or_false] at hy
          omega
        obtain ⟨m2, rfl⟩ : ∃ m2 : Nat, y = m2 := ⟨y.toNat, by omega⟩
        have hS7 := hS2.drawn hc7 hg7
        have hI7 := hI2.drawn hg7 hS2.lt
        have hp7 := hp2.drawn hg7 hS2.lt
        have H6 := hide (l2draw_any B cb m2 (by omega) w7 hc7)
        have hm23 : m2 ≤ 9 := by omega
        clear H5 hS2 hI2 hp2 hc7 hg7 hy3 hy
        go_wp2_with fail
        refine (unhide H6).mono ?_
        rintro e w8 ⟨A8, c8, z8, rfl, hl8, hown8, hc8, hg8⟩
        have hu := Ints.of_own hown8
        have hF := hI7.fresh hg8 hS7.lt hu
        have hS8 := hS7.drawn hc8 hg8
        have hp8 := hp7.drawn hg8 hS7.lt
        have hu8 := hu.low hS7.size
        have hlen : zss.length ≤ 1048576 := by have := unhide HZL; omega
        have hL2 := hide (show ∀ z ∈ zss ++ [z8], Lite 9 z from fun z hz => by
          rcases List.mem_append.1 hz with hz | hz
          · exact unhide hLz z hz
          · rw [List.mem_singleton] at hz; subst hz; exact hl8.more hm23)
        have hsz := hS8.size
        clear H6 hl8 hown8 hu hI7 hS7 hp7 hc8 hg8 hLz
        go_wp2_with (first
          | (at_builtin; refine wpList_push_fresh_keep rfl (.tmp 29) (.tmp 35) rfl w.heap.size w8 _ _ zss z8 rfl rfl rfl hF hu8 hlen hsz ?_))
        intro v9 w9 hI9 hb9 hk9
        have hS9 := hS8.low hb9
        have hp9 := hp8.keepI hk9
        have hlen9 : (zss ++ [z8]).length = k + 1 := by rw [List.length_append, unhide HZL]; rfl
        clear hF hu8 hS8 hb9 hp8 hk9
        go_wp2
        go_roundw
        case rel => exact ⟨k + 1, zss ++ [z8], by omega, by go_num, hlen9, hI9, hL2, hS9, hp9⟩
        case measure => simp [intOf]; omega
      · obtain rfl : L = k := by omega
        subst hzl
        obtain ⟨A9, c9, rfl⟩ := hI.slice
        have hpl := hide (inflR_lite zs zss)
        obtain ⟨b, hb⟩ : ∃ b, inflOK zs zss = b := ⟨_, rfl⟩
        have H7 := hide (sinfl_any A2 A9 _ c2 _ _ c9 _ zs zss wr (hp.arg (by omega) hp.cap (unhide HL).2) hI (by omega) (fun z hz => ⟨by have := (unhide hLz z hz).1; omega, (unhide hLz z hz).2⟩))
        rw [hb] at H7
        clear hI hb
        go_wp2_with fail
        refine (unhide H7).mono ?_
        rintro e w9 ⟨A10, c10, rfl, own10, hb10⟩
        have hS10 := hide (hS.below hb10)
        have hp10 := hp.below hb10
        have ho10 := own10.low hS.size
        clear H7 own10 hb10 hS hp
        cases b with
        | true =>
          go_wp2
          go_ret
          exact DrawnI.mk ho10 (unhide hpl) (unhide hS10)
        | false =>
          go_wp2
          go_ret
          exact DrawnI.mk hp10 (unhide HL) (unhide hS10)
--END5INFL
theorem l5bent_any (B cb : Nat) (w : World) (hc : Cur w B cb) : Calls Try.prog 39 #[.pointer (some ⟨cb, 0, none⟩)] w (DrawnI B cb w 9) := by
  have hS0 := Side.start hc
  have H1 := hide (once_any B cb 3 (by omega) _ hc)
  clear hc
  go_enter Try.func39, Try.ntmps39
  go_wp2_with fail
  refine (unhide H1).mono ?_
  rintro e w1 ⟨v, rfl, ⟨b, rfl⟩, hc1, hg1⟩
  have hS1 := hS0.drawn hc1 hg1
  have H2 := hide (l2bent_any B cb w1 hc1)
  have H3 := hide (l5infl_any B cb w1 hc1)
  clear H1 hS0 hc1 hg1
  cases b with
  | true =>
    go_wp2_with fail
    refine (unhide H2).mono ?_
    rintro e w2 ⟨A2, c2, zs, rfl, hl, hI, hc2, hg2⟩
    have hS2 := hide (hS1.drawn hc2 hg2)
    have hI2 := hI.low hS1.size
    have HL := hide hl
    clear H2 H3 hS1 hl hI hc2 hg2
    go_wp2
    go_ret
    exact DrawnI.mk hI2 (unhide HL) (unhide hS2)
  | false =>
    go_wp2_with fail
    refine (unhide H3).mono ?_
    rintro e w2 ⟨A2, c2, zs, rfl, hl, hI, hc2, hg2⟩
    have hS2 := hide (hS1.drawn hc2 hg2)
    have hI2 := hI.low hS1.size
    have HL := hide hl
    clear H2 H3 hS1 hl hI hc2 hg2
    go_wp2
    go_ret
    exact DrawnI.mk hI2 (unhide HL) (unhide hS2)

set_option maxHeartbeats 1600000 in
theorem dsimple_any (A : Option Addr) (n c B : Nat) (bs : List UInt8) (w : World) (hr : Reads w B A n (u8s bs)) (hn : n ≤ 1048576) (hB : B ≤ w.heap.size) :
    Calls Try.prog 15 #[.slice A n c] w (DrewI w 9) := by
  have H1 := hide (new_any A n c B bs w hr hn hB)
  clear hr
  go_enter Try.func15, Try.ntmps15
  go_wp2_with fail
  refine (unhide H1).mono ?_
  rintro e w1 ⟨cb, rfl, hcb, hc1, hb1⟩
  have hS0 := Side.start hc1
  have hsz1 := hb1.size
  have H2 := hide (once_any B cb 3 (by omega) w1 hc1)
  clear H1 hc1
  go_wp2_with fail
  refine (unhide H2).mono ?_
  rintro e w2 ⟨v, rfl, ⟨b, rfl⟩, hc2, hg2⟩
  have hS2 := hS0.drawn hc2 hg2
  have H3 := hide (l5bent_any B cb w2 hc2)
  clear H2 hS0 hg2
  cases b with
  | true =>
    have hal := (Below.refl w2.heap.size w2).alloc (Nat.le_refl _) (.cells (([⟨#[50, 52, 49, 51]⟩, ⟨#[51, 49, 52, 50]⟩, ⟨#[50, 52, 49, 53, 51]⟩, ⟨#[50, 53, 51, 49, 52]⟩, ⟨#[51, 49, 53, 50, 52]⟩, ⟨#[51, 53, 49, 52, 50]⟩, ⟨#[52, 49, 51, 53, 50]⟩, ⟨#[52, 50, 53, 49, 51]⟩, ⟨#[50, 52, 54, 49, 51, 53]⟩, ⟨#[49]⟩, ⟨#[49, 50]⟩] : List ByteArray).map Value.string).toArray 9)
    have hS4 := hS2.below hal
    have hne : w2.heap.size ≠ cb := by have := hc2.lt; omega
    have H4 := hide (pick_any B cb w2.heap.size 11 11 [⟨#[50, 52, 49, 51]⟩, ⟨#[51, 49, 52, 50]⟩, ⟨#[50, 52, 49, 53, 51]⟩, ⟨#[50, 53, 51, 49, 52]⟩, ⟨#[51, 49, 53, 50, 52]⟩, ⟨#[51, 53, 49, 52, 50]⟩, ⟨#[52, 49, 51, 53, 50]⟩, ⟨#[52, 50, 53, 49, 51]⟩, ⟨#[50, 52, 54, 49, 51, 53]⟩, ⟨#[49]⟩, ⟨#[49, 50]⟩] _ hS4.cur (Blk.new w2 _ _) hne rfl (by omega) (by omega))
    simp only [List.map_cons, List.map_nil] at H4 hS4 hal
    clear hS2 hc2 hal H3
    go_wp2_with fail
    refine (unhide H4).mono ?_
    rintro e w5 ⟨v, rfl, ⟨s, hs, rfl⟩, hc5, hg5⟩
    have hss : s.size ≤ 1048576 := by
      simp only [List.mem_cons, List.not_mem_nil, or_false] at hs
      rcases hs with rfl | rfl | rfl | rfl | rfl | rfl | rfl | rfl | rfl | rfl | rfl <;> decide
    have hS5 := hS4.drawn hc5 hg5
    have H5 := hide (spp_any s hss _ rfl w5)
    clear H4 hS4 hs hc5 hg5
    go_wp2_with fail
    refine (unhide H5).mono ?_
    rintro e w6 ⟨A6, c6, rfl, own6, hb6⟩
    have hb7 := (hS5.below hb6).under hb1 hcb
    have hI := (own6.low hS5.size).low hsz1
    have HL := hide (ppR_lite s)
    clear H5 hS5 own6 hb6 hss
    go_wp2
    go_ret
    exact DrewI.mk hI (unhide HL) hb7
  | false =>
    go_wp2_with fail
    refine (unhide H3).mono ?_
    rintro e w3 ⟨A2, c2, zs, rfl, hl, hI, hc3, hg3⟩
    have hb3 := (hS2.drawn hc3 hg3).under hb1 hcb
    have hI2 := (hI.low hS2.size).low hsz1
    have HL := hide hl
    clear H3 hS2 hl hI hc3 hg3 hc2
    go_wp2
    go_ret
    exact DrewI.mk hI2 (unhide HL) hb3

set_option maxHeartbeats 1600000 in
theorem dclo_any (A : Option Addr) (n c B : Nat) (bs : List UInt8) (w : World) (hr : Reads w B A n (u8s bs)) (hn : n ≤ 1048576) (hB : B ≤ w.heap.size) :
    Calls Try.prog 11 #[.slice A n c] w (DrewIII w) := by
  have H1 := hide (new_any A n c B bs w hr hn hB)
  clear hr
  go_enter Try.func11, Try.ntmps11
  go_wp2_with fail
  refine (unhide H1).mono ?_
  rintro e w1 ⟨cb, rfl, hcb, hc1, hb1⟩
  have hS0 := Side.start hc1
  have hsz1 := hb1.size
  have H2 := hide (l5bent_any B cb w1 hc1)
  clear H1 hc1
  go_wp2_with fail
  refine (unhide H2).mono ?_
  rintro e w2 ⟨A2, c2, zs, rfl, hl, hI, hc2, hg2⟩
  have hS2 := hS0.drawn hc2 hg2
  have hI2 := hI.low hS0.size
  have HL := hide hl
  have hl9 := hl.1
  clear H2 hS0 hl hI hg2
  go_wp2_with fail
  refine (max_any _ _ _).mono ?_
  rintro e w3 ⟨rfl, rfl⟩
  obtain ⟨N, hN, hN1, hN9⟩ : ∃ N, max (1 : Int) (zs.length : Int) = N ∧ 1 ≤ N ∧ N ≤ 9 := ⟨_, rfl, by omega, by omega⟩
  rw [hN]
  have H4 := hide (below_any B cb N (by omega) w3 hc2)
  clear hN hc2
  go_wp2_with fail
  refine (unhide H4).mono ?_
  rintro e w4 ⟨v, rfl, ⟨x, rfl, hx0, hx1⟩, hc4, hg4⟩
  rw [if_pos (by omega)] at hx1
  have hS4 := hS2.drawn hc4 hg4
  have hI4 := hI2.drawn hg4 hS2.lt
  have H5 := hide (once_any B cb 12 (by omega) w4 hc4)
  clear H4 hS2 hI2 hc4 hg4
  go_wp2_with fail
  refine (unhide H5).mono ?_
  rintro e w5 ⟨v, rfl, ⟨b1, rfl⟩, hc5, hg5⟩
  have hS5 := hS4.drawn hc5 hg5
  have hI5 := hI4.drawn hg5 hS4.lt
  clear H5 hS4 hI4 hg5
  go_wp2_with fail
  refine (bit_any _ _).mono ?_
  rintro e w6 ⟨rfl, rfl⟩
  obtain ⟨v1, hv1, hv10, hv11⟩ : ∃ v, bitI b1 = v ∧ 0 ≤ v ∧ v ≤ 1 := ⟨_, rfl, by cases b1 <;> decide, by cases b1 <;> decide⟩
  rw [hv1]
  have H6 := hide (below_any B cb N (by omega) w6 hc5)
  clear hv1 hc5
  go_wp2_with fail
  refine (unhide H6).mono ?_
  rintro e w7 ⟨v, rfl, ⟨y, rfl, hy0, hy1⟩, hc7, hg7⟩
  rw [if_pos (by omega)] at hy1
  have hS7 := hS5.drawn hc7 hg7
  have hI7 := hI5.drawn hg7 hS5.lt
  have H7 := hide (once_any B cb 12 (by omega) w7 hc7)
  clear H6 hS5 hI5 hc7 hg7
  go_wp2_with fail
  refine (unhide H7).mono ?_
  rintro e w8 ⟨v, rfl, ⟨b2, rfl⟩, hc8, hg8⟩
  have hS8 := hS7.drawn hc8 hg8
  have hI8 := (hI7.drawn hg8 hS7.lt).low hsz1
  have hb8 := hS8.under hb1 hcb
  clear H7 hS7 hI7 hg8 hc8 hS8
  go_wp2_with fail
  refine (bit_any _ _).mono ?_
  rintro e w9 ⟨rfl, rfl⟩
  obtain ⟨v2, hv2, hv20, hv21⟩ : ∃ v, bitI b2 = v ∧ 0 ≤ v ∧ v ≤ 1 := ⟨_, rfl, by cases b2 <;> decide, by cases b2 <;> decide⟩
  rw [hv2]
  clear hv2
  go_wp2
  go_ret3
  exact DrewIII.mk hI8 (unhide HL) (by omega) (by omega) hb8
end Go.Proofs.Ytoiflglccbemeaa
