
/-
  DRAWS OF LISTS AND OF SUMS: spec.l3List, spec.l4Two, spec.l4Summed, spec.l4Bent; spec.DrawSumParts, spec.DrawSumOf, spec.DrawJoinParts, spec.DrawIsLayered, by their contracts.
-/
import Derived.Test.YtjfdjjigamlhfaaDrawI
import Derived.Test.YtjfdjjigamlhfaaPush
import Derived.Test.YtjfdjjigamlhfaaJoins
import Derived.Test.YtjfdjjigamlhfaaIdent
import Derived.Test.YtjfdjjigamlhfaaRev
import Derived.Test.YtjfdjjigamlhfaaSame
namespace Go.Proofs.Ytjfdjjigamlhfaa
open Go.RowKit

/-- A list of rows and a row that lies apart from all of it. -/
def Fresh (w : World) (B : Nat) (v : Value) (zss : List (List Int)) (u : Value) : Prop := ∃ vs, w.ownsRow B 22 1 v zss.length vs ∧ Inner w B vs zss ∧ ∀ x ∈ vs, Away x u
theorem IntsS.fresh {w0 w : World} {B cb : Nat} {v u : Value} {zss : List (List Int)} {zs : List Int} (h : IntsS w0 B v zss) (hg : w0.grownBy w (some cb)) (hc : cb < B) (hu : Ints w w0.heap.size u zs) : Fresh w B v zss u := by
  obtain ⟨vs, h1, h2⟩ := h
  exact ⟨vs, own_drawn h1 hg hc, h2.drawn hg hc, h2.away_new hu.since (Nat.le_refl _)⟩
theorem wpList_push_fresh {ops : Array Oper} {rest : List Oper} {o : Oper} {a : Act} {W : World} {Q : Exit → Act → World → Prop} (hgd : o.guard = none) (sl x : Operand)
    (ho : o.op = .call { callee := .builtin .append, args := #[sl, x], argTypes := #[28, 28] })
    (base : Nat) (wr : World) (v u : Value) (zss : List (List Int)) (zs : List Int) (hs : a.eval sl = v) (hx : a.eval x = .slice (some ⟨wr.heap.size, 0, none⟩) 1 1) (hW : W = wr.alloc (.cells #[u] 22))
    (hS : Fresh wr base v zss u) (hu : Ints wr base u zs) (hn : zss.length ≤ 1048576) (hbase : base ≤ wr.heap.size)
    (K : ∀ v' w', IntsS w' base v' (zss ++ [zs]) → Below base wr w' → wpList Try.prog ops Q rest (a.put o.dst v') w') : wpList Try.prog ops Q (o :: rest) a W := by
  obtain ⟨i0, hi, hz0, hz1, hz2⟩ := info_parts rowsInfo
  obtain ⟨vs, hown, hin, ha⟩ := hS
  obtain ⟨A1, c1, rfl⟩ := hu.slice
  refine wpList_append_one hgd sl x 28 ho base 22 i0 (.slice none 0 0) 24 Try.underlying28 hi hz0 hz1 hz2 rfl wr wr v _ _ hs hown _ hx hW rfl (by omega) (by unfold maxLen; omega) (Below.refl _ _) hbase fun v' w' h1 h2 h3 => K v' w' ?_ h2
  have hk := KeepI.of_grown hown h3
  refine ⟨vs ++ [.slice A1 zs.length c1], by rw [List.length_append]; exact h1, ?_⟩
  exact (hin.keepI hk).push (hu.keepI hk) ha
theorem IntsS.putDrawn {w0 w : World} {B cb g n cap k : Nat} {zss : List (List Int)} {z : List Int} {u : Value} (h : IntsS w0 B (.slice (some ⟨g, 0, none⟩) n cap) zss) (hg : w0.grownBy w (some cb)) (hc : cb < B) (hu : Ints w w0.heap.size u z) (hB : B ≤ w0.heap.size) :
    IntsS (w.setCell ⟨g, k, none⟩ u) B (.slice (some ⟨g, 0, none⟩) n cap) (zss.set k z) := by
  have hl := h.len
  subst hl
  obtain ⟨vs, h2, h3⟩ := h
  have o := own_drawn h2 hg hc
  have ha := h3.away_new hu.since (Nat.le_refl _)
  have st := o.stored k u
  have hk := KeepI.of_grown o st.2
  refine ⟨vs.set k u, by rw [List.length_set]; exact st.1, ?_⟩
  exact ((h3.drawn hg hc).keepI hk).set k ((hu.low hB).keepI hk) ha
/-- A list of two rows that was just built. -/
theorem IntsS.two {w : World} {B : Nat} {u v : Value} {p q : List Int} (hp : Ints w B u p) (hq : Ints w B v q) (ha : Away u v) (hB : B ≤ w.heap.size) :
    IntsS (w.alloc (.cells #[u, v] 22)) B (.slice (some ⟨w.heap.size, 0, none⟩) 2 2) [p, q] := by
  have hal := (Below.refl w.heap.size w).alloc (Nat.le_refl _) (.cells #[u, v] 22)
  refine ⟨[u, v], ⟨rfl, .inr ⟨w.heap.size, 2, #[u, v], rfl, hB, heap_alloc_new w _, Nat.le_refl _, by unfold maxLen; omega, rfl, rfl⟩⟩, ?_⟩
  have h1 := (Inner.nil (w.alloc (.cells #[u, v] 22)) B).push (hp.below hal) (fun x hx => by simp at hx)
  exact h1.push (hq.below hal) (fun x hx => by simp at hx; subst hx; exact ha)
theorem away_since {w : World} {B : Nat} {u v : Value} {zs : List Int} (hu : Ints w B u zs) (hv : Since w.heap.size v) : Away u v := by
  unfold Away
  cases h : u.ownBlock with
  | none => exact .inl rfl
  | some k =>
    refine .inr fun e => ?_
    have h1 := hv k e.symm
    have h2 := hu.until_ k h
    omega

/-- A list of rows that was drawn. -/
def DrawnSS (B cb : Nat) (w : World) (e : Ending) (w' : World) : Prop :=
  ∃ A c zss, e = .returned (.slice A zss.length c) ∧ zss.length ≤ 4 ∧ (∀ z ∈ zss, Lite 9 z) ∧ IntsS w' w.heap.size (.slice A zss.length c) zss ∧ Cur w' B cb ∧ w.grownBy w' (some cb)
theorem DrawnSS.mk {B cb : Nat} {w w' : World} {v : Value} {zss : List (List Int)} (hI : IntsS w' w.heap.size v zss) (hn : zss.length ≤ 4) (hl : ∀ z ∈ zss, Lite 9 z) (h : Side B cb w w') : DrawnSS B cb w (.returned v) w' := by
  obtain ⟨A, c, rfl⟩ := hI.slice
  exact ⟨A, c, zss, rfl, hn, hl, hI, h.cur, h.gr⟩

set_option maxHeartbeats 1600000 in
theorem l3list_any (B cb : Nat) (w : World) (hc : Cur w B cb) : Calls Try.prog 57 #[.pointer (some ⟨cb, 0, none⟩)] w (DrawnSS B cb w) := by
  have hI0 := IntsS.made0 w w.heap.size (Nat.le_refl _)
  have hS0 := (Side.start hc).below ((Below.refl w.heap.size w).alloc (Nat.le_refl _) (.cells #[] 22))
  have H1 := hide (below_any B cb 5 (by omega) _ hS0.cur)
  clear hc
  go_enter Try.func57, Try.ntmps57
  go_wp2_with fail
  refine (unhide H1).mono ?_
  rintro e w1 ⟨v, rfl, ⟨x, rfl, hx0, hx1⟩, hc1, hg1⟩
  rw [if_pos (by omega)] at hx1
  obtain ⟨n, rfl⟩ : ∃ n : Nat, x = n := ⟨x.toNat, by omega⟩
  have hn4 : n ≤ 4 := by omega
  have hS1 := hS0.drawn hc1 hg1
  have hI1 := hI0.drawn hg1 hS0.lt
  clear H1 hS0 hI0 hc1 hg1 hx0 hx1
  go_wp2
  go_loopw [3, 5] (fun v i wr => ∃ (k : Nat) (zss : List (List Int)), k ≤ n ∧ i = .int .i64 k ∧ zss.length = k ∧ IntsS wr w.heap.size v zss ∧ Hid (∀ z ∈ zss, Lite 9 z) ∧ Side B cb w wr) (fun _ i _ => n - (intOf i).toNat)
  case atStart => exact ⟨0, [], Nat.zero_le _, rfl, rfl, hI1, fun z hz => by simp at hz, hS1⟩
  case round =>
    obtain ⟨k, zss, hk, rfl, hzl, hI, hL, hS⟩ := hrel
    clear hI1 hS1
    by_cases hlt : k < n
    · have H2 := hide (below_any B cb 5 (by omega) wr hS.cur)
      have HZL := hide hzl
      clear hzl
      go_wp2_with fail
      refine (unhide H2).mono ?_
      rintro e w2 ⟨v, rfl, ⟨y, rfl, hy0, hy1⟩, hc2, hg2⟩
      rw [if_pos (by omega)] at hy1
      obtain ⟨m, rfl⟩ : ∃ m : Nat, y = m := ⟨y.toNat, by omega⟩
      have hS2 := hS.drawn hc2 hg2
      have hI2 := hI.drawn hg2 hS.lt
      have H3 := hide (l2draw_any B cb m (by omega) w2 hc2)
      have hm4 : m ≤ 4 := by omega
      clear H2 hS hI hc2 hg2 hy0 hy1
      go_wp2_with fail
      refine (unhide H3).mono ?_
      rintro e w3 ⟨A3, c3, zs, rfl, hl, hown, hc3, hg3⟩
      have hu := Ints.of_own hown
      have hF := hI2.fresh hg3 hS2.lt hu
      have hS3 := hS2.drawn hc3 hg3
      have hu3 := hu.low hS2.size
      have hlen : zss.length ≤ 1048576 := by have := unhide HZL; omega
      have hL2 := hide (show ∀ z ∈ zss ++ [zs], Lite 9 z from fun z hz => by
        rcases List.mem_append.1 hz with hz | hz
        · exact unhide hL z hz
        · rw [List.mem_singleton] at hz; subst hz; exact hl.more (by omega))
      have hsz := hS3.size
      clear H3 hl hown hu hI2 hS2 hc3 hg3 hL
      go_wp2_with (first
        | (at_builtin; refine wpList_push_fresh rfl (.tmp 14) (.tmp 19) rfl w.heap.size w3 _ _ zss zs rfl rfl rfl hF hu3 hlen hsz ?_))
      intro v4 w4 hI4 hb4
      have hS4 := hS3.low hb4
      have hlen4 : (zss ++ [zs]).length = k + 1 := by rw [List.length_append, unhide HZL]; rfl
      clear hF hu3 hS3 hb4
      go_wp2
      go_roundw
      case rel => exact ⟨k + 1, zss ++ [zs], by omega, by go_num, hlen4, hI4, hL2, hS4⟩
      case measure => simp [intOf]; omega
    · obtain rfl : n = k := by omega
      subst hzl
      obtain ⟨A3, c3, rfl⟩ := hI.slice
      have HL := hide (unhide hL)
      by_cases h0 : 0 < zss.length
      · have H4 := hide (once_any B cb 12 (by omega) wr hS.cur)
        have h0' : (0 : Int) < (zss.length : Int) := by omega
        go_wp2_with fail
        refine (unhide H4).mono ?_
        rintro e w5 ⟨v, rfl, ⟨b, rfl⟩, hc5, hg5⟩
        have hS5 := hS.drawn hc5 hg5
        have hI5 := hI.drawn hg5 hS.lt
        clear H4 hS hI hg5
        cases b with
        | false =>
          have HS := hide hS5
          clear hS5 hc5
          go_wp2
          go_ret
          exact DrawnSS.mk hI5 hn4 (unhide HL) (unhide HS)
        | true =>
          obtain ⟨g, rfl⟩ := hI5.shape h0
          have H5 := hide (l2bent_any B cb w5 hc5)
          clear hc5
          go_wp2_with fail
          refine (unhide H5).mono ?_
          rintro e w6 ⟨A6, c6, zs, rfl, hl, hu, hc6, hg6⟩
          obtain ⟨⟨old, hold⟩, hfz, hge⟩ := (hI5.drawn hg6 hS5.lt).old (k := 0) h0
          have hI7 := hI5.putDrawn (k := 0) hg6 hS5.lt hu hS5.size
          have hS7 := (hS5.drawn hc6 hg6).low ((Below.refl w.heap.size w6).setCell (p := ⟨g, 0, none⟩) hge (.slice A6 zs.length c6))
          have hL7 := hide (show ∀ z ∈ zss.set 0 zs, Lite 9 z from fun z hz => by
            rcases List.mem_or_eq_of_mem_set hz with hz | hz
            · exact unhide HL z hz
            · subst hz; exact hl)
          have hlen7 : (zss.set 0 zs).length ≤ 4 := by rw [List.length_set]; exact hn4
          have HS := hide hS7
          clear H5 hl hu hc6 hg6 hI5 hS5 hS7 hge
          go_wp2
          go_ret
          exact DrawnSS.mk hI7 hlen7 (unhide hL7) (unhide HS)
      · obtain rfl : zss = [] := List.eq_nil_of_length_eq_zero (by omega)
        have HS := hide hS
        clear hS h0
        go_wp2
        go_ret
        exact DrawnSS.mk hI hn4 (unhide HL) (unhide HS)

theorem idR_nat' {n : Nat} (h : n ≤ 8) : idR (n : Int) = upTo n := by
  by_cases h1 : 1 ≤ n
  · rw [idR_yes (by omega) (by omega)]; congr 1
  · obtain rfl : n = 0 := by omega
    rfl
theorem isP_upTo' {n : Nat} (h : n ≤ 8) : isP (upTo n) = true := isP_true.2 ⟨by rw [upTo_length]; exact h, fun x hx => by rw [upTo_length]; exact mem_upTo.1 hx, upTo_nodup n⟩
theorem joinsR_lite (s : Bool) (l : List (List Int)) : Lite 9 (joinsR s l) := by
  have h := joinsR_le s l
  refine ⟨by omega, ?_⟩
  cases hf : allFit l with
  | false => rw [joinsR_no hf]; exact small_nil
  | true =>
    rw [joinsR_yes hf]
    simp only [allFit, Bool.and_eq_true, decide_eq_true_eq] at hf
    exact isP_small (joinAll_isP l hf.1 hf.2)

set_option maxHeartbeats 1600000 in
theorem l4summed_any (B cb : Nat) (w : World) (hc : Cur w B cb) : Calls Try.prog 69 #[.pointer (some ⟨cb, 0, none⟩)] w (DrawnI B cb w 9) := by
  have hS0 := Side.start hc
  have H1 := hide (below_any B cb 4 (by omega) _ hc)
  clear hc
  go_enter Try.func69, Try.ntmps69
  go_wp2_with fail
  refine (unhide H1).mono ?_
  rintro e w1 ⟨v, rfl, ⟨x, rfl, hx0, hx1⟩, hc1, hg1⟩
  rw [if_pos (by omega)] at hx1
  obtain ⟨m, rfl⟩ : ∃ m : Nat, x = m := ⟨x.toNat, by omega⟩
  have hm : m ≤ 9 := by omega
  have hS1 := hS0.drawn hc1 hg1
  have H2 := hide (l2draw_any B cb m (by omega) w1 hc1)
  clear H1 hS0 hc1 hg1 hx0 hx1
  go_wp2_with fail
  refine (unhide H2).mono ?_
  rintro e w2 ⟨A2, c2, zs, rfl, hl, hown, hc2, hg2⟩
  have hS2 := hS1.drawn hc2 hg2
  have hI2 := (Ints.of_own hown).low hS1.size
  have hL2 : Hid (Lite 9 zs) := hide (hl.more hm)
  clear H2 hS1 hl hown hc2 hg2
  go_wp2
  go_loopw [3, 4, 5, 6] (fun v i _ _ wr => ∃ (k : Nat) (p : List Int), k ≤ 3 ∧ i = .int .i64 k ∧ Ints wr w.heap.size v p ∧ Hid (Lite 9 p) ∧ Side B cb w wr) (fun _ i _ _ _ => 3 - (intOf i).toNat)
  case atStart => exact ⟨0, zs, by omega, rfl, hI2, hL2, hS2⟩
  case round =>
    obtain ⟨k, p, hk, rfl, hI, hL, hS⟩ := hrel
    clear hI2 hS2 hL2
    obtain ⟨A3, c3, rfl⟩ := hI.slice
    by_cases hlt : k < 3
    · have H3 := hide (below_any B cb 3 (by omega) wr hS.cur)
      have hlt' : (k : Int) < 3 := by omega
      go_wp2_with fail
      refine (unhide H3).mono ?_
      rintro e w3 ⟨v, rfl, ⟨y, rfl, hy0, hy1⟩, hc3, hg3⟩
      rw [if_pos (by omega)] at hy1
      obtain ⟨n, rfl⟩ : ∃ n : Nat, y = n := ⟨y.toNat, by omega⟩
      have hn : n ≤ 9 := by omega
      have hS3 := hS.drawn hc3 hg3
      have hI3 := hI.drawn hg3 hS.lt
      have H4 := hide (l2draw_any B cb n (by omega) w3 hc3)
      clear H3 hS hI hc3 hg3 hy0 hy1
      go_wp2_with fail
      refine (unhide H4).mono ?_
      rintro e w4 ⟨A4, c4, q, rfl, hl, hown, hc4, hg4⟩
      have hq := Ints.of_own hown
      have haw := away_since hI3 hq.since
      have hS4 := hS3.drawn hc4 hg4
      have hI4 := hI3.drawn hg4 hS3.lt
      have hT := IntsS.two hI4 (hq.low hS3.size) haw hS4.size
      have hLL : Hid (∀ z ∈ [p, q], z.length ≤ 1048576 ∧ Small z) := hide (fun z hz => by
        rcases List.mem_cons.1 hz with rfl | hz
        · exact ⟨Nat.le_trans (unhide hL).1 (by omega), (unhide hL).2⟩
        · rw [List.mem_singleton] at hz
          subst hz
          exact ⟨Nat.le_trans hl.1 (by omega), hl.2⟩)
      have hal := (Below.refl w4.heap.size w4).alloc (Nat.le_refl _) (.cells #[.slice A3 p.length c3, .slice A4 q.length c4] 22)
      have hS5 := hS4.below hal
      have hI5 := hI4.below hal
      have H5 := hide (once_any B cb 2 (by omega) _ hS5.cur)
      clear H4 hl hown hq haw hS3 hI3 hc4 hg4 hS4 hI4 hal
      go_wp2_with fail
      refine (unhide H5).mono ?_
      rintro e w6 ⟨v, rfl, ⟨b, rfl⟩, hc6, hg6⟩
      have hT6 := hT.drawn hg6 hS5.lt
      have hS6 := hS5.drawn hc6 hg6
      have hI6 := hI5.drawn hg6 hS5.lt
      have H6 := hide (sjoins_any _ 2 2 _ b [p, q] w6 hT6 (by omega) (unhide hLL))
      clear H5 hT hS5 hI5 hc6 hg6 hT6
      obtain ⟨f, hf⟩ : ∃ f, allFit [p, q] = f := ⟨_, rfl⟩
      rw [hf] at H6
      go_wp2_with fail
      refine (unhide H6).mono ?_
      rintro e w7 ⟨A7, c7, rfl, own7, hb7⟩
      have hS7 := hS6.below hb7
      have hI7 := hI6.below hb7
      have own8 := own7.low hS6.size
      have hL8 : Hid (Lite 9 (joinsR b [p, q])) := hide (joinsR_lite b _)
      clear H6 hS6 hI6 own7 hb7 hf
      cases f with
      | true =>
        go_wp2
        go_roundw
        case rel => exact ⟨k + 1, _, by omega, by go_num, own8, hL8, hS7⟩
        case measure => simp [intOf]; omega
      | false =>
        go_wp2
        go_roundw
        case rel => exact ⟨k + 1, p, by omega, by go_num, hI7, hL, hS7⟩
        case measure => simp [intOf]; omega
    · obtain rfl : k = 3 := by omega
      have HS := hide hS
      clear hS
      go_wp2
      go_ret
      exact DrawnI.mk hI (unhide hL) (unhide HS)

theorem l4bent_any (B cb : Nat) (w : World) (hc : Cur w B cb) : Calls Try.prog 54 #[.pointer (some ⟨cb, 0, none⟩)] w (DrawnI B cb w 9) := by
  have hS0 := Side.start hc
  have H1 := hide (once_any B cb 3 (by omega) _ hc)
  clear hc
  go_enter Try.func54, Try.ntmps54
  go_wp2_with fail
  refine (unhide H1).mono ?_
  rintro e w1 ⟨v, rfl, ⟨b, rfl⟩, hc1, hg1⟩
  have hS1 := hS0.drawn hc1 hg1
  have H2 := hide (l2bent_any B cb w1 hc1)
  have H3 := hide (l4summed_any B cb w1 hc1)
  clear H1 hS0 hc1 hg1
  cases b with
  | true =>
    clear H3
    go_wp2_with fail
    refine (unhide H2).mono ?_
    rintro e w2 ⟨A2, c2, zs, rfl, hl, hI, hc2, hg2⟩
    have hI2 := hI.low hS1.size
    have HS := hide (hS1.drawn hc2 hg2)
    have HL := hide hl
    clear H2 hS1 hl hI hc2 hg2
    go_wp2
    go_ret
    exact DrawnI.mk hI2 (unhide HL) (unhide HS)
  | false =>
    clear H2
    go_wp2_with fail
    refine (unhide H3).mono ?_
    rintro e w2 ⟨A2, c2, zs, rfl, hl, hI, hc2, hg2⟩
    have hI2 := hI.low hS1.size
    have HS := hide (hS1.drawn hc2 hg2)
    have HL := hide hl
    clear H3 hS1 hl hI hc2 hg2
    go_wp2
    go_ret
    exact DrawnI.mk hI2 (unhide HL) (unhide HS)

/-- What stood before the cursor was made is as it was. -/
theorem Side.under {B cb : Nat} {w w1 w2 : World} (h : Side B cb w1 w2) (hb : Below w.heap.size w w1) (hc : w.heap.size ≤ cb) : Below w.heap.size w w2 :=
  hb.grown h.gr hb.size (fun k hk => by injection hk with hk; omega)
/-- A row that was drawn from the bytes. -/
def DrewI (w : World) (L : Nat) (e : Ending) (w' : World) : Prop := ∃ A c zs, e = .returned (.slice A zs.length c) ∧ Lite L zs ∧ Ints w' w.heap.size (.slice A zs.length c) zs ∧ Below w.heap.size w w'
def DrewII (w : World) (L : Nat) (e : Ending) (w' : World) : Prop :=
  ∃ A c p A' c' q, e = .returned (.tuple #[.slice A p.length c, .slice A' q.length c']) ∧ Lite L p ∧ Lite L q ∧ Ints w' w.heap.size (.slice A p.length c) p ∧ Ints w' w.heap.size (.slice A' q.length c') q ∧ Below w.heap.size w w'
def DrewSB (w : World) (e : Ending) (w' : World) : Prop :=
  ∃ A c zss b, e = .returned (.tuple #[.slice A zss.length c, .bool b]) ∧ zss.length ≤ 4 ∧ (∀ z ∈ zss, Lite 9 z) ∧ IntsS w' w.heap.size (.slice A zss.length c) zss ∧ Below w.heap.size w w'
theorem DrewI.mk {L : Nat} {w w' : World} {v : Value} {zs : List Int} (hI : Ints w' w.heap.size v zs) (hl : Lite L zs) (h : Below w.heap.size w w') : DrewI w L (.returned v) w' := by
  obtain ⟨A, c, rfl⟩ := hI.slice
  exact ⟨A, c, zs, rfl, hl, hI, h⟩
theorem DrewII.mk {L : Nat} {w w' : World} {v v' : Value} {p q : List Int} (hp : Ints w' w.heap.size v p) (hq : Ints w' w.heap.size v' q) (hl : Lite L p) (hl' : Lite L q) (h : Below w.heap.size w w') : DrewII w L (.returned (.tuple #[v, v'])) w' := by
  obtain ⟨A, c, rfl⟩ := hp.slice
  obtain ⟨A', c', rfl⟩ := hq.slice
  exact ⟨A, c, p, A', c', q, rfl, hl, hl', hp, hq, h⟩

theorem dparts_any (A : Option Addr) (n c B : Nat) (bs : List UInt8) (w : World) (hr : Reads w B A n (u8s bs)) (hn : n ≤ 1048576) (hB : B ≤ w.heap.size) :
    Calls Try.prog 32 #[.slice A n c] w (DrewI w 9) := by
  have H1 := hide (new_any A n c B bs w hr hn hB)
  clear hr
  go_enter Try.func32, Try.ntmps32
  go_wp2_with fail
  refine (unhide H1).mono ?_
  rintro e w1 ⟨cb, rfl, hcb, hc1, hb1⟩
  have hS0 := Side.start hc1
  have H2 := hide (l4bent_any B cb w1 hc1)
  clear H1 hc1
  go_wp2_with fail
  refine (unhide H2).mono ?_
  rintro e w2 ⟨A2, c2, zs, rfl, hl, hI, hc2, hg2⟩
  have hb2 := (hS0.drawn hc2 hg2).under hb1 hcb
  have hI2 := hI.low hb1.size
  have HL := hide hl
  clear H2 hS0 hl hI hc2 hg2
  go_wp2
  go_ret
  exact DrewI.mk hI2 (unhide HL) hb2

set_option maxHeartbeats 800000 in
theorem l4two_any (A : Option Addr) (n c B : Nat) (bs : List UInt8) (w : World) (hr : Reads w B A n (u8s bs)) (hn : n ≤ 1048576) (hB : B ≤ w.heap.size) :
    Calls Try.prog 56 #[.slice A n c] w (DrewII w 9) := by
  have H1 := hide (new_any A n c B bs w hr hn hB)
  clear hr
  go_enter Try.func56, Try.ntmps56
  go_wp2_with fail
  refine (unhide H1).mono ?_
  rintro e w1 ⟨cb, rfl, hcb, hc1, hb1⟩
  have hS1 := Side.start hc1
  have H2 := hide (below_any B cb 6 (by omega) w1 hc1)
  have hsz1 := hb1.size
  clear H1 hc1
  go_wp2_with fail
  refine (unhide H2).mono ?_
  rintro e w2 ⟨v, rfl, ⟨y, rfl, hy0, hy1⟩, hc2, hg2⟩
  rw [if_pos (by omega)] at hy1
  obtain ⟨m, rfl⟩ : ∃ m : Nat, y = m := ⟨y.toNat, by omega⟩
  have hm : m ≤ 9 := by omega
  have hS2 := hS1.drawn hc2 hg2
  have H3 := hide (l2draw_any B cb m (by omega) w2 hc2)
  clear H2 hS1 hc2 hg2 hy0 hy1
  go_wp2_with fail
  refine (unhide H3).mono ?_
  rintro e w3 ⟨A3, c3, p, rfl, hl, hown, hc3, hg3⟩
  have hS3 := hS2.drawn hc3 hg3
  have hp3 := (Ints.of_own hown).low hS2.size
  have HP := hide (hl.more hm)
  have H4 := hide (once_any B cb 12 (by omega) w3 hc3)
  clear H3 hS2 hown hl hc3 hg3
  go_wp2_with fail
  refine (unhide H4).mono ?_
  rintro e w4 ⟨v, rfl, ⟨b, rfl⟩, hc4, hg4⟩
  have hS4 := hS3.drawn hc4 hg4
  have hp4 := hp3.drawn hg4 hS3.lt
  have H5 := hide (l2bent_any B cb w4 hc4)
  have H6 := hide (below_any B cb 5 (by omega) w4 hc4)
  clear H4 hS3 hp3 hc4 hg4
  cases b with
  | true =>
    clear H6
    go_wp2_with fail
    refine (unhide H5).mono ?_
    rintro e w5 ⟨A5, c5, q, rfl, hl, hI, hc5, hg5⟩
    have hb5 := (hS4.drawn hc5 hg5).under hb1 hcb
    have hp5 := (hp4.drawn hg5 hS4.lt).low hsz1
    have hq5 := (hI.low hS4.size).low hsz1
    have HQ := hide hl
    clear H5 hS4 hp4 hl hI hc5 hg5
    go_wp2
    go_ret2
    exact DrewII.mk hp5 hq5 (unhide HP) (unhide HQ) hb5
  | false =>
    clear H5
    go_wp2_with fail
    refine (unhide H6).mono ?_
    rintro e w5 ⟨v, rfl, ⟨y, rfl, hy0, hy1⟩, hc5, hg5⟩
    rw [if_pos (by omega)] at hy1
    obtain ⟨m2, rfl⟩ : ∃ m : Nat, y = m := ⟨y.toNat, by omega⟩
    have hm2 : m2 ≤ 9 := by omega
    have hS5 := hS4.drawn hc5 hg5
    have hp5 := hp4.drawn hg5 hS4.lt
    have H7 := hide (l2draw_any B cb m2 (by omega) w5 hc5)
    clear H6 hS4 hp4 hc5 hg5 hy0 hy1
    go_wp2_with fail
    refine (unhide H7).mono ?_
    rintro e w6 ⟨A6, c6, q, rfl, hl, hown, hc6, hg6⟩
    have hb6 := (hS5.drawn hc6 hg6).under hb1 hcb
    have hp6 := (hp5.drawn hg6 hS5.lt).low hsz1
    have hq6 := ((Ints.of_own hown).low hS5.size).low hsz1
    have HQ := hide (hl.more hm2)
    clear H7 hS5 hp5 hl hown hc6 hg6
    go_wp2
    go_ret2
    exact DrewII.mk hp6 hq6 (unhide HP) (unhide HQ) hb6

theorem dsum_any (A : Option Addr) (n c B : Nat) (bs : List UInt8) (w : World) (hr : Reads w B A n (u8s bs)) (hn : n ≤ 1048576) (hB : B ≤ w.heap.size) :
    Calls Try.prog 33 #[.slice A n c] w (DrewII w 9) := by
  have H1 := hide (l4two_any A n c B bs w hr hn hB)
  clear hr
  go_enter Try.func33, Try.ntmps33
  go_wp2_with fail
  refine (unhide H1).mono ?_
  rintro e w1 ⟨A1, c1, p, A2, c2, q, rfl, hl, hl', hp, hq, hb⟩
  have HL := hide hl
  have HL' := hide hl'
  clear H1 hl hl'
  go_wp2
  go_ret2
  exact DrewII.mk hp hq (unhide HL) (unhide HL') hb

theorem djoin_any (A : Option Addr) (n c B : Nat) (bs : List UInt8) (w : World) (hr : Reads w B A n (u8s bs)) (hn : n ≤ 1048576) (hB : B ≤ w.heap.size) :
    Calls Try.prog 34 #[.slice A n c] w (DrewSB w) := by
  have H1 := hide (new_any A n c B bs w hr hn hB)
  clear hr
  go_enter Try.func34, Try.ntmps34
  go_wp2_with fail
  refine (unhide H1).mono ?_
  rintro e w1 ⟨cb, rfl, hcb, hc1, hb1⟩
  have hS1 := Side.start hc1
  have H2 := hide (l3list_any B cb w1 hc1)
  clear H1 hc1
  go_wp2_with fail
  refine (unhide H2).mono ?_
  rintro e w2 ⟨A2, c2, zss, rfl, hn4, hl, hI, hc2, hg2⟩
  have hS2 := hS1.drawn hc2 hg2
  have H3 := hide (once_any B cb 2 (by omega) w2 hc2)
  have HL := hide hl
  have hlt := hS1.lt
  have hsz := hb1.size
  clear H2 hS1 hl hc2 hg2
  go_wp2_with fail
  refine (unhide H3).mono ?_
  rintro e w3 ⟨v, rfl, ⟨b, rfl⟩, hc3, hg3⟩
  have hb3 := (hS2.drawn hc3 hg3).under hb1 hcb
  have hI3 := (hI.drawn hg3 hlt).low hsz
  clear H3 hS2 hI hc3 hg3
  go_wp2
  go_ret2
  exact ⟨A2, c2, zss, b, rfl, hn4, unhide HL, hI3, hb3⟩

set_option maxHeartbeats 1600000 in
theorem dlayer_any (A : Option Addr) (n c B : Nat) (bs : List UInt8) (w : World) (hr : Reads w B A n (u8s bs)) (hn : n ≤ 1048576) (hB : B ≤ w.heap.size) :
    Calls Try.prog 35 #[.slice A n c] w (DrewI w 9) := by
  have H1 := hide (new_any A n c B bs w hr hn hB)
  clear hr
  go_enter Try.func35, Try.ntmps35
  go_wp2_with fail
  refine (unhide H1).mono ?_
  rintro e w1 ⟨cb, rfl, hcb, hc1, hb1⟩
  have hS1 := Side.start hc1
  have H2 := hide (once_any B cb 2 (by omega) w1 hc1)
  have hsz1 := hb1.size
  clear H1 hc1
  go_wp2_with fail
  refine (unhide H2).mono ?_
  rintro e w2 ⟨v, rfl, ⟨b, rfl⟩, hc2, hg2⟩
  have hS2 := hS1.drawn hc2 hg2
  clear H2 hS1 hg2
  cases b with
  | false =>
    have H3 := hide (l2bent_any B cb w2 hc2)
    clear hc2
    go_wp2_with fail
    refine (unhide H3).mono ?_
    rintro e w3 ⟨A3, c3, zs, rfl, hl, hI, hc3, hg3⟩
    have hb3 := (hS2.drawn hc3 hg3).under hb1 hcb
    have hI3 := (hI.low hS2.size).low hsz1
    have HL := hide hl
    clear H3 hS2 hl hI hc3 hg3
    go_wp2
    go_ret
    exact DrewI.mk hI3 (unhide HL) hb3
  | true =>
    have hI0 := IntsS.made0 w2 w1.heap.size hS2.size
    have hS3 := hS2.below ((Below.refl w2.heap.size w2).alloc (Nat.le_refl _) (.cells #[] 22))
    clear hS2 hc2
    go_wp2
    go_loopw [4, 5] (fun v i wr => ∃ (k : Nat) (zss : List (List Int)), k ≤ 3 ∧ i = .int .i64 k ∧ zss.length = k ∧ IntsS wr w1.heap.size v zss ∧ Hid (∀ z ∈ zss, isP z = true) ∧ Side B cb w1 wr) (fun _ i _ => 3 - (intOf i).toNat)
    case atStart => exact ⟨0, [], by omega, rfl, rfl, hI0, fun z hz => by simp at hz, hS3⟩
    case round =>
      obtain ⟨k, zss, hk, rfl, hzl, hI, hL, hS⟩ := hrel
      clear hI0 hS3
      obtain ⟨A4, c4, rfl⟩ := hI.slice
      by_cases hlt : k < 3
      · have H3 := hide (below_any B cb 3 (by omega) wr hS.cur)
        have hlt' : (k : Int) < 3 := by omega
        have HZL := hide hzl
        clear hzl
        go_wp2_with fail
        refine (unhide H3).mono ?_
        rintro e w3 ⟨v, rfl, ⟨y, rfl, hy0, hy1⟩, hc3, hg3⟩
        rw [if_pos (by omega)] at hy1
        obtain ⟨m, rfl⟩ : ∃ m : Nat, y = m := ⟨y.toNat, by omega⟩
        have hm : m ≤ 8 := by omega
        have hS4 := hS.drawn hc3 hg3
        have hI3 := hI.drawn hg3 hS.lt
        have H4 := hide (sid_any (m : Int) (by omega) w3)
        rw [idR_nat' hm] at H4
        clear H3 hS hI hc3 hg3 hy0 hy1
        go_wp2_with fail
        refine (unhide H4).mono ?_
        rintro e w5 ⟨A5, c5, rfl, own5, hb5⟩
        have hP := isP_upTo' hm
        have H5 := hide (l3rev_any A5 _ c5 _ _ w5 (own5.argP hP))
        have hS5 := hS4.below hb5
        have hI5 := hI3.below hb5
        clear H4 hS4 hI3 own5 hb5
        go_wp2_with fail
        refine (unhide H5).mono ?_
        rintro e w6 ⟨A6, c6, rfl, own6, hb6⟩
        rw [List.length_reverse, upTo_length] at own6 ⊢
        have hF : Fresh w6 w1.heap.size (.slice A4 zss.length c4) zss (.slice A6 m c6) := by
          obtain ⟨vs, h1, h2⟩ := hI5
          exact ⟨vs, own_below h1 hb6, h2.keepI (KeepI.of_below hb6), h2.away_new own6.since (Nat.le_refl _)⟩
        have hS6 := hS5.below hb6
        have hu6 := own6.low hS5.size
        have hlen : zss.length ≤ 1048576 := by have := unhide HZL; omega
        have hL2 := hide (show ∀ z ∈ zss ++ [(upTo m).reverse], isP z = true from fun z hz => by
          rcases List.mem_append.1 hz with hz | hz
          · exact unhide hL z hz
          · rw [List.mem_singleton] at hz; subst hz; exact isP_rev hP)
        have hsz := hS6.size
        clear H5 hI5 hS5 own6 hb6 hP hL
        go_wp2_with (first
          | (at_builtin; refine wpList_push_fresh rfl (.tmp 17) (.tmp 22) rfl w1.heap.size w6 _ _ zss _ rfl rfl rfl hF hu6 hlen hsz ?_))
        intro v7 w7 hI7 hb7
        have hS7 := hS6.low hb7
        have hlen7 : (zss ++ [(upTo m).reverse]).length = k + 1 := by rw [List.length_append, unhide HZL]; rfl
        clear hF hu6 hS6 hb7
        go_wp2
        go_roundw
        case rel => exact ⟨k + 1, _, by omega, by go_num, hlen7, hI7, hL2, hS7⟩
        case measure => simp [intOf]; omega
      · obtain rfl : k = 3 := by omega
        have H6 := hide (sjoins_any _ zss.length c4 _ false zss wr hI (by omega) (fun z hz => ⟨by have := isP_le (unhide hL z hz); omega, isP_small (unhide hL z hz)⟩))
        have HZL := hide hzl
        clear hI hzl
        go_wp2_with fail
        refine (unhide H6).mono ?_
        rintro e w7 ⟨A7, c7, rfl, own7, hb7⟩
        have hb8 := (hS.below hb7).under hb1 hcb
        have own8 := (own7.low hS.size).low hsz1
        have HL := hide (joinsR_lite false zss)
        clear H6 hS own7 hb7
        go_wp2
        go_ret
        exact DrewI.mk own8 (unhide HL) hb8
end Go.Proofs.Ytjfdjjigamlhfaa
