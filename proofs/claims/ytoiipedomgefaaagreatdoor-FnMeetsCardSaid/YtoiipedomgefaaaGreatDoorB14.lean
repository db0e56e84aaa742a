/-
  Words and contracts that the laws lean on, bundled: ClassT, DrawC, DrawE, MeetV, DrawG, MeetJ, Sames, Big.
-/
import Derived.Test.YtoiipedomgefaaaGreatDoorB5
import Derived.Test.YtoiipedomgefaaaGreatDoorB11
import Derived.Test.YtoiipedomgefaaaGreatDoorB13
import Derived.Test.YtoiipedomgefaaaGreatDoorB10
import Derived.Test.YtoiipedomgefaaaGreatDoorB7
import Derived.Test.YtoiipedomgefaaaGreatDoorB4
import Derived.Test.YtoiipedomgefaaaGreatDoorB8
import Derived.Test.YtoiipedomgefaaaGreatDoorB3
import Derived.Test.YtoiipedomgefaaaGreatDoorProg
import Derived.Test.YtoiipedomgefaaaGreatDoorB2

/-
  spec.BasisText by its contract.
-/

namespace Go.Proofs.YtoiipedomgefaaaGreatDoor
set_option maxRecDepth 100000
open Go.RowKit

theorem strInfoC : (Tryz.prog.info? 9).map (fun i => (i.zero, i.size, i.bytes)) = some (some (.string ByteArray.empty), 1, 16) := by kernel_rfl
theorem jn_small {ss : List ByteArray} (h : ∀ s ∈ ss, s.size ≤ 8) : ∀ k, k ≤ ss.length → (jn ⟨#[32]⟩ ss k).length ≤ 9 * k
  | 0, _ => by simp [jn]
  | k + 1, hk => by
    have ih := jn_small h k (by omega)
    have hs : ss[k]? = some ss[k] := List.getElem?_eq_getElem (by omega)
    have h1 := h _ (List.mem_of_getElem? hs)
    rw [jn_length _ _ _ _ hs, List.length_append, List.length_append, size_list]
    have h2 : (if 0 < k then (⟨#[32]⟩ : ByteArray).data.toList else []).length ≤ 1 := by split <;> simp
    omega
theorem ptext_le (p : List Int) : (ptext p).size ≤ 8 := by
  cases h : isP p with
  | false => rw [ptext_no h]; simp
  | true =>
    by_cases h0 : p.length = 0
    · rw [ptext_nil h h0]; decide
    · rw [ptext_yes h h0]
      have := isP_le h
      show (textL p).toArray.size ≤ 8
      rw [List.size_toArray]
      have h1 : (textL p).length = p.length := by unfold textL; simp
      omega
def btext (L : List (List Int)) : ByteArray := if basis L then ⟨(jn ⟨#[32]⟩ (L.map ptext) L.length).toArray⟩ else ByteArray.empty
theorem btext_yes {L : List (List Int)} (h : basis L = true) : btext L = ⟨(jn ⟨#[32]⟩ (L.map ptext) L.length).toArray⟩ := by unfold btext; rw [if_pos h]
theorem btext_no {L : List (List Int)} (h : basis L = false) : btext L = ByteArray.empty := by unfold btext; rw [if_neg (by simp [h])]
theorem basis_nil : basis [] = true := by decide
end Go.Proofs.YtoiipedomgefaaaGreatDoor


/-
  DRAWS OF CHAPTER 12 (given side), by their contracts.
-/

namespace Go.Proofs.YtoiipedomgefaaaGreatDoor
set_option maxRecDepth 100000
open Go.RowKit

theorem lite_P {p : List Int} (h : isP p = true) : Lite 9 p := ⟨by have := isP_le h; omega, isP_small h⟩
theorem lite_rows {L : List (List Int)} (h : ∀ z ∈ L, Lite 9 z) : ∀ z ∈ L, z.length ≤ 1048576 ∧ Small z := fun z hz => ⟨Nat.le_trans (h z hz).1 (by omega), (h z hz).2⟩
/-- A list of rows that was drawn. -/
def DrawnSN (B cb : Nat) (w : World) (L : Nat) (e : Ending) (w' : World) : Prop :=
  ∃ A c zss, e = .returned (.slice A zss.length c) ∧ zss.length ≤ L ∧ (∀ z ∈ zss, Lite 9 z) ∧ IntsS w' w.heap.size (.slice A zss.length c) zss ∧ Cur w' B cb ∧ w.grownBy w' (some cb)
theorem DrawnSN.mk {B cb L : Nat} {w w' : World} {v : Value} {zss : List (List Int)} (hI : IntsS w' w.heap.size v zss) (hn : zss.length ≤ L) (hl : ∀ z ∈ zss, Lite 9 z) (h : Side B cb w w') : DrawnSN B cb w L (.returned v) w' := by
  obtain ⟨A, c, rfl⟩ := hI.slice
  exact ⟨A, c, zss, rfl, hn, hl, hI, h.cur, h.gr⟩
def DrewSS (w : World) (L : Nat) (e : Ending) (w' : World) : Prop :=
  ∃ A c zss, e = .returned (.slice A zss.length c) ∧ zss.length ≤ L ∧ (∀ z ∈ zss, Lite 9 z) ∧ IntsS w' w.heap.size (.slice A zss.length c) zss ∧ Below w.heap.size w w'
theorem DrewSS.mk {L : Nat} {w w' : World} {v : Value} {zss : List (List Int)} (hI : IntsS w' w.heap.size v zss) (hn : zss.length ≤ L) (hl : ∀ z ∈ zss, Lite 9 z) (h : Below w.heap.size w w') : DrewSS w L (.returned v) w' := by
  obtain ⟨A, c, rfl⟩ := hI.slice
  exact ⟨A, c, zss, rfl, hn, hl, hI, h⟩
/-- A list of rows and a number. -/
def DrewSI (w : World) (L : Nat) (e : Ending) (w' : World) : Prop :=
  ∃ A c zss x, e = .returned (.tuple #[.slice A zss.length c, .int .i64 x]) ∧ zss.length ≤ L ∧ (∀ z ∈ zss, Lite 9 z) ∧ -2 ≤ x ∧ x ≤ 9 ∧ IntsS w' w.heap.size (.slice A zss.length c) zss ∧ Below w.heap.size w w'
theorem DrewSI.mk {L : Nat} {w w' : World} {v : Value} {zss : List (List Int)} {x : Int} (hI : IntsS w' w.heap.size v zss) (hn : zss.length ≤ L) (hl : ∀ z ∈ zss, Lite 9 z) (h0 : -2 ≤ x) (h1 : x ≤ 9) (h : Below w.heap.size w w') : DrewSI w L (.returned (.tuple #[v, .int .i64 x])) w' := by
  obtain ⟨A, c, rfl⟩ := hI.slice
  exact ⟨A, c, zss, x, rfl, hn, hl, h0, h1, hI, h⟩
/-- A list of rows and a row. -/
def DrewSR (w : World) (L : Nat) (e : Ending) (w' : World) : Prop :=
  ∃ A c zss A' c' q, e = .returned (.tuple #[.slice A zss.length c, .slice A' q.length c']) ∧ zss.length ≤ L ∧ (∀ z ∈ zss, Lite 9 z) ∧ Lite 9 q ∧ IntsS w' w.heap.size (.slice A zss.length c) zss ∧ Ints w' w.heap.size (.slice A' q.length c') q ∧ Below w.heap.size w w'
theorem DrewSR.mk {L : Nat} {w w' : World} {v u : Value} {zss : List (List Int)} {q : List Int} (hI : IntsS w' w.heap.size v zss) (hJ : Ints w' w.heap.size u q) (hn : zss.length ≤ L) (hl : ∀ z ∈ zss, Lite 9 z) (hq : Lite 9 q) (h : Below w.heap.size w w') : DrewSR w L (.returned (.tuple #[v, u])) w' := by
  obtain ⟨A, c, rfl⟩ := hI.slice
  obtain ⟨A', c', rfl⟩ := hJ.slice
  exact ⟨A, c, zss, A', c', q, rfl, hn, hl, hq, hI, hJ, h⟩
theorem btext_le (L : List (List Int)) : (btext L).size ≤ 72 := by
  cases h : basis L with
  | false => rw [btext_no h]; decide
  | true =>
    rw [btext_yes h]
    have h8 := basis_le h
    have h1 := jn_small (ss := L.map ptext) (fun s hs => by obtain ⟨z, _, rfl⟩ := List.mem_map.1 hs; exact ptext_le z) L.length (by rw [List.length_map]; exact Nat.le_refl _)
    show (jn ⟨#[32]⟩ (L.map ptext) L.length).toArray.size ≤ 72
    rw [List.size_toArray]
    omega
set_option maxHeartbeats 1600000 in
theorem l12draw_any (B cb : Nat) (w : World) (hc : Cur w B cb) : Calls Tryz.prog 81 #[.pointer (some ⟨cb, 0, none⟩)] w (DrawnSN B cb w 8) := by
  have hI0 := IntsS.made0 w w.heap.size (Nat.le_refl _)
  have hb1 := (Below.refl w.heap.size w).alloc (Nat.le_refl _) (.cells #[] 36)
  have hal := (Below.refl (w.alloc (.cells #[] 36)).heap.size (w.alloc (.cells #[] 36))).alloc (Nat.le_refl _) (.cells ([0, 1, 1, 2, 2, 3].map (Value.int .i64)).toArray 3)
  have hI1 := hI0.below hal
  have hS1 := ((Side.start hc).below hb1).below hal
  have hne : (w.alloc (.cells #[] 36)).heap.size ≠ cb := by have := hc.lt; simp; omega
  have H1 := hide (pickInt_any B cb (w.alloc (.cells #[] 36)).heap.size 6 6 [0, 1, 1, 2, 2, 3] _ hS1.cur (Blk.new (w.alloc (.cells #[] 36)) _ _) hne rfl (by omega) (by omega))
  clear hal hc hb1 hI0
  simp only [List.map_cons, List.map_nil, World.size_alloc] at hS1 hI1 H1
  go_enter Tryz.func81, Tryz.ntmps81
  go_wp2_with fail
  refine (unhide H1).mono ?_
  rintro e w1 ⟨v, rfl, ⟨x, hx, rfl⟩, hc1, hg1⟩
  have hx3 : 0 ≤ x ∧ x ≤ 3 := by
    simp only [List.mem_cons, List.not_mem_nil, or_false] at hx
    omega
  obtain ⟨n, rfl⟩ : ∃ n : Nat, x = n := ⟨x.toNat, by omega⟩
  have hn3 : n ≤ 3 := by omega
  have hS2 := hS1.drawn hc1 hg1
  have hI2 := hI1.drawn hg1 hS1.lt
  clear H1 hS1 hI1 hc1 hg1 hx hx3 hne
  go_wp2
  go_loopw [3, 5] (fun v i wr => ∃ (k : Nat) (zss : List (List Int)), k ≤ n ∧ i = .int .i64 k ∧ zss.length = k ∧ IntsS wr w.heap.size v zss ∧ Hid (∀ z ∈ zss, Lite 9 z) ∧ Side B cb w wr) (fun _ i _ => n - (intOf i).toNat)
  case atStart => exact ⟨0, [], Nat.zero_le _, rfl, rfl, hI2, fun z hz => by simp at hz, hS2⟩
  case round =>
    obtain ⟨k, zss, hk, rfl, hzl, hI, hL, hS⟩ := hrel
    clear hI2 hS2
    by_cases hlt : k < n
    · have hal := (Below.refl wr.heap.size wr).alloc (Nat.le_refl _) (.cells ([2, 3, 3, 3, 4].map (Value.int .i64)).toArray 3)
      have hSa := hS.below hal
      have hIa := hI.below hal
      have hne : wr.heap.size ≠ cb := by have := hS.cur.lt; omega
      have H2 := hide (pickInt_any B cb wr.heap.size 5 5 [2, 3, 3, 3, 4] _ hSa.cur (Blk.new wr _ _) hne rfl (by omega) (by omega))
      have HZL := hide hzl
      clear hzl hal hI hS
      simp only [List.map_cons, List.map_nil] at hSa hIa H2
      go_wp2_with fail
      refine (unhide H2).mono ?_
      rintro e w2 ⟨v, rfl, ⟨y, hy, rfl⟩, hc2, hg2⟩
      have hy4 : 0 ≤ y ∧ y ≤ 4 := by
        simp only [List.mem_cons, List.not_mem_nil, or_false] at hy
        omega
      obtain ⟨m, rfl⟩ : ∃ m : Nat, y = m := ⟨y.toNat, by omega⟩
      have hS2 := hSa.drawn hc2 hg2
      have hI2 := hIa.drawn hg2 hSa.lt
      have H3 := hide (l2draw_any B cb m (by omega) w2 hc2)
      have hm4 : m ≤ 4 := by omega
      clear H2 hSa hIa hc2 hg2 hy hy4 hne
      go_wp2_with fail
      refine (unhide H3).mono ?_
      rintro e w3 ⟨A3, c3, zs, rfl, hl, hown, hc3, hg3⟩
      have hu := Ints.of_own hown
      have hF := hI2.fresh hg3 hS2.lt hu
      have hS3 := hS2.drawn hc3 hg3
      have hu3 := hu.low hS2.size
      have hlen : zss.length ≤ 1048576 := by have := unhide HZL; omega
      have hL2 := hide (show ∀ z ∈ zss ++ [zs], Lite 9 z from fun z hz => by
        rcases List.mem_append.1 hz with hz | hz
        · exact unhide hL z hz
        · rw [List.mem_singleton] at hz; subst hz; exact hl.more (by omega))
      have hsz := hS3.size
      clear H3 hl hown hu hI2 hS2 hc3 hg3 hL
      go_wp2_with (first
        | (at_builtin; refine wpList_push_fresh rfl (.tmp 17) (.tmp 23) rfl w.heap.size w3 _ _ zss zs rfl rfl rfl hF hu3 hlen hsz ?_))
      intro v4 w4 hI4 hb4
      have hS4 := hS3.low hb4
      have hlen4 : (zss ++ [zs]).length = k + 1 := by rw [List.length_append, unhide HZL]; rfl
      clear hF hu3 hS3 hb4
      go_wp2
      go_roundw
      case rel => exact ⟨k + 1, zss ++ [zs], by omega, by go_num, hlen4, hI4, hL2, hS4⟩
      case measure => simp [intOf]; omega
    · obtain rfl : n = k := by omega
      subst hzl
      obtain ⟨A3, c3, rfl⟩ := hI.slice
      have H4 := hide (smkb_any A3 zss.length c3 _ zss wr hI (by omega) (lite_rows (unhide hL)))
      have hR := hide (mkR_rows zss)
      clear hI hL
      go_wp2_with fail
      refine (unhide H4).mono ?_
      rintro e w5 ⟨A5, c5, rfl, o5, d5⟩
      have hI5 := hide (o5.low hS.size)
      have HS := hide (hS.below d5)
      clear H4 o5 hS d5
      go_wp2
      go_ret
      exact DrawnSN.mk (unhide hI5) (unhide hR).1 (fun z hz => lite_P ((unhide hR).2.2 z hz)) (unhide HS)
set_option maxHeartbeats 1600000 in
theorem l12bent_any (B cb : Nat) (w : World) (hc : Cur w B cb) : Calls Tryz.prog 53 #[.pointer (some ⟨cb, 0, none⟩)] w (DrawnSN B cb w 9) := by
  have hS0 := Side.start hc
  have H1 := hide (l12draw_any B cb w hc)
  clear hc
  go_enter Tryz.func53, Tryz.ntmps53
  go_wp2_with fail
  refine (unhide H1).mono ?_
  rintro e w1 ⟨A1, c1, zss, rfl, hn, hl, hI, hc1, hg1⟩
  have hS1 := hS0.drawn hc1 hg1
  have H2 := hide (once_any B cb 10 (by omega) w1 hc1)
  have HL := hide hl
  have hsz1 := hS1.size
  clear H1 hS0 hc1 hg1 hl
  go_wp2_with fail
  refine (unhide H2).mono ?_
  rintro e w2 ⟨v, rfl, ⟨b, rfl⟩, hc2, hg2⟩
  have hS2 := hS1.drawn hc2 hg2
  have hI2 := hI.drawn hg2 hS1.lt
  clear H2 hS1 hI hg2
  cases b with
  | false =>
    have HS := hide hS2
    clear hS2 hc2
    go_wp2
    go_ret
    exact DrawnSN.mk hI2 (by omega) (unhide HL) (unhide HS)
  | true =>
    have H3 := hide (l2bent_any B cb w2 hc2)
    clear hc2
    go_wp2_with fail
    refine (unhide H3).mono ?_
    rintro e w3 ⟨A3, c3, zs, rfl, hlz, hu, hc3, hg3⟩
    have hF := hI2.fresh hg3 hS2.lt hu
    have hS3 := hS2.drawn hc3 hg3
    have hu3 := hu.low hS2.size
    have hlen : zss.length ≤ 1048576 := by omega
    have hL2 := hide (show ∀ z ∈ zss ++ [zs], Lite 9 z from fun z hz => by
      rcases List.mem_append.1 hz with hz | hz
      · exact unhide HL z hz
      · rw [List.mem_singleton] at hz; subst hz; exact hlz)
    have hsz := hS3.size
    clear H3 hlz hu hI2 hS2 hc3 hg3
    go_wp2_with (first
      | (at_builtin; refine wpList_push_fresh rfl (.tmp 8) (.tmp 11) rfl w.heap.size w3 _ _ zss zs rfl rfl rfl hF hu3 hlen hsz ?_))
    intro v4 w4 hI4 hb4
    have HS := hide (hS3.low hb4)
    have hlen4 := hide (show (zss ++ [zs]).length ≤ 9 by rw [List.length_append]; simp; omega)
    clear hF hu3 hS3 hb4
    go_wp2
    go_ret
    exact DrawnSN.mk hI4 (unhide hlen4) (unhide hL2) (unhide HS)
def parts5 : List ByteArray := [⟨#[32]⟩, ⟨#[49]⟩, ⟨#[50]⟩, ⟨#[51]⟩, ⟨#[45]⟩]
theorem parts5_short : ∀ t ∈ parts5, t.size ≤ 100 := by
  intro t ht
  simp only [parts5, List.mem_cons, List.not_mem_nil, or_false] at ht
  rcases ht with rfl | rfl | rfl | rfl | rfl <;> decide
end Go.Proofs.YtoiipedomgefaaaGreatDoor


/-
  DRAWS OF CHAPTER 13 (given side), by their contracts.
-/

namespace Go.Proofs.YtoiipedomgefaaaGreatDoor
set_option maxRecDepth 100000
open Go.RowKit

/-- Two lists of rows. -/
def DrewTwo (w : World) (e : Ending) (w' : World) : Prop :=
  ∃ A c a A' c' b, e = .returned (.tuple #[.slice A a.length c, .slice A' b.length c']) ∧ a.length ≤ 9 ∧ b.length ≤ 8 ∧ (∀ z ∈ a, Lite 9 z) ∧ (∀ z ∈ b, Lite 9 z) ∧ IntsS w' w.heap.size (.slice A a.length c) a ∧ IntsS w' w.heap.size (.slice A' b.length c') b ∧ Below w.heap.size w w'
theorem DrewTwo.mk {w w' : World} {u v : Value} {a b : List (List Int)} (ha : IntsS w' w.heap.size u a) (hb : IntsS w' w.heap.size v b) (h1 : a.length ≤ 9) (h2 : b.length ≤ 8) (h3 : ∀ z ∈ a, Lite 9 z) (h4 : ∀ z ∈ b, Lite 9 z) (h : Below w.heap.size w w') : DrewTwo w (.returned (.tuple #[u, v])) w' := by
  obtain ⟨A, c, rfl⟩ := ha.slice
  obtain ⟨A', c', rfl⟩ := hb.slice
  exact ⟨A, c, a, A', c', b, rfl, h1, h2, h3, h4, ha, hb, h⟩
/-- Two lists of rows and a number. -/
def DrewTwoN (w : World) (hi : Int) (e : Ending) (w' : World) : Prop :=
  ∃ A c a A' c' b x, e = .returned (.tuple #[.slice A a.length c, .slice A' b.length c', .int .i64 x]) ∧ a.length ≤ 9 ∧ b.length ≤ 8 ∧ (∀ z ∈ a, Lite 9 z) ∧ (∀ z ∈ b, Lite 9 z) ∧ -2 ≤ x ∧ x ≤ hi ∧ IntsS w' w.heap.size (.slice A a.length c) a ∧ IntsS w' w.heap.size (.slice A' b.length c') b ∧ Below w.heap.size w w'
theorem DrewTwoN.mk {w w' : World} {u v : Value} {a b : List (List Int)} {x hi : Int} (ha : IntsS w' w.heap.size u a) (hb : IntsS w' w.heap.size v b) (h1 : a.length ≤ 9) (h2 : b.length ≤ 8) (h3 : ∀ z ∈ a, Lite 9 z) (h4 : ∀ z ∈ b, Lite 9 z) (h5 : -2 ≤ x) (h6 : x ≤ hi) (h : Below w.heap.size w w') : DrewTwoN w hi (.returned (.tuple #[u, v, .int .i64 x])) w' := by
  obtain ⟨A, c, rfl⟩ := ha.slice
  obtain ⟨A', c', rfl⟩ := hb.slice
  exact ⟨A, c, a, A', c', b, x, rfl, h1, h2, h3, h4, h5, h6, ha, hb, h⟩
set_option maxHeartbeats 1600000 in
theorem l13two_any (A : Option Addr) (n c B : Nat) (bs : List UInt8) (w : World) (hr : Reads w B A n (u8s bs)) (hn : n ≤ 1048576) (hB : B ≤ w.heap.size) :
    Calls Tryz.prog 39 #[.slice A n c] w (DrewTwo w) := by
  have H1 := hide (new_any A n c B bs w hr hn hB)
  clear hr
  go_enter Tryz.func39, Tryz.ntmps39
  go_wp2_with fail
  refine (unhide H1).mono ?_
  rintro e w1 ⟨cb, rfl, hcb, hc1, hb1⟩
  have hS1 := Side.start hc1
  have hsz1 := hb1.size
  have hlt1 := hc1.lt
  have H2 := hide (l12bent_any B cb w1 hc1)
  clear H1 hc1
  go_wp2_with fail
  refine (unhide H2).mono ?_
  rintro e w2 ⟨A2, c2, a, rfl, han, hal, hIa, hc2, hg2⟩
  have hS2 := hS1.drawn hc2 hg2
  have HLa := hide hal
  have H3 := hide (l12draw_any B cb w2 hc2)
  clear H2 hS1 hal hg2 hc2
  go_wp2_with fail
  refine (unhide H3).mono ?_
  rintro e w3 ⟨A3, c3, b, rfl, hbn, hbl, hIb, hc3, hg3⟩
  have hS3 := hS2.drawn hc3 hg3
  have hIa3 := hIa.drawn hg3 hlt1
  have hIb3 := hIb.low hS2.size
  have HLb := hide hbl
  have H4 := hide (once_any B cb 3 (by omega) w3 hc3)
  clear H3 hS2 hIa hIb hbl hg3 hc3
  go_wp2_with fail
  refine (unhide H4).mono ?_
  rintro e w4 ⟨v, rfl, ⟨b1, rfl⟩, hc4, hg4⟩
  have hS4 := hS3.drawn hc4 hg4
  have hIa4 := hIa3.drawn hg4 hlt1
  have hIb4 := hIb3.drawn hg4 hlt1
  clear H4 hS3 hIa3 hIb3 hg4 hc4
  cases b1 with
  | false =>
    have hb4 := hS4.under hb1 hcb
    have HA := hide (hIa4.low hsz1)
    have HB := hide (hIb4.low hsz1)
    clear hS4 hIa4 hIb4
    go_wp2
    go_ret2
    exact DrewTwo.mk (unhide HA) (unhide HB) han hbn (unhide HLa) (unhide HLb) hb4
  | true =>
    have H5 := hide (smeet_any A2 A3 a.length c2 _ b.length c3 _ a b w4 hIa4 hIb4 (by omega) (by omega) (lite_rows (unhide HLa)) (lite_rows (unhide HLb)))
    have hR := meetR_rows a b
    obtain ⟨ok, hok⟩ : ∃ x, x = meetOK a b := ⟨_, rfl⟩
    rw [← hok] at H5
    have hb4 := hS4.under hb1 hcb
    have hsz4 := hS4.size
    clear hS4 hok
    go_wp2_with fail
    refine (unhide H5).mono ?_
    rintro e w5 ⟨A5, c5, rfl, o5, d5⟩
    have hb5 := below_after hb4 d5
    have HA := hide ((hIa4.below d5).low hsz1)
    have HB := hide ((hIb4.below d5).low hsz1)
    have HX := hide (o5.low (Nat.le_trans hsz1 hsz4))
    have HR := hide hR
    clear H5 hIa4 hIb4 o5 d5 hb4 hR
    cases ok with
    | false =>
      go_wp2
      go_ret2
      exact DrewTwo.mk (unhide HA) (unhide HB) han hbn (unhide HLa) (unhide HLb) hb5
    | true =>
      go_wp2
      go_ret2
      exact DrewTwo.mk (unhide HX) (unhide HB) (by have := (unhide HR).1; omega) hbn (fun z hz => lite_P ((unhide HR).2.2 z hz)) (unhide HLb) hb5
set_option maxHeartbeats 800000 in
theorem dmeet_any (A : Option Addr) (n c B : Nat) (bs : List UInt8) (w : World) (hr : Reads w B A n (u8s bs)) (hn : n ≤ 1048576) (hB : B ≤ w.heap.size) :
    Calls Tryz.prog 6 #[.slice A n c] w (DrewTwo w) := by
  have H1 := hide (l13two_any A n c B bs w hr hn hB)
  clear hr
  go_enter Tryz.func6, Tryz.ntmps6
  go_wp2_with fail
  refine (unhide H1).mono ?_
  rintro e w1 ⟨A1, c1, a, A2, c2, b, rfl, h1, h2, h3, h4, hI, hJ, hb⟩
  have H3 := hide h3
  have H4 := hide h4
  clear H1 h3 h4
  go_wp2
  go_ret2
  exact DrewTwo.mk hI hJ h1 h2 (unhide H3) (unhide H4) hb
set_option maxHeartbeats 800000 in
theorem duni_any (A : Option Addr) (n c B : Nat) (bs : List UInt8) (w : World) (hr : Reads w B A n (u8s bs)) (hn : n ≤ 1048576) (hB : B ≤ w.heap.size) :
    Calls Tryz.prog 9 #[.slice A n c] w (DrewTwoN w 4) := by
  have H1 := hide (l13two_any A n c B bs w hr hn hB)
  have HN := hide (fun (w' : World) (d : Below w.heap.size w w') => new_any A n c B bs w' (hr.below (d.mono hB)) hn (Nat.le_trans hB d.size))
  clear hr
  go_enter Tryz.func9, Tryz.ntmps9
  go_wp2_with fail
  refine (unhide H1).mono ?_
  rintro e w1 ⟨A1, c1, a, A2, c2, b, rfl, h1, h2, h3, h4, hI, hJ, hb⟩
  have H3 := hide h3
  have H4 := hide h4
  have HIJ := hide (⟨hI, hJ⟩ : _ ∧ _)
  have H5 := hide (unhide HN w1 hb)
  clear H1 HN h3 h4 hI hJ
  go_wp2_with fail
  refine (unhide H5).mono ?_
  rintro e w2 ⟨cb, rfl, hcb, hc2, hb2⟩
  have hS2 := Side.start hc2
  have H6 := hide (below_any B cb 5 (by omega) w2 hc2)
  clear H5 hc2
  go_wp2_with fail
  refine (unhide H6).mono ?_
  rintro e w3 ⟨v, rfl, ⟨x, rfl, hx0, hx1⟩, hc3, hg3⟩
  rw [if_pos (by omega)] at hx1
  have hS3 := hS2.drawn hc3 hg3
  have H7 := hide (once_any B cb 12 (by omega) w3 hc3)
  clear H6 hS2 hc3 hg3
  go_wp2_with fail
  refine (unhide H7).mono ?_
  rintro e w4 ⟨v, rfl, ⟨b1, rfl⟩, hc4, hg4⟩
  have hb14 := (hS3.drawn hc4 hg4).under hb2 hcb
  have hI4 := (unhide HIJ).1.below hb14
  have hJ4 := (unhide HIJ).2.below hb14
  have hb4 := below_after hb hb14
  clear H7 hS3 hc4 hg4 HIJ hb14 hb2 hb
  go_wp2_with fail
  refine (bit_any _ _).mono ?_
  rintro e w5 ⟨rfl, rfl⟩
  obtain ⟨v1, hv1, hv10, hv11⟩ : ∃ v, bitI b1 = v ∧ 0 ≤ v ∧ v ≤ 1 := ⟨_, rfl, by cases b1 <;> decide, by cases b1 <;> decide⟩
  rw [hv1]
  clear hv1
  go_wp2
  go_ret3
  exact DrewTwoN.mk hI4 hJ4 h1 h2 (unhide H3) (unhide H4) (by omega) (by omega) hb4
set_option maxHeartbeats 800000 in
theorem dbey_any (A : Option Addr) (n c B : Nat) (bs : List UInt8) (w : World) (hr : Reads w B A n (u8s bs)) (hn : n ≤ 1048576) (hB : B ≤ w.heap.size) :
    Calls Tryz.prog 16 #[.slice A n c] w (DrewTwoN w 5) := by
  have H1 := hide (l13two_any A n c B bs w hr hn hB)
  have HN := hide (fun (w' : World) (d : Below w.heap.size w w') => new_any A n c B bs w' (hr.below (d.mono hB)) hn (Nat.le_trans hB d.size))
  clear hr
  go_enter Tryz.func16, Tryz.ntmps16
  go_wp2_with fail
  refine (unhide H1).mono ?_
  rintro e w1 ⟨A1, c1, a, A2, c2, b, rfl, h1, h2, h3, h4, hI, hJ, hb⟩
  have H3 := hide h3
  have H4 := hide h4
  have HIJ := hide (⟨hI, hJ⟩ : _ ∧ _)
  have H5 := hide (unhide HN w1 hb)
  clear H1 HN h3 h4 hI hJ
  go_wp2_with fail
  refine (unhide H5).mono ?_
  rintro e w2 ⟨cb, rfl, hcb, hc2, hb2⟩
  have hS2 := Side.start hc2
  have H6 := hide (below_any B cb 6 (by omega) w2 hc2)
  clear H5 hc2
  go_wp2_with fail
  refine (unhide H6).mono ?_
  rintro e w3 ⟨v, rfl, ⟨x, rfl, hx0, hx1⟩, hc3, hg3⟩
  rw [if_pos (by omega)] at hx1
  have hS3 := hS2.drawn hc3 hg3
  have H7 := hide (once_any B cb 12 (by omega) w3 hc3)
  clear H6 hS2 hc3 hg3
  go_wp2_with fail
  refine (unhide H7).mono ?_
  rintro e w4 ⟨v, rfl, ⟨b1, rfl⟩, hc4, hg4⟩
  have hb14 := (hS3.drawn hc4 hg4).under hb2 hcb
  have hI4 := (unhide HIJ).1.below hb14
  have hJ4 := (unhide HIJ).2.below hb14
  have hb4 := below_after hb hb14
  clear H7 hS3 hc4 hg4 HIJ hb14 hb2 hb
  go_wp2_with fail
  refine (bit_any _ _).mono ?_
  rintro e w5 ⟨rfl, rfl⟩
  obtain ⟨v1, hv1, hv10, hv11⟩ : ∃ v, bitI b1 = v ∧ 0 ≤ v ∧ v ≤ 1 := ⟨_, rfl, by cases b1 <;> decide, by cases b1 <;> decide⟩
  rw [hv1]
  clear hv1
  go_wp2
  go_ret3
  exact DrewTwoN.mk hI4 hJ4 h1 h2 (unhide H3) (unhide H4) (by omega) (by omega) hb4
set_option maxHeartbeats 800000 in
theorem dsymb_any (A : Option Addr) (n c B : Nat) (bs : List UInt8) (w : World) (hr : Reads w B A n (u8s bs)) (hn : n ≤ 1048576) (hB : B ≤ w.heap.size) :
    Calls Tryz.prog 11 #[.slice A n c] w (DrewSI w 9) := by
  have H1 := hide (new_any A n c B bs w hr hn hB)
  clear hr
  go_enter Tryz.func11, Tryz.ntmps11
  go_wp2_with fail
  refine (unhide H1).mono ?_
  rintro e w1 ⟨cb, rfl, hcb, hc1, hb1⟩
  have hS0 := Side.start hc1
  have hsz1 := hb1.size
  have H2 := hide (l12bent_any B cb w1 hc1)
  clear H1 hc1
  go_wp2_with fail
  refine (unhide H2).mono ?_
  rintro e w2 ⟨A2, c2, zss, rfl, hzn, hl, hI, hc2, hg2⟩
  have hS2 := hS0.drawn hc2 hg2
  have HL := hide hl
  have H3 := hide (below_any B cb 10 (by omega) w2 hc2)
  clear H2 hS0 hl hg2 hc2
  go_wp2_with fail
  refine (unhide H3).mono ?_
  rintro e w3 ⟨v, rfl, ⟨x, rfl, hx0, hx1⟩, hc3, hg3⟩
  rw [if_pos (by omega)] at hx1
  have hb3 := (hS2.drawn hc3 hg3).under hb1 hcb
  have hI3 := (hI.drawn hg3 hS2.lt).low hsz1
  clear H3 hS2 hI hc3 hg3
  go_wp2
  go_ret2
  exact DrewSI.mk hI3 hzn (unhide HL) (by omega) (by omega) hb3
set_option maxHeartbeats 800000 in
theorem dsumc_any (A : Option Addr) (n c B : Nat) (bs : List UInt8) (w : World) (hr : Reads w B A n (u8s bs)) (hn : n ≤ 1048576) (hB : B ≤ w.heap.size) :
    Calls Tryz.prog 15 #[.slice A n c] w (DrewSS w 9) := by
  have H1 := hide (new_any A n c B bs w hr hn hB)
  clear hr
  go_enter Tryz.func15, Tryz.ntmps15
  go_wp2_with fail
  refine (unhide H1).mono ?_
  rintro e w1 ⟨cb, rfl, hcb, hc1, hb1⟩
  have hS0 := Side.start hc1
  have hsz1 := hb1.size
  have H2 := hide (l12bent_any B cb w1 hc1)
  clear H1 hc1
  go_wp2_with fail
  refine (unhide H2).mono ?_
  rintro e w2 ⟨A2, c2, zss, rfl, hzn, hl, hI, hc2, hg2⟩
  have hb2 := (hS0.drawn hc2 hg2).under hb1 hcb
  have HI := hide (hI.low hsz1)
  have HL := hide hl
  clear H2 hS0 hl hI hc2 hg2
  go_wp2
  go_ret
  exact DrewSS.mk (unhide HI) hzn (unhide HL) hb2
end Go.Proofs.YtoiipedomgefaaaGreatDoor


/-
  spec.l13Straight, IsFinite, IsSumClosed, FirstBeyond, by their contracts.
-/

namespace Go.Proofs.YtoiipedomgefaaaGreatDoor
set_option maxRecDepth 100000
open Go.RowKit

theorem isP_upN {n : Nat} (h : n ≤ 8) : isP (upTo n) = true := isP_true.2 ⟨by rw [upTo_length]; exact h, fun x hx => by rw [upTo_length]; exact mem_upTo.1 hx, upTo_nodup n⟩
theorem idR_len {z : List Int} (h : isP z = true) : idR (z.length : Int) = upTo z.length := by
  by_cases h0 : z.length = 0
  · have : z = [] := List.eq_nil_of_length_eq_zero h0
    subst this
    decide
  · rw [idR_yes (by omega) (by have := isP_le h; omega), Int.toNat_natCast]
set_option maxHeartbeats 800000 in
theorem l13str_any (A : Option Addr) (n c B : Nat) (z : List Int) (w : World) (h : Arg w B A n c z) (hp : isP z = true) :
    Calls Tryz.prog 68 #[.slice A n c] w (GivesB w (strP z)) := by
  have hl := h.len
  have hn8 : n ≤ 8 := by have := isP_le hp; omega
  have H1 := hide (by have h5 := sid_any ((n : Nat) : Int) (by omega) w; rw [← hl, idR_len hp, hl] at h5; exact h5 : Calls Tryz.prog 59 #[.int .i64 (n : Int)] w (GivesI w (upTo n)))
  have hup : isP (upTo n) = true := isP_upN hn8
  have H2 := hide (fun (w1 : World) (d : Below w.heap.size w w1) (A1 : Option Addr) (c1 : Nat) (o : Ints w1 w.heap.size (.slice A1 (upTo n).length c1) (upTo n)) => l2same_any A A1 n c B _ c1 _ z (upTo n) (strP z) (by unfold strP; rw [hl]) w1 (h.below d) (o.argP hup))
  obtain ⟨b, hb⟩ : ∃ b, b = strP z := ⟨_, rfl⟩
  rw [← hb] at H2 ⊢
  clear h hp hl hup hb
  go_enter Tryz.func68, Tryz.ntmps68
  go_wp2_with fail
  refine (unhide H1).mono ?_
  rintro e w1 ⟨A1, c1, rfl, o1, d1⟩
  have H3 := hide (unhide H2 w1 d1 A1 c1 o1)
  clear H1 H2 o1
  go_wp2_with fail
  refine (unhide H3).mono ?_
  rintro e w2 ⟨rfl, d2⟩
  have hb2 := d1.trans (d2.below _)
  clear H3 d1 d2
  go_wp2
  go_ret
  exact ⟨rfl, hb2⟩
set_option maxHeartbeats 3200000 in
theorem sfin_any (A : Option Addr) (n c B : Nat) (L : List (List Int)) (w : World) (hS : IntsS w B (.slice A n c) L) (hn : n ≤ 1048576) (hsm : ∀ z ∈ L, z.length ≤ 1048576 ∧ Small z) :
    Calls Tryz.prog 22 #[.slice A n c] w (GivesB w (finR L)) := by
  have hl := hS.len
  obtain ⟨b, hb⟩ : ∃ x, basis L = x := ⟨_, rfl⟩
  have HB := hide (fun (w' : World) (d : Below w.heap.size w w') => by have h := sbas_any A n c B L w' (hS.below d) hn hsm; rw [hb] at h; exact h)
  have hb0 := Below.refl w.heap.size w
  cases b with
  | false =>
    have hpos : 0 < n := by have := basis_some hb; omega
    rw [fin_no hb]
    clear hS hsm hb hl
    go_enter Tryz.func22, Tryz.ntmps22
    go_wp2
    go_loopw [3, 4, 5] (fun u d i wr => u = .bool false ∧ d = .bool false ∧ i = .int .i64 0 ∧ wr = w) (fun _ _ _ _ => 0)
    case atStart => exact ⟨rfl, rfl, rfl, rfl⟩
    case round =>
      obtain ⟨rfl, rfl, rfl, rfl⟩ := hrel
      have hp0 : (0 : Int) < (n : Int) := by omega
      have H1 := hide (unhide HB wr hb0)
      go_wp2_with fail
      refine (unhide H1).mono ?_
      rintro e w1 ⟨rfl, d1⟩
      clear H1 hb0
      go_wp2
      go_ret
      exact ⟨rfl, d1⟩
  | true =>
    have hn8 : n ≤ 8 := by have := basis_le hb; omega
    have HA := hide (⟨hS, fun z hz => (basis_isP hb z hz).1⟩ : IntsS w B (.slice A n c) L ∧ ∀ z ∈ L, isP z = true)
    have HL := hide hl
    have HF := hide (fin_yes hb)
    clear hS hsm hb hl
    go_enter Tryz.func22, Tryz.ntmps22
    go_wp2
    go_loopw [3, 4, 5] (fun u d i wr => ∃ k : Nat, k ≤ n ∧ i = .int .i64 k ∧ u = .bool ((L.take k).any strP) ∧ d = .bool ((L.take k).any fun z => strP z.reverse) ∧ Below w.heap.size w wr) (fun _ _ i _ => n - (intOf i).toNat)
    case atStart => exact ⟨0, Nat.zero_le _, rfl, by simp, by simp, hb0⟩
    case round =>
      obtain ⟨k, hk, rfl, rfl, rfl, hbw⟩ := hrel
      clear hb0
      by_cases hlt : k < n
      · have H1 := hide (unhide HB wr hbw)
        obtain ⟨ad, A6, c6, z, rfl, hz, hcell, hI⟩ := ((unhide HA).1.below hbw).at_ hlt
        have hzp := (unhide HA).2 z (List.mem_of_getElem? hz)
        have hcl := World.block_lt_of_cell? wr _ hcell
        have hArg := hI.argP hzp
        have H2 := hide (fun (w' : World) (d : Below wr.heap.size wr w') => l13str_any A6 z.length c6 _ z w' (hArg.below d) hzp)
        have H3 := hide (fun (w' : World) (d : Below wr.heap.size wr w') => l3rev_any A6 z.length c6 _ z w' (hArg.below d))
        have H4 := hide (fun (w' : World) (B9 : Nat) (A9 : Option Addr) (c9 : Nat) (o : Ints w' B9 (.slice A9 z.reverse.length c9) z.reverse) => l13str_any A9 z.reverse.length c9 _ z.reverse w' (o.argP (isP_rev hzp)) (isP_rev hzp))
        have HU := hide (any_step (f := strP) hz)
        have HD := hide (any_step (f := fun z => strP z.reverse) hz)
        obtain ⟨bu, hbu⟩ : ∃ x, (L.take k).any strP = x := ⟨_, rfl⟩
        obtain ⟨bd, hbd⟩ : ∃ x, (L.take k).any (fun z => strP z.reverse) = x := ⟨_, rfl⟩
        obtain ⟨su, hsu⟩ : ∃ x, strP z = x := ⟨_, rfl⟩
        obtain ⟨sd, hsd⟩ : ∃ x, strP z.reverse = x := ⟨_, rfl⟩
        rw [hsu] at HU
        rw [hsd] at HD
        rw [hbu] at HU ⊢
        rw [hbd] at HD ⊢
        simp only [hsu] at H2
        simp only [hsd] at H4
        obtain ⟨lz, hlz⟩ : ∃ l, l = z.length := ⟨_, rfl⟩
        rw [← hlz] at hcell
        simp only [← hlz] at H2 H3
        clear hz hzp hI hArg hbu hbd hsu hsd hlz
        go_wp2_with fail
        refine (unhide H1).mono ?_
        rintro e w1 ⟨rfl, d1⟩
        clear H1
        have HB2 := HU
        cases bu with
        | true =>
          cases bd with
          | true =>
            have hb9 := below_after hbw d1
            have HU2 := hide (unhide HU).symm
            have HD2 := hide (unhide HD).symm
            clear HB2 H2 H3 H4 hcell hcl HU HD d1 hbw
            go_wp2
            go_roundw
            case rel => exact ⟨k + 1, by omega, by go_num, by rw [← unhide HU2]; first | rfl | (cases su <;> rfl), by rw [← unhide HD2]; rfl, hb9⟩
            case measure => simp [intOf]; omega
          | false =>
            have hcell8 := (d1.cell hcl).trans hcell
            have H6 := hide (unhide H3 w1 d1)
            clear H2 H3
            go_wp2_with fail
            refine (unhide H6).mono ?_
            rintro e w8 ⟨A8, c8, rfl, o8, d8⟩
            have H7 := hide (unhide H4 w8 _ A8 c8 o8)
            rw [List.length_reverse] at H7
            have d9 := below_after d1 d8
            clear H4 H6 o8 d8 hcell8
            go_wp2_with fail
            refine (unhide H7).mono ?_
            rintro e w9 ⟨rfl, e9⟩
            have hb9 := below_after hbw (below_after d9 e9)
            have HU2 := hide (unhide HU).symm
            have HD2 := hide (unhide HD).symm
            clear HB2 H7 hcell hcl HU HD d9 e9 d1 hbw
            go_wp2
            go_roundw
            case rel => exact ⟨k + 1, by omega, by go_num, by rw [← unhide HU2]; first | rfl | (cases su <;> rfl), by rw [← unhide HD2]; rfl, hb9⟩
            case measure => simp [intOf]; omega
        | false =>
          have hcell2 := (d1.cell hcl).trans hcell
          have H5 := hide (unhide H2 w1 d1)
          go_wp2_with fail
          refine (unhide H5).mono ?_
          rintro e w2 ⟨rfl, d2⟩
          have d3 := below_after d1 d2
          clear H5 d1 d2 hcell2
          cases bd with
          | true =>
            have hb9 := below_after hbw d3
            have HU2 := hide (unhide HU).symm
            have HD2 := hide (unhide HD).symm
            clear HB2 H2 H3 H4 hcell hcl HU HD d3 hbw
            go_wp2
            go_roundw
            case rel => exact ⟨k + 1, by omega, by go_num, by rw [← unhide HU2]; first | rfl | (cases su <;> rfl), by rw [← unhide HD2]; rfl, hb9⟩
            case measure => simp [intOf]; omega
          | false =>
            have hcell8 := (d3.cell hcl).trans hcell
            have H6 := hide (unhide H3 w2 d3)
            clear H2 H3
            go_wp2_with fail
            refine (unhide H6).mono ?_
            rintro e w8 ⟨A8, c8, rfl, o8, d8⟩
            have H7 := hide (unhide H4 w8 _ A8 c8 o8)
            rw [List.length_reverse] at H7
            have d9 := below_after d3 d8
            clear H4 H6 o8 d8 hcell8
            go_wp2_with fail
            refine (unhide H7).mono ?_
            rintro e w9 ⟨rfl, e9⟩
            have hb9 := below_after hbw (below_after d9 e9)
            have HU2 := hide (unhide HU).symm
            have HD2 := hide (unhide HD).symm
            clear HB2 H7 hcell hcl HU HD d9 e9 d3 hbw
            go_wp2
            go_roundw
            case rel => exact ⟨k + 1, by omega, by go_num, by rw [← unhide HU2]; first | rfl | (cases su <;> rfl), by rw [← unhide HD2]; rfl, hb9⟩
            case measure => simp [intOf]; omega
      · obtain rfl : n = k := by omega
        have hR : ((L.take n).any strP && (L.take n).any fun z => strP z.reverse) = finR L := by rw [unhide HF, List.take_of_length_le (by rw [unhide HL]; exact Nat.le_refl _)]
        obtain ⟨bu, hbu⟩ : ∃ x, (L.take n).any strP = x := ⟨_, rfl⟩
        obtain ⟨bd, hbd⟩ : ∃ x, (L.take n).any (fun z => strP z.reverse) = x := ⟨_, rfl⟩
        rw [hbu, hbd] at hR ⊢
        have HR := hide hR
        clear hbu hbd hR
        cases bu with
        | false =>
          go_wp2
          go_ret
          exact ⟨ret_bool (unhide HR), hbw⟩
        | true =>
          go_wp2
          go_ret
          exact ⟨ret_bool (by rw [← unhide HR]; rfl), hbw⟩
set_option maxHeartbeats 1600000 in
theorem ssumc_any (A : Option Addr) (n c B : Nat) (L : List (List Int)) (w : World) (hS : IntsS w B (.slice A n c) L) (hn : n ≤ 1048576) (hsm : ∀ z ∈ L, z.length ≤ 1048576 ∧ Small z) :
    Calls Tryz.prog 24 #[.slice A n c] w (GivesB w (sumC L)) := by
  have hl := hS.len
  have HA := hide (⟨hS, hsm⟩ : IntsS w B (.slice A n c) L ∧ ∀ z ∈ L, z.length ≤ 1048576 ∧ Small z)
  have HL := hide hl
  have hb0 := Below.refl w.heap.size w
  clear hS hsm hl
  go_enter Tryz.func24, Tryz.ntmps24
  go_wp2
  go_loopw [3] (fun i wr => ∃ k : Nat, k ≤ n ∧ i = .int .i64 k ∧ Below w.heap.size w wr ∧ Hid (∀ z ∈ L.take k, decide (1 < (partsR z).length) = false)) (fun i _ => n - (intOf i).toNat)
  case atStart => exact ⟨0, Nat.zero_le _, rfl, hb0, fun q hq => by simp at hq⟩
  case round =>
    obtain ⟨k, hk, rfl, hb, hno⟩ := hrel
    clear hb0
    by_cases hlt : k < n
    · obtain ⟨ad, A6, c6, z, rfl, hz, hcell, hI⟩ := ((unhide HA).1.below hb).at_ hlt
      have hzs := (unhide HA).2 z (List.mem_of_getElem? hz)
      have H1 := hide (sparts_any A6 z.length c6 _ z wr (hI.arg hzs.1 hI.cap hzs.2))
      have HZ := hide hz
      obtain ⟨lz, hlz⟩ : ∃ l, l = z.length := ⟨_, rfl⟩
      rw [← hlz] at hcell H1
      obtain ⟨N, hN⟩ : ∃ l, l = (partsR z).length := ⟨_, rfl⟩
      have HN := hide hN
      clear hz hI hzs hlz hN
      go_wp2_with fail
      refine (unhide H1).mono ?_
      rintro e w2 ⟨A2, c2, rfl, o2, d2⟩
      have hb2 := below_after hb d2
      rw [← unhide HN]
      clear H1 o2 d2 hcell hb
      by_cases h1 : 1 < N
      · have h1' : (1 : Int) < (N : Int) := by omega
        have HR := hide (sum_no (List.mem_of_getElem? (unhide HZ)) (by rw [← unhide HN]; exact h1))
        go_wp2
        go_ret
        exact ⟨ret_bool (unhide HR).symm, hb2⟩
      · have h1' : ¬ (1 : Int) < (N : Int) := by omega
        have HS := hide (row_step (f := fun z => decide (1 < (partsR z).length)) (unhide HZ) (by rw [← unhide HN]; exact decide_eq_false h1) (unhide hno))
        go_wp2
        go_roundw
        case rel => exact ⟨k + 1, by omega, by go_num, hb2, HS⟩
        case measure => simp [intOf]; omega
    · obtain rfl : n = k := by omega
      have hall : ∀ z ∈ L, decide (1 < (partsR z).length) = false := by
        have h := unhide hno
        rwa [List.take_of_length_le (by rw [unhide HL]; exact Nat.le_refl _)] at h
      have H1 := hide (by have h := sbas_any A n c B L wr ((unhide HA).1.below hb) hn (unhide HA).2; rw [← sum_end hall] at h; exact h)
      obtain ⟨b, hbb⟩ : ∃ x, x = sumC L := ⟨_, rfl⟩
      rw [← hbb] at H1
      have HBB := hide hbb
      clear hno hall hbb
      go_wp2_with fail
      refine (unhide H1).mono ?_
      rintro e w2 ⟨rfl, d2⟩
      have hb2 := below_after hb d2
      clear H1 d2 hb
      go_wp2
      go_ret
      exact ⟨ret_bool (unhide HBB), hb2⟩
set_option maxHeartbeats 3200000 in
theorem sbey_any (A A' : Option Addr) (n c B n' c' B' : Nat) (a b : List (List Int)) (m : Int) (hm : -9223372036854775808 ≤ m ∧ m ≤ 9223372036854775807) (w : World) (hS : IntsS w B (.slice A n c) a) (hS' : IntsS w B' (.slice A' n' c') b) (hn : n ≤ 1048576) (hn' : n' ≤ 1048576) (hsm : ∀ z ∈ a, z.length ≤ 1048576 ∧ Small z) (hsm' : ∀ z ∈ b, z.length ≤ 1048576 ∧ Small z) :
    Calls Tryz.prog 18 #[.slice A n c, .slice A' n' c', .int .i64 m] w (GivesIB w (beyR a b m) (beyOK a b m)) := by
  obtain ⟨hm1, hm2⟩ := hm
  obtain ⟨ba, hba⟩ : ∃ x, basis a = x := ⟨_, rfl⟩
  obtain ⟨bb, hbb⟩ : ∃ x, basis b = x := ⟨_, rfl⟩
  have H1 := hide (sbas_any A n c B a w hS hn hsm)
  rw [hba] at H1
  cases ba with
  | false =>
    obtain ⟨e1, e2⟩ := bey_not (bey_no (a := a) (b := b) (m := m) (fun h => by rw [hba] at h; cases h.1))
    rw [e1, e2]
    clear hS hS' hsm hsm' hba hbb e1 e2
    go_enter Tryz.func18, Tryz.ntmps18
    go_wp2_with fail
    refine (unhide H1).mono ?_
    rintro e w1 ⟨rfl, d1⟩
    have hm := Ints.made0 w1 w.heap.size d1.size
    have hb2 := d1.alloc d1.size (.cells #[] 3)
    clear H1 d1
    go_wp2
    go_ret2
    exact GivesIB.mk false hm hb2
  | true =>
    have H2 := hide (fun (w' : World) (d : Below w.heap.size w w') => by have h := sbas_any A' n' c' B' b w' (hS'.below d) hn' hsm'; rw [hbb] at h; exact h)
    cases bb with
    | false =>
      obtain ⟨e1, e2⟩ := bey_not (bey_no (a := a) (b := b) (m := m) (fun h => by rw [hbb] at h; cases h.2.1))
      rw [e1, e2]
      clear hS hS' hsm hsm' hba hbb e1 e2
      go_enter Tryz.func18, Tryz.ntmps18
      go_wp2_with fail
      refine (unhide H1).mono ?_
      rintro e w1 ⟨rfl, d1⟩
      have H3 := hide (unhide H2 w1 d1)
      clear H1 H2
      go_wp2_with fail
      refine (unhide H3).mono ?_
      rintro e w2 ⟨rfl, d2⟩
      have hb2 := below_after d1 d2
      have hm := Ints.made0 w2 w.heap.size hb2.size
      have hb3 := hb2.alloc hb2.size (.cells #[] 3)
      clear H3 d1 d2 hb2
      go_wp2
      go_ret2
      exact GivesIB.mk false hm hb3
    | true =>
      by_cases hin : 0 ≤ m ∧ m ≤ 6
      · obtain ⟨j, rfl⟩ : ∃ j : Nat, m = (j : Int) := ⟨m.toNat, by omega⟩
        have hj6 : j ≤ 6 := by omega
        have H3 := hide (fun w' => l1in_any (j : Int) 0 6 true (decide_eq_true hin) w')
        have HYES := hide (fun (p : List Int) (h : (allU j).find? (beyP a b) = some p) => bey_is ((bey_yes hba hbb hj6).trans h))
        have HNO := hide (fun (h : (allU j).find? (beyP a b) = none) => bey_not ((bey_yes hba hbb hj6).trans h))
        have HA := hide (⟨hS, hS', fun z hz => (basis_isP hba z hz).1, fun z hz => (basis_isP hbb z hz).1⟩ : IntsS w B (.slice A n c) a ∧ IntsS w B' (.slice A' n' c') b ∧ (∀ z ∈ a, isP z = true) ∧ ∀ z ∈ b, isP z = true)
        have HPM := hide (fun (k : Nat) (_ : k ≤ j) (w' : World) => by have h5 := sperms_any ((k : Nat) : Int) (by omega) w'; rw [permsR_yes (by omega)] at h5; exact h5)
        clear hS hS' hsm hsm' hba hbb hin hm1 hm2
        go_enter Tryz.func18, Tryz.ntmps18
        go_wp2_with fail
        refine (unhide H1).mono ?_
        rintro e w1 ⟨rfl, d1⟩
        have H4 := hide (unhide H2 w1 d1)
        clear H1 H2
        go_wp2_with fail
        refine (unhide H4).mono ?_
        rintro e w2 ⟨rfl, d2⟩
        have hb2 := below_after d1 d2
        clear H4 d1 d2
        go_wp2_with fail
        refine (unhide H3 w2).mono ?_
        rintro e w3 ⟨rfl, hw3⟩
        rw [hw3]
        clear H3 hw3 w3
        go_wp2
        go_loopw [8, 9, 10] (fun i _ _ wr => ∃ k : Nat, k ≤ j + 1 ∧ i = .int .i64 k ∧ Below w.heap.size w wr ∧ Hid (∀ q ∈ (List.range k).flatMap permL, beyP a b q = false)) (fun i _ _ _ => j + 1 - (intOf i).toNat)
        case atStart => exact ⟨0, Nat.zero_le _, rfl, hb2, fun q hq => by simp at hq⟩
        case round =>
          obtain ⟨k, hk, rfl, hb, hno⟩ := hrel
          clear hb2
          by_cases hlt : k < j + 1
          · have hlt2 : (k : Int) ≤ (j : Int) := by omega
            have H5 := hide (unhide HPM k (by omega) wr)
            change Hid (Calls _ _ _ _ (GivesSS wr (permL k))) at H5
            have HPP := hide (fun (i : Nat) (z : List Int) (hz : (permL k)[i]? = some z) => permL_isPm k (by omega) z (List.mem_of_getElem? hz))
            have HFO := hide (fun (i : Nat) (p : List Int) (hp : (permL k)[i]? = some p) (h2 : ∀ q ∈ (permL k).take i, beyP a b q = false) (h3 : beyP a b p = true) => unhide HYES p (bey_found (show k ≤ j by omega) hp (unhide hno) h2 h3))
            have HST := hide (fun (h2 : ∀ q ∈ permL k, beyP a b q = false) => bey_step (unhide hno) h2)
            obtain ⟨Z, hZ⟩ : ∃ Z, Z = permL k := ⟨_, rfl⟩
            rw [← hZ] at H5 HPP HFO HST
            obtain ⟨N, hN⟩ : ∃ N, N = Z.length := ⟨_, rfl⟩
            have HN := hide hN
            have hN7 : N ≤ 720 := by rw [hN, hZ]; exact (permL_small k (by omega)).1
            clear hZ hN hno
            go_wp2_with fail
            refine (unhide H5).mono ?_
            rintro e w5 ⟨A5, c5, rfl, o5, d5⟩
            have hb5 := below_after hb d5
            have HO := hide o5
            rw [← unhide HN] at HO ⊢
            have hk5 := Below.refl w5.heap.size w5
            have HSZ := hide hb.size
            clear H5 o5 d5 hb
            go_wp2
            go_loopw [10] (fun i wr2 => ∃ i9 : Nat, i9 ≤ N ∧ i = .int .i64 i9 ∧ Below w5.heap.size w5 wr2 ∧ Hid (∀ q ∈ Z.take i9, beyP a b q = false)) (fun i _ => N - (intOf i).toNat)
            case atStart => exact ⟨0, Nat.zero_le _, rfl, hk5, fun q hq => by simp at hq⟩
            case round =>
              obtain ⟨i9, hi9, rfl, hd, hno⟩ := hrel
              clear hk5
              by_cases hlt9 : i9 < N
              · obtain ⟨ad, A6, c6, z, rfl, hz, hcell, hI⟩ := ((unhide HO).below hd).at_ hlt9
                have hzp := unhide HPP i9 z hz
                have hArg := hI.argP hzp
                have hcl := World.block_lt_of_cell? _ _ hcell
                have hbw := below_after hb5 hd
                have H6 := hide (savo_any A A6 n c B z.length c6 _ a z wr ((unhide HA).1.below hbw) hArg hzp (unhide HA).2.2.1 hn)
                have H7 := hide (fun (w' : World) (d : Below wr.heap.size wr w') => savo_any A' A6 n' c' B' z.length c6 _ b z w' (((unhide HA).2.1.below hbw).below d) (hArg.below d) hzp (unhide HA).2.2.2 hn')
                obtain ⟨b1, hb1⟩ : ∃ x, avo a z = x := ⟨_, rfl⟩
                obtain ⟨b2, hb2⟩ : ∃ x, avo b z = x := ⟨_, rfl⟩
                have hbey : beyP a b z = (b1 && !b2) := by unfold beyP; rw [hb1, hb2]
                rw [hb1] at H6
                simp only [hb2] at H7
                have HZ := hide (⟨hz, hbey⟩ : _ ∧ _)
                have HI := hide hI
                obtain ⟨lz, hlz⟩ : ∃ l, l = z.length := ⟨_, rfl⟩
                have HLZ := hide hlz
                rw [← hlz] at hcell H6
                simp only [← hlz] at H7
                clear hz hzp hI hArg hb1 hb2 hbey hlz
                cases b1 with
                | false =>
                  go_wp2_with fail
                  refine (unhide H6).mono ?_
                  rintro e w6 ⟨rfl, d6⟩
                  clear H6 H7
                  have HS := hide (row_step (f := beyP a b) (unhide HZ).1 (unhide HZ).2 (unhide hno))
                  have hd9 := below_after hd d6
                  clear d6 hd hcell hcl hbw
                  go_wp2
                  go_roundw
                  case rel => exact ⟨i9 + 1, by omega, by go_num, hd9, HS⟩
                  case measure => simp [intOf]; omega
                | true =>
                  go_wp2_with fail
                  refine (unhide H6).mono ?_
                  rintro e w6 ⟨rfl, d6⟩
                  have hcell6 := (d6.cell hcl).trans hcell
                  have H8 := hide (unhide H7 w6 d6)
                  clear H6 H7
                  go_wp2_with fail
                  refine (unhide H8).mono ?_
                  rintro e w7 ⟨rfl, d7⟩
                  have d8 := below_after d6 d7
                  clear H8 d6 d7 hcell6
                  cases b2 with
                  | true =>
                    have HS := hide (row_step (f := beyP a b) (unhide HZ).1 (unhide HZ).2 (unhide hno))
                    have hd9 := below_after hd d8
                    clear d8 hd hcell hcl hbw
                    go_wp2
                    go_roundw
                    case rel => exact ⟨i9 + 1, by omega, by go_num, hd9, HS⟩
                    case measure => simp [intOf]; omega
                  | false =>
                    have HE12 := hide (unhide HFO i9 z (unhide HZ).1 (unhide hno) (unhide HZ).2)
                    have hcell8 := (d8.cell hcl).trans hcell
                    have hI8 := (unhide HI).below d8
                    have hI9 := hI8.low (Nat.le_trans (unhide HSZ) (Nat.le_refl _))
                    have hb9 := below_after hbw d8
                    rw [← unhide HLZ] at hI9
                    have HI9 := hide hI9
                    clear hd hcell hcl hbw d8 hI8 hI9 hno
                    go_wp2
                    go_ret2
                    rw [(unhide HE12).1, (unhide HE12).2]; exact GivesIB.mk true (unhide HI9) hb9
              · obtain rfl : N = i9 := by omega
                have hall : ∀ q ∈ Z, beyP a b q = false := by
                  have h := unhide hno
                  rwa [List.take_of_length_le (by rw [unhide HN]; exact Nat.le_refl _)] at h
                have HS2 := hide (unhide HST hall)
                have hb9 := below_after hb5 hd
                clear hno hall hd hb5
                go_wp2
                go_roundw
                case rel => exact ⟨k + 1, by omega, by go_num, hb9, HS2⟩
                case measure => simp [intOf]; omega
          · obtain rfl : k = j + 1 := by omega
            have hlt2 : ¬ ((j : Int) + 1 ≤ (j : Int)) := by omega
            have HE12 := hide (unhide HNO (bey_none (unhide hno)))
            have hm := Ints.made0 wr w.heap.size hb.size
            have hb3 := hb.alloc hb.size (.cells #[] 3)
            clear hno
            go_wp2
            go_ret2
            rw [(unhide HE12).1, (unhide HE12).2]; exact GivesIB.mk false hm hb3
      · obtain ⟨e1, e2⟩ := bey_not (bey_no (a := a) (b := b) (m := m) (fun h => hin h.2.2))
        rw [e1, e2]
        have H3 := hide (fun w' => l1in_any m 0 6 false (decide_eq_false hin) w')
        clear hS hS' hsm hsm' hba hbb hin e1 e2
        go_enter Tryz.func18, Tryz.ntmps18
        go_wp2_with fail
        refine (unhide H1).mono ?_
        rintro e w1 ⟨rfl, d1⟩
        have H4 := hide (unhide H2 w1 d1)
        clear H1 H2
        go_wp2_with fail
        refine (unhide H4).mono ?_
        rintro e w2 ⟨rfl, d2⟩
        have hb2 := below_after d1 d2
        clear H4 d1 d2
        go_wp2_with fail
        refine (unhide H3 w2).mono ?_
        rintro e w3 ⟨rfl, hw3⟩
        rw [hw3]
        clear H3 hw3 w3
        have hm := Ints.made0 w2 w.heap.size hb2.size
        have hb3 := hb2.alloc hb2.size (.cells #[] 3)
        clear hb2
        go_wp2
        go_ret2
        exact GivesIB.mk false hm hb3
end Go.Proofs.YtoiipedomgefaaaGreatDoor


/-
  spec.DrawIsFinite; laws.straight at any list, laws.back, by their contracts.
-/

namespace Go.Proofs.YtoiipedomgefaaaGreatDoor
set_option maxRecDepth 100000
open Go.RowKit

set_option maxHeartbeats 400000 in
theorem lback_any (A : Option Addr) (n c B : Nat) (zs : List Int) (w : World) (h : Arg w B A n c zs) :
    Calls Tryz.prog 32 #[.slice A n c] w (GivesI w zs.reverse) := by
  obtain ⟨i0, hi, hz0, hz1, hz2⟩ := info_parts intInfo
  have hl := h.len
  have hr := h.reads
  have hB := h.under
  have hn := h.le
  have HL := hide hl
  have hst := own0 w w.heap.size (Nat.le_refl _)
  have hbel := (Below.refl w.heap.size w).alloc (Nat.le_refl _) (.cells #[] 3)
  clear h hl
  go_enter Tryz.func32, Tryz.ntmps32
  go_wp2
  go_loopw [3, 4] (fun v i wr => ∃ k : Nat, k ≤ n ∧ i = .int .i64 ((k : Int) - 1) ∧ Below w.heap.size w wr ∧ wr.ownsRow w.heap.size 3 1 v (n - k) (i64s (zs.drop k).reverse)) (fun _ i _ => (intOf i + 1).toNat)
  case atStart =>
    refine ⟨n, Nat.le_refl _, rfl, hbel, ?_⟩
    rw [Nat.sub_self, List.drop_of_length_le (by rw [unhide HL]; exact Nat.le_refl _)]
    exact hst
  case round =>
    obtain ⟨k, hk, rfl, hbw, hown⟩ := hrel
    clear hst hbel
    cases k with
    | succ k =>
      obtain ⟨ad, u, rfl, had, hu, hc⟩ := ((hr.more hB).below hbw).at_ (show k < n by omega)
      obtain ⟨z, hz, rfl⟩ := i64_at hu
      have hstep := hide (rev_step hz)
      have hi1 : (((k + 1 : Nat) : Int) - 1) = (k : Int) := by omega
      have hnk : n - (k + 1) + 1 = n - k := by omega
      rw [hi1]
      clear hu hz hi1
      go_wp2_with (first
        | (at_builtin; refine wpList_append_one rfl (.tmp 13) (.tmp 18) 36 rfl w.heap.size 3 i0 (.int .i64 0) 8 Tryz.underlying36 hi hz0 hz1 hz2 rfl w wr _ _ _ rfl hown (.int .i64 z) rfl rfl rfl (by omega) (by simp only [maxLen]; omega) hbw hbw.size ?_; intro v2 w2 hown2 hb2 hg2; clear hg2))
      rw [i64_snoc, ← unhide hstep, hnk] at hown2
      clear hown hbw hstep
      go_roundw
      case rel => exact ⟨k, by omega, by go_num, hb2, hown2⟩
      case measure => simp [intOf]
    | zero =>
      have hI : Ints wr w.heap.size u3 zs.reverse := by
        have h := hown
        rw [Nat.sub_zero, List.drop_zero, ← unhide HL] at h
        rw [← List.length_reverse] at h
        exact Ints.of_own h
      clear hown
      go_wp2
      go_ret
      exact GivesI.mk hI hbw
theorem strP_no {z : List Int} {k : Nat} {x : Int} (hz : z[k]? = some x) (h : x ≠ (k : Int) + 1) : strP z = false := by
  unfold strP
  rw [decide_eq_false_iff_not]
  intro e
  have hk := (List.getElem?_eq_some_iff.1 hz).1
  rw [e] at hz
  unfold upTo at hz
  rw [List.getElem?_map, List.getElem?_range hk] at hz
  exact h (Option.some.inj hz).symm
theorem strP_yes {z : List Int} (h : ∀ (k : Nat) (x : Int), k < z.length → z[k]? = some x → x = (k : Int) + 1) : strP z = true := by
  unfold strP
  refine decide_eq_true (List.ext_getElem? fun k => ?_)
  by_cases hk : k < z.length
  · have h1 : z[k]? = some z[k] := List.getElem?_eq_getElem hk
    rw [h1, h k _ hk h1]
    unfold upTo
    rw [List.getElem?_map, List.getElem?_range hk]
    rfl
  · rw [List.getElem?_eq_none (by omega), List.getElem?_eq_none (by rw [upTo_length]; omega)]
theorem lstr_any (A : Option Addr) (n c B : Nat) (z : List Int) (w : World) (h : Arg w B A n c z) :
    Calls Tryz.prog 31 #[.slice A n c] w fun e w' => e = .returned (.bool (strP z)) ∧ Drew w w' := by
  have hl := h.len
  have hr := h.reads
  have hn := h.le
  have HL := hide hl
  clear h hl
  go_enter Tryz.func31, Tryz.ntmps31
  go_wp2
  go_loopw [3] (fun i wr => ∃ k : Nat, k ≤ n ∧ i = .int .i64 k ∧ Drew w wr ∧ Hid (∀ (j : Nat) (x : Int), j < k → z[j]? = some x → x = (j : Int) + 1)) (fun i _ => n - (intOf i).toNat)
  case atStart => exact ⟨0, Nat.zero_le _, rfl, Drew.refl _, fun j x hj _ => by omega⟩
  case round =>
    obtain ⟨k, hk, rfl, hd, hno⟩ := hrel
    by_cases hlt : k < n
    · obtain ⟨ad, u, rfl, _, hx, hc⟩ := (hr.ofDrew hd).at_ hlt
      obtain ⟨s, hs, rfl⟩ := i64_at hx
      have q1 : IntKind.i64.wrap ((k : Int) + 1) = (k : Int) + 1 := by rw [IntKind.wrap_i64]; omega
      have HD := hide hd
      have HS := hide hs
      clear hx hs hr hd
      by_cases he : s = (k : Int) + 1
      · have HN := hide (show ∀ (j : Nat) (x : Int), j < k + 1 → z[j]? = some x → x = (j : Int) + 1 from fun j x hj hx => by
          by_cases hjk : j = k
          · subst hjk
            rw [unhide HS] at hx
            rw [← Option.some.inj hx]
            exact he
          · exact unhide hno j x (by omega) hx)
        subst he
        clear hno
        go_wp2
        try go_quiet (fail)
        go_wp2
        go_roundw
        case rel => first | exact ⟨k + 1, by omega, by go_num, (unhide HD).more _, HN⟩ | exact ⟨k + 1, by omega, by go_num, unhide HD, HN⟩
        case measure => simp [intOf]; omega
      · have HF := hide (strP_no (unhide HS) he)
        have he2 : (s == (k : Int) + 1) = false := by rw [beq_eq_false_iff_ne]; exact he
        clear hno he
        go_wp2
        try go_quiet (fail)
        go_wp2
        go_ret
        first | exact ⟨ret_bool (unhide HF).symm, (unhide HD).more _⟩ | exact ⟨ret_bool (unhide HF).symm, unhide HD⟩
    · obtain rfl : n = k := by omega
      have HT := hide (strP_yes (z := z) (fun j x hj hx => unhide hno j x (by rw [unhide HL] at hj; exact hj) hx))
      clear hno
      go_wp2
      go_ret
      exact ⟨ret_bool (unhide HT).symm, hd⟩
/-- A list of rows, two rows made since. -/
def Fresh2 (w : World) (B : Nat) (v : Value) (zss : List (List Int)) (u1 u2 : Value) : Prop := ∃ vs, w.ownsRow B 36 1 v zss.length vs ∧ Inner w B vs zss ∧ (∀ x ∈ vs, Away x u1) ∧ ∀ x ∈ vs, Away x u2
theorem IntsS.fresh2 {w0 w : World} {B cb : Nat} {v u1 u2 : Value} {zss : List (List Int)} {z1 z2 : List Int} (h : IntsS w0 B v zss) (hg : w0.grownBy w (some cb)) (hc : cb < B) (hu1 : Ints w w0.heap.size u1 z1) (hu2 : Ints w w0.heap.size u2 z2) : Fresh2 w B v zss u1 u2 := by
  obtain ⟨vs, h1, h2⟩ := h
  exact ⟨vs, own_drawn h1 hg hc, h2.drawn hg hc, h2.away_new hu1.since (Nat.le_refl _), h2.away_new hu2.since (Nat.le_refl _)⟩
theorem wpList_push_two {ops : Array Oper} {rest : List Oper} {o : Oper} {a : Act} {W : World} {Q : Exit → Act → World → Prop} (hgd : o.guard = none) (sl x : Operand)
    (ho : o.op = .call { callee := .builtin .append, args := #[sl, x], argTypes := #[24, 24] })
    (base : Nat) (wr : World) (v u1 u2 : Value) (zss : List (List Int)) (z1 z2 : List Int) (hs : a.eval sl = v) (hx : a.eval x = .slice (some ⟨wr.heap.size, 0, none⟩) 2 2) (hW : W = wr.alloc (.cells #[u1, u2] 36))
    (hS : Fresh2 wr base v zss u1 u2) (hu1 : Ints wr base u1 z1) (hu2 : Ints wr base u2 z2) (ha : Away u1 u2) (hn : zss.length ≤ 1048576) (hbase : base ≤ wr.heap.size)
    (K : ∀ v' w', IntsS w' base v' (zss ++ [z1, z2]) → Below base wr w' → wpList Tryz.prog ops Q rest (a.put o.dst v') w') : wpList Tryz.prog ops Q (o :: rest) a W := by
  subst hW
  obtain ⟨vs, h1, h2, h3, h4⟩ := hS
  have hal := (Below.refl wr.heap.size wr).alloc (Nat.le_refl _) (.cells #[u1, u2] 36)
  have h5 := own_below h1 hal
  have hr : Reads (wr.alloc (.cells #[u1, u2] 36)) (wr.alloc (.cells #[u1, u2] 36)).heap.size (some ⟨wr.heap.size, 0, none⟩) 2 [u1, u2] := ⟨rfl, fun _ => ⟨_, rfl, by simp, fun j y hy => by
    match j, hy with
    | 0, hy => simp at hy; subst hy; simp [Addr.add]
    | 1, hy => simp at hy; subst hy; simp [Addr.add]⟩⟩
  refine wpList_append_rows hgd sl x ho base _ zss.length 2 2 wr v (some ⟨wr.heap.size, 0, none⟩) vs [u1, u2] hs hx h5 hr (fun h => by cases h) (fun y hy => ?_) (by omega) (by omega) (hal.mono hbase) (by simp; omega) ?_
  · simp only [List.mem_cons, List.not_mem_nil, or_false] at hy
    rcases hy with rfl | rfl
    · obtain ⟨A9, c9, rfl⟩ := hu1.slice; rfl
    · obtain ⟨A9, c9, rfl⟩ := hu2.slice; rfl
  · intro v' w' o1 o2 o3 _
    have hk := (KeepI.of_below hal).trans (KeepI.of_grown h5 o3)
    have hI : Inner w' base [u1, u2] [z1, z2] := ((Inner.nil w' base).push (hu1.keepI hk) (fun y hy => by cases hy)).push (hu2.keepI hk) (fun y hy => by
      simp only [List.nil_append, List.mem_singleton] at hy
      subst hy
      exact ha)
    refine K v' w' ⟨vs ++ [u1, u2], by rw [List.length_append]; exact o1, (h2.keepI hk).join hI fun y hy z hz => ?_⟩ o2
    simp only [List.mem_cons, List.not_mem_nil, or_false] at hz
    rcases hz with rfl | rfl
    · exact h3 y hy
    · exact h4 y hy
set_option maxHeartbeats 1600000 in
theorem dfin_any (A : Option Addr) (n c B : Nat) (bs : List UInt8) (w : World) (hr : Reads w B A n (u8s bs)) (hn : n ≤ 1048576) (hB : B ≤ w.heap.size) :
    Calls Tryz.prog 14 #[.slice A n c] w (DrewSS w 9) := by
  have H1 := hide (new_any A n c B bs w hr hn hB)
  clear hr
  go_enter Tryz.func14, Tryz.ntmps14
  go_wp2_with fail
  refine (unhide H1).mono ?_
  rintro e w1 ⟨cb, rfl, hcb, hc1, hb1⟩
  have hS1 := Side.start hc1
  have hsz1 := hb1.size
  have hlt1 := hc1.lt
  have H2 := hide (l12bent_any B cb w1 hc1)
  clear H1 hc1
  go_wp2_with fail
  refine (unhide H2).mono ?_
  rintro e w2 ⟨A2, c2, a, rfl, han, hal, hIa, hc2, hg2⟩
  have hS2 := hS1.drawn hc2 hg2
  have HLa := hide hal
  have H3 := hide (once_any B cb 3 (by omega) w2 hc2)
  clear H2 hS1 hal hg2 hc2
  go_wp2_with fail
  refine (unhide H3).mono ?_
  rintro e w3 ⟨v, rfl, ⟨b1, rfl⟩, hc3, hg3⟩
  have hS3 := hS2.drawn hc3 hg3
  have hI3 := hIa.drawn hg3 hlt1
  clear H3 hS2 hIa hg3
  cases b1 with
  | false =>
    have hb3 := hS3.under hb1 hcb
    have HA := hide (hI3.low hsz1)
    clear hS3 hI3 hc3
    go_wp2
    go_ret
    exact DrewSS.mk (unhide HA) han (unhide HLa) hb3
  | true =>
    have H4 := hide (below_any B cb 3 (by omega) w3 hc3)
    have hsz3 := hS3.size
    clear hc3
    go_wp2_with fail
    refine (unhide H4).mono ?_
    rintro e w4 ⟨v, rfl, ⟨x, rfl, hx0, hx1⟩, hc4, hg4⟩
    rw [if_pos (by omega)] at hx1
    obtain ⟨p, rfl⟩ : ∃ p : Nat, x = p := ⟨x.toNat, by omega⟩
    have hp2 : p ≤ 2 := by omega
    have hS4 := hS3.drawn hc4 hg4
    have H5 := hide (by have h5 := sid_any (1 + (p : Int)) (by omega) w4; rw [idR_yes (by omega) (by omega), show (1 + (p : Int)).toNat = p + 1 by omega] at h5; exact h5 : Calls Tryz.prog 59 #[.int .i64 (1 + (p : Int))] w4 (GivesI w4 (upTo (p + 1))))
    have hgr4 := hg4
    clear H4 hx0 hx1 hc4 hg4 hS3
    go_wp2_with fail
    refine (unhide H5).mono ?_
    rintro e w5 ⟨A5, c5, rfl, o5, d5⟩
    have hS5 := hS4.below d5
    have hg5 : w3.grownBy w5 (some cb) := grown_then hgr4 (grown_of_below d5 _)
    have H6 := hide (below_any B cb 3 (by omega) w5 hS5.cur)
    have hsz4 : w3.heap.size ≤ w4.heap.size := hgr4.size
    clear H5 hS4 hgr4 d5
    go_wp2_with fail
    refine (unhide H6).mono ?_
    rintro e w6 ⟨v, rfl, ⟨y, rfl, hy0, hy1⟩, hc6, hg6⟩
    rw [if_pos (by omega)] at hy1
    obtain ⟨q, rfl⟩ : ∃ p : Nat, y = p := ⟨y.toNat, by omega⟩
    have hq2 : q ≤ 2 := by omega
    have hS6 := hS5.drawn hc6 hg6
    have o6 := o5.drawn hg6 (by have := hS5.lt; omega)
    have hg36 := grown_then hg5 hg6
    have H7 := hide (by have h5 := sid_any (1 + (q : Int)) (by omega) w6; rw [idR_yes (by omega) (by omega), show (1 + (q : Int)).toNat = q + 1 by omega] at h5; exact h5 : Calls Tryz.prog 59 #[.int .i64 (1 + (q : Int))] w6 (GivesI w6 (upTo (q + 1))))
    clear H6 hy0 hy1 hc6 hg6 hS5 o5 hg5
    go_wp2_with fail
    refine (unhide H7).mono ?_
    rintro e w7 ⟨A7, c7, rfl, o7, d7⟩
    have hS7 := hS6.below d7
    have o67 := o6.keepI (KeepI.of_below d7)
    have hg37 := grown_then hg36 (grown_of_below d7 _)
    have H8 := hide (l3rev_any A7 _ c7 _ (upTo (q + 1)) w7 (o7.argP (isP_upN (by omega))))
    have hu6 := o6.until_
    have hs67 := d7.size
    clear H7 hS6 o6 hg36 o7 d7
    go_wp2_with fail
    refine (unhide H8).mono ?_
    rintro e w8 ⟨A8, c8, rfl, o8, d8⟩
    replace o8 : Ints w8 w7.heap.size (.slice A8 (upTo (q + 1)).length c8) (upTo (q + 1)).reverse := by
      have h := o8
      rw [List.length_reverse] at h
      exact h
    rw [List.length_reverse]
    have hS8 := hS7.below d8
    have o68 := o67.keepI (KeepI.of_below d8)
    have hg38 := grown_then hg37 (grown_of_below d8 _)
    have hs37 : w3.heap.size ≤ w7.heap.size := hg37.size
    have hF := hI3.fresh2 hg38 hlt1 (o68.low hsz4) (o8.low hs37)
    have ha := apart hu6 o8.since hs67
    have hu1 := (o68.low hsz4).low hsz3
    have hu2 := (o8.low hs37).low hsz3
    have hsz8 := hS8.size
    have hlen : a.length ≤ 1048576 := by omega
    clear H8 hS7 o67 hg37 o68 o8 d8 hI3 hg38 hu6
    go_wp2_with (first
      | (at_builtin; refine wpList_push_two rfl (.tmp 14) (.tmp 24) rfl w1.heap.size w8 _ _ _ a (upTo (p + 1)) (upTo (q + 1)).reverse rfl rfl rfl hF hu1 hu2 ha hlen hsz8 ?_))
    intro v9 w9 hI9 hb9
    have hS9 := hS8.low hb9
    obtain ⟨A9, c9, rfl⟩ := hI9.slice
    have H9 := hide (smkb_any A9 _ c9 _ (a ++ [upTo (p + 1), (upTo (q + 1)).reverse]) w9 hI9 (by rw [List.length_append]; simp; omega) (fun z hz => by
      rcases List.mem_append.1 hz with hz | hz
      · exact lite_rows (unhide HLa) z hz
      · simp only [List.mem_cons, List.not_mem_nil, or_false] at hz
        rcases hz with rfl | rfl
        · exact lite_rows (L := [upTo (p + 1)]) (fun z hz => by rw [List.mem_singleton] at hz; subst hz; exact lite_P (isP_upN (by omega))) _ (by simp)
        · exact lite_rows (L := [(upTo (q + 1)).reverse]) (fun z hz => by rw [List.mem_singleton] at hz; subst hz; exact lite_P (isP_rev (isP_upN (by omega)))) _ (by simp)))
    have hR := hide (mkR_rows (a ++ [upTo (p + 1), (upTo (q + 1)).reverse]))
    obtain ⟨M, hM⟩ : ∃ M, M = a ++ [upTo (p + 1), (upTo (q + 1)).reverse] := ⟨_, rfl⟩
    rw [← hM] at H9 hR ⊢
    have hb90 := hS9.under hb1 hcb
    have hsz9 := hS9.size
    clear hF hu1 hu2 ha hS8 hb9 hI9 hS9 hM
    go_wp2_with fail
    refine (unhide H9).mono ?_
    rintro e w10 ⟨A10, c10, rfl, o10, d10⟩
    have hI10 := hide (o10.low (Nat.le_trans hsz1 hsz9))
    have hb10 := below_after hb90 d10
    clear H9 o10 d10 hb90
    go_wp2
    go_ret
    exact DrewSS.mk (unhide hI10) (by have := (unhide hR).1; omega) (fun z hz => lite_P ((unhide hR).2.2 z hz)) hb10
end Go.Proofs.YtoiipedomgefaaaGreatDoor


/-
  impl.FirstBeyond, SymmetryBasis, by their contracts (where the variable errNoBasis holds an error). (Written by wip/tools/mkmeeti.py.)
-/

namespace Go.Proofs.YtoiipedomgefaaaGreatDoor
set_option maxRecDepth 100000
open Go.RowKit

set_option maxHeartbeats 1600000 in
theorem ibey_any (A A' : Option Addr) (n c B n' c' B' : Nat) (a b : List (List Int)) (m : Int) (hm : -9223372036854775808 ≤ m ∧ m ≤ 9223372036854775807) (w : World) (hS : IntsS w B (.slice A n c) a) (hS' : IntsS w B' (.slice A' n' c') b) (hn : n ≤ 1048576) (hn' : n' ≤ 1048576) (hsm : ∀ z ∈ a, z.length ≤ 1048576 ∧ Small z) (hsm' : ∀ z ∈ b, z.length ≤ 1048576 ∧ Small z) (a0 : Addr) (hE : ErrAt a0 w) :
    Calls Tryz.prog 17 #[.slice A n c, .slice A' n' c', .int .i64 m] w (GivesIB w (beyR a b m) (beyOK a b m)) := by
  have HEE := hide (fun (w2 : World) (d : Below w.heap.size w w2) => (show w2.cell? ⟨0, 0, none⟩ = some (.iface 155 (.pointer (some a0))) from hE.below d))
  have d1 := below_after ((Below.refl w.heap.size w).alloc (Nat.le_refl _) (.cells #[.slice A n c, .slice A' n' c'] 24)) (below_drew _ _)
  have HC := hide (icheck_any w.heap.size 2 [a, b] a0 _ ((ListsAt.two (t := 24) hS hn hsm hS' hn' hsm').below (below_drew _ _)) rfl (by omega) (hE.below d1))
  have hE0 := unhide HEE _ (below_drew _ w)
  have hE1 := unhide HEE _ d1
  have hE9 := unhide HEE _ (Below.refl _ w)
  clear hE
  obtain ⟨ba, hba⟩ : ∃ x, basis a = x := ⟨_, rfl⟩
  obtain ⟨bb, hbb⟩ : ∃ x, basis b = x := ⟨_, rfl⟩
  obtain ⟨ok, hok⟩ : ∃ ok, (ba && bb) = ok := ⟨_, rfl⟩
  rw [show [a, b].all basis = ok by rw [← hok, ← hba, ← hbb]; simp] at HC
  cases ok with
  | false =>
    have HR := hide (bey_not (m := m) (bey_no (m := m) fun h => by rw [h.1] at hba; rw [h.2.1] at hbb; subst hba hbb; cases hok))
    rw [(unhide HR).1, (unhide HR).2]
    clear hS hS' hsm hsm' hba hbb hok
    go_enter Tryz.func17, Tryz.ntmps17
    go_wp2
    refine wp_region_held_drew (S := (fun wx => wx.cell? ⟨0, 0, none⟩ = some (.iface 155 (.pointer (some a0))))) (by kernel_rfl) ?_ (fun hHeld0 => ?_)
    · exact hE0
    refine wpAnyH_take (i := 0) (v := ?_) rfl (by kernel_rfl) (by kernel_rfl) (by kernel_rfl) (fun _ _ _ h => h) (Or.inl ⟨by rfl, ?_⟩) (by assumption) ?_
    rotate_left
    · intro w9 hSw
      (try dsimp only at hSw)
      go_simp
      all_goals with_reducible rfl
    simp only [Act.put, List.getElem_toArray, List.getElem_cons_zero, List.setIfInBounds_toArray, List.set_cons_zero, List.set_cons_succ]
    refine wpAnyH_take (i := 1) (v := ?_) rfl (by kernel_rfl) (by kernel_rfl) (by kernel_rfl) (fun _ _ _ h => h) (Or.inl ⟨by rfl, ?_⟩) (by assumption) ?_
    rotate_left
    · intro w9 hSw
      (try dsimp only at hSw)
      go_simp
      all_goals with_reducible rfl
    simp only [Act.put, List.getElem_toArray, List.getElem_cons_succ, List.getElem_cons_zero, List.setIfInBounds_toArray, List.set_cons_zero, List.set_cons_succ]
    refine wpAnyH_take (i := 4) (v := ?_) rfl (by kernel_rfl) (by kernel_rfl) (by kernel_rfl) (fun _ _ _ h => h) (Or.inl ⟨by rfl, ?_⟩) (by assumption) ?_
    rotate_left
    · intro w9 hSw
      (try dsimp only at hSw)
      go_simp
      all_goals with_reducible rfl
    simp only [Act.put, List.getElem_toArray, List.getElem_cons_succ, List.getElem_cons_zero, List.setIfInBounds_toArray, List.set_cons_zero, List.set_cons_succ]
    refine wpAnyH_ready (rs := [2]) (by kernel_rfl) (by simp) ?_
    refine AllReadyH.cons rfl (fun K hK => ?_) (AllReadyH.nil)
    go_simp
    refine hK.out _ _ ?_ (fun hHeld2 => ?_)
    · (try dsimp only)
      exact hE1
    clear hK K
    try simp only [Act.put, List.setIfInBounds_toArray, List.set_cons_zero, List.set_cons_succ]
    refine wpAnyH_ready (rs := [3]) (by kernel_rfl) (by simp) ?_
    refine AllReadyH.cons rfl (fun K hK => ?_) (AllReadyH.nil)
    go_simp
    go_at_call 41
    refine (unhide HC).mono ?_
    rintro e w4 ⟨rfl, d4⟩
    have hb4 := below_after d1 d4
    have hE4 := unhide HEE w4 hb4
    have H5 := hide (isSame_any a0 w4)
    clear HC d4
    refine hK.out _ _ ?_ (fun hHeld3 => ?_)
    · (try dsimp only)
      exact hE4
    clear hK K
    try simp only [Act.put, List.setIfInBounds_toArray, List.set_cons_zero, List.set_cons_succ]
    refine wpAnyH_ready (rs := [5]) (by kernel_rfl) (by simp) ?_
    refine AllReadyH.cons rfl (fun K hK => ?_) (AllReadyH.nil)
    go_simp
    go_at_call 40
    refine (unhide H5).mono ?_
    rintro e w5 ⟨rfl, hw5⟩
    replace hw5 := hw5.symm
    subst hw5
    refine hK.out _ _ ?_ (fun hHeld5 => ?_)
    · (try dsimp only)
      exact hE4
    clear hK K
    try simp only [Act.put, List.setIfInBounds_toArray, List.set_cons_zero, List.set_cons_succ]
    refine wpAnyH_take (i := 6) (v := ?_) rfl (by kernel_rfl) (by kernel_rfl) (by kernel_rfl) (fun _ _ _ h => h) (Or.inl ⟨by rfl, ?_⟩) (by assumption) ?_
    rotate_left
    · intro w9 hSw
      (try dsimp only at hSw)
      go_simp
      all_goals with_reducible rfl
    simp only [Act.put, List.getElem_toArray, List.getElem_cons_succ, List.getElem_cons_zero, List.setIfInBounds_toArray, List.set_cons_zero, List.set_cons_succ]
    refine wpAnyH_take (i := 7) (v := undef) rfl (by kernel_rfl) (by kernel_rfl) (by kernel_rfl) (fun _ _ _ h => h) (Or.inr ⟨by rfl, rfl⟩) (by assumption) ?_
    simp only [Act.put, List.getElem_toArray, List.getElem_cons_succ, List.getElem_cons_zero, List.setIfInBounds_toArray, List.set_cons_zero, List.set_cons_succ]
    refine wpAnyH_take (i := 8) (v := undef) rfl (by kernel_rfl) (by kernel_rfl) (by kernel_rfl) (fun _ _ _ h => h) (Or.inr ⟨by rfl, rfl⟩) (by assumption) ?_
    simp only [Act.put, List.getElem_toArray, List.getElem_cons_succ, List.getElem_cons_zero, List.setIfInBounds_toArray, List.set_cons_zero, List.set_cons_succ]
    refine wpAnyH_take (i := 9) (v := ?_) rfl (by kernel_rfl) (by kernel_rfl) (by kernel_rfl) (fun _ _ _ h => h) (Or.inl ⟨by rfl, ?_⟩) (by assumption) ?_
    rotate_left
    · intro w9 hSw
      (try dsimp only at hSw)
      go_simp
      all_goals with_reducible rfl
    simp only [Act.put, List.getElem_toArray, List.getElem_cons_succ, List.getElem_cons_zero, List.setIfInBounds_toArray, List.set_cons_zero, List.set_cons_succ]
    refine wpAnyH_take (i := 10) (v := ?_) rfl (by kernel_rfl) (by kernel_rfl) (by kernel_rfl) (fun _ _ _ h => h) (Or.inl ⟨by rfl, ?_⟩) (by assumption) ?_
    rotate_left
    · intro w9 hSw
      (try dsimp only at hSw)
      go_simp
      all_goals with_reducible rfl
    simp only [Act.put, List.getElem_toArray, List.getElem_cons_succ, List.getElem_cons_zero, List.setIfInBounds_toArray, List.set_cons_zero, List.set_cons_succ]
    refine wpAnyH_take (i := 11) (v := undef) rfl (by kernel_rfl) (by kernel_rfl) (by kernel_rfl) (fun _ _ _ h => h) (Or.inr ⟨by rfl, rfl⟩) (by assumption) ?_
    simp only [Act.put, List.getElem_toArray, List.getElem_cons_succ, List.getElem_cons_zero, List.setIfInBounds_toArray, List.set_cons_zero, List.set_cons_succ]
    refine wpAnyH_take (i := 12) (v := undef) rfl (by kernel_rfl) (by kernel_rfl) (by kernel_rfl) (fun _ _ _ h => h) (Or.inr ⟨by rfl, rfl⟩) (by assumption) ?_
    simp only [Act.put, List.getElem_toArray, List.getElem_cons_succ, List.getElem_cons_zero, List.setIfInBounds_toArray, List.set_cons_zero, List.set_cons_succ]
    refine wpAnyH_take (i := 13) (v := ?_) rfl (by kernel_rfl) (by kernel_rfl) (by kernel_rfl) (fun _ _ _ h => h) (Or.inl ⟨by rfl, ?_⟩) (by assumption) ?_
    rotate_left
    · intro w9 hSw
      (try dsimp only at hSw)
      go_simp
      all_goals with_reducible rfl
    simp only [Act.put, List.getElem_toArray, List.getElem_cons_succ, List.getElem_cons_zero, List.setIfInBounds_toArray, List.set_cons_zero, List.set_cons_succ]
    refine wpAnyH_done (by kernel_rfl) ?_ _
    clear hHeld0 hHeld2 hHeld3 hHeld5 hE0 hE1 hE9 hE4 HEE H5 d1
    go_wp2
    go_ret2
    exact GivesIB.mk (v := .slice none 0 0) false (Ints.nil _ _) hb4
  | true =>
    rw [Bool.and_eq_true] at hok
    rw [hok.1] at hba
    rw [hok.2] at hbb
    clear hok
    obtain ⟨hm1, hm2⟩ := hm
    by_cases hlo : m < 0
    · have HR := hide (bey_not (a := a) (b := b) (m := m) (bey_no (m := m) fun h => by omega))
      rw [(unhide HR).1, (unhide HR).2]
      clear hS hS' hsm hsm' hba hbb
      have hcl : decide (m < 0) = true := decide_eq_true hlo
      go_enter Tryz.func17, Tryz.ntmps17
      go_wp2
      refine wp_region_held_drew (S := (fun wx => wx.cell? ⟨0, 0, none⟩ = some (.iface 155 (.pointer (some a0))))) (by kernel_rfl) ?_ (fun hHeld0 => ?_)
      · exact hE0
      refine wpAnyH_take (i := 0) (v := ?_) rfl (by kernel_rfl) (by kernel_rfl) (by kernel_rfl) (fun _ _ _ h => h) (Or.inl ⟨by rfl, ?_⟩) (by assumption) ?_
      rotate_left
      · intro w9 hSw
        (try dsimp only at hSw)
        go_simp
        all_goals with_reducible rfl
      simp only [Act.put, List.getElem_toArray, List.getElem_cons_zero, List.setIfInBounds_toArray, List.set_cons_zero, List.set_cons_succ]
      refine wpAnyH_take (i := 1) (v := ?_) rfl (by kernel_rfl) (by kernel_rfl) (by kernel_rfl) (fun _ _ _ h => h) (Or.inl ⟨by rfl, ?_⟩) (by assumption) ?_
      rotate_left
      · intro w9 hSw
        (try dsimp only at hSw)
        go_simp
        all_goals with_reducible rfl
      simp only [Act.put, List.getElem_toArray, List.getElem_cons_succ, List.getElem_cons_zero, List.setIfInBounds_toArray, List.set_cons_zero, List.set_cons_succ]
      refine wpAnyH_take (i := 4) (v := ?_) rfl (by kernel_rfl) (by kernel_rfl) (by kernel_rfl) (fun _ _ _ h => h) (Or.inl ⟨by rfl, ?_⟩) (by assumption) ?_
      rotate_left
      · intro w9 hSw
        (try dsimp only at hSw)
        go_simp
        all_goals with_reducible rfl
      simp only [Act.put, List.getElem_toArray, List.getElem_cons_succ, List.getElem_cons_zero, List.setIfInBounds_toArray, List.set_cons_zero, List.set_cons_succ]
      refine wpAnyH_ready (rs := [2]) (by kernel_rfl) (by simp) ?_
      refine AllReadyH.cons rfl (fun K hK => ?_) (AllReadyH.nil)
      go_simp
      refine hK.out _ _ ?_ (fun hHeld2 => ?_)
      · (try dsimp only)
        exact hE1
      clear hK K
      try simp only [Act.put, List.setIfInBounds_toArray, List.set_cons_zero, List.set_cons_succ]
      refine wpAnyH_ready (rs := [3]) (by kernel_rfl) (by simp) ?_
      refine AllReadyH.cons rfl (fun K hK => ?_) (AllReadyH.nil)
      go_simp
      go_at_call 41
      refine (unhide HC).mono ?_
      rintro e w4 ⟨rfl, d4⟩
      have hb4 := below_after d1 d4
      have hE4 := unhide HEE w4 hb4
      have H5 := hide (isNil_any a0 w4)
      clear HC d4
      refine hK.out _ _ ?_ (fun hHeld3 => ?_)
      · (try dsimp only)
        exact hE4
      clear hK K
      try simp only [Act.put, List.setIfInBounds_toArray, List.set_cons_zero, List.set_cons_succ]
      refine wpAnyH_ready (rs := [5]) (by kernel_rfl) (by simp) ?_
      refine AllReadyH.cons rfl (fun K hK => ?_) (AllReadyH.nil)
      go_simp
      go_at_call 40
      refine (unhide H5).mono ?_
      rintro e w5 ⟨rfl, hw5⟩
      replace hw5 := hw5.symm
      subst hw5
      refine hK.out _ _ ?_ (fun hHeld5 => ?_)
      · (try dsimp only)
        exact hE4
      clear hK K
      try simp only [Act.put, List.setIfInBounds_toArray, List.set_cons_zero, List.set_cons_succ]
      refine wpAnyH_take (i := 6) (v := ?_) rfl (by kernel_rfl) (by kernel_rfl) (by kernel_rfl) (fun _ _ _ h => h) (Or.inl ⟨by rfl, ?_⟩) (by assumption) ?_
      rotate_left
      · intro w9 hSw
        (try dsimp only at hSw)
        go_simp
        all_goals with_reducible rfl
      simp only [Act.put, List.getElem_toArray, List.getElem_cons_succ, List.getElem_cons_zero, List.setIfInBounds_toArray, List.set_cons_zero, List.set_cons_succ]
      refine wpAnyH_take (i := 7) (v := ?_) rfl (by kernel_rfl) (by kernel_rfl) (by kernel_rfl) (fun _ _ _ h => h) (Or.inl ⟨by rfl, ?_⟩) (by assumption) ?_
      rotate_left
      · intro w9 hSw
        (try dsimp only at hSw)
        go_simp
        all_goals with_reducible rfl
      simp only [Act.put, List.getElem_toArray, List.getElem_cons_succ, List.getElem_cons_zero, List.setIfInBounds_toArray, List.set_cons_zero, List.set_cons_succ]
      refine wpAnyH_take (i := 8) (v := ?_) rfl (by kernel_rfl) (by kernel_rfl) (by kernel_rfl) (fun _ _ _ h => h) (Or.inl ⟨by rfl, ?_⟩) (by assumption) ?_
      rotate_left
      · intro w9 hSw
        (try dsimp only at hSw)
        go_simp
        all_goals with_reducible rfl
      simp only [Act.put, List.getElem_toArray, List.getElem_cons_succ, List.getElem_cons_zero, List.setIfInBounds_toArray, List.set_cons_zero, List.set_cons_succ]
      refine wpAnyH_take (i := 9) (v := ?_) rfl (by kernel_rfl) (by kernel_rfl) (by kernel_rfl) (fun _ _ _ h => h) (Or.inl ⟨by rfl, ?_⟩) (by assumption) ?_
      rotate_left
      · intro w9 hSw
        (try dsimp only at hSw)
        go_simp
        all_goals with_reducible rfl
      simp only [Act.put, List.getElem_toArray, List.getElem_cons_succ, List.getElem_cons_zero, List.setIfInBounds_toArray, List.set_cons_zero, List.set_cons_succ]
      refine wpAnyH_take (i := 10) (v := ?_) rfl (by kernel_rfl) (by kernel_rfl) (by kernel_rfl) (fun _ _ _ h => h) (Or.inl ⟨by rfl, ?_⟩) (by assumption) ?_
      rotate_left
      · intro w9 hSw
        (try dsimp only at hSw)
        go_simp
        all_goals with_reducible rfl
      simp only [Act.put, List.getElem_toArray, List.getElem_cons_succ, List.getElem_cons_zero, List.setIfInBounds_toArray, List.set_cons_zero, List.set_cons_succ]
      refine wpAnyH_take (i := 11) (v := undef) rfl (by kernel_rfl) (by kernel_rfl) (by kernel_rfl) (fun _ _ _ h => h) (Or.inr ⟨by rfl, rfl⟩) (by assumption) ?_
      simp only [Act.put, List.getElem_toArray, List.getElem_cons_succ, List.getElem_cons_zero, List.setIfInBounds_toArray, List.set_cons_zero, List.set_cons_succ]
      refine wpAnyH_take (i := 12) (v := undef) rfl (by kernel_rfl) (by kernel_rfl) (by kernel_rfl) (fun _ _ _ h => h) (Or.inr ⟨by rfl, rfl⟩) (by assumption) ?_
      simp only [Act.put, List.getElem_toArray, List.getElem_cons_succ, List.getElem_cons_zero, List.setIfInBounds_toArray, List.set_cons_zero, List.set_cons_succ]
      refine wpAnyH_take (i := 13) (v := ?_) rfl (by kernel_rfl) (by kernel_rfl) (by kernel_rfl) (fun _ _ _ h => h) (Or.inl ⟨by rfl, ?_⟩) (by assumption) ?_
      rotate_left
      · intro w9 hSw
        (try dsimp only at hSw)
        go_simp
        all_goals with_reducible rfl
      simp only [Act.put, List.getElem_toArray, List.getElem_cons_succ, List.getElem_cons_zero, List.setIfInBounds_toArray, List.set_cons_zero, List.set_cons_succ]
      refine wpAnyH_done (by kernel_rfl) ?_ _
      clear hHeld0 hHeld2 hHeld3 hHeld5 hE0 hE1 hE9 hE4 HEE H5 d1
      go_wp2
      go_ret2
      exact GivesIB.mk (v := .slice none 0 0) false (Ints.nil _ _) hb4
    · by_cases hhi : 6 < m
      · have HR := hide (bey_not (a := a) (b := b) (m := m) (bey_no (m := m) fun h => by omega))
        rw [(unhide HR).1, (unhide HR).2]
        clear hS hS' hsm hsm' hba hbb
        have hcl : decide (m < 0) = false := decide_eq_false hlo
        have hch : decide (6 < m) = true := decide_eq_true (by omega)
        go_enter Tryz.func17, Tryz.ntmps17
        go_wp2
        refine wp_region_held_drew (S := (fun wx => wx.cell? ⟨0, 0, none⟩ = some (.iface 155 (.pointer (some a0))))) (by kernel_rfl) ?_ (fun hHeld0 => ?_)
        · exact hE0
        refine wpAnyH_take (i := 0) (v := ?_) rfl (by kernel_rfl) (by kernel_rfl) (by kernel_rfl) (fun _ _ _ h => h) (Or.inl ⟨by rfl, ?_⟩) (by assumption) ?_
        rotate_left
        · intro w9 hSw
          (try dsimp only at hSw)
          go_simp
          all_goals with_reducible rfl
        simp only [Act.put, List.getElem_toArray, List.getElem_cons_zero, List.setIfInBounds_toArray, List.set_cons_zero, List.set_cons_succ]
        refine wpAnyH_take (i := 1) (v := ?_) rfl (by kernel_rfl) (by kernel_rfl) (by kernel_rfl) (fun _ _ _ h => h) (Or.inl ⟨by rfl, ?_⟩) (by assumption) ?_
        rotate_left
        · intro w9 hSw
          (try dsimp only at hSw)
          go_simp
          all_goals with_reducible rfl
        simp only [Act.put, List.getElem_toArray, List.getElem_cons_succ, List.getElem_cons_zero, List.setIfInBounds_toArray, List.set_cons_zero, List.set_cons_succ]
        refine wpAnyH_take (i := 4) (v := ?_) rfl (by kernel_rfl) (by kernel_rfl) (by kernel_rfl) (fun _ _ _ h => h) (Or.inl ⟨by rfl, ?_⟩) (by assumption) ?_
        rotate_left
        · intro w9 hSw
          (try dsimp only at hSw)
          go_simp
          all_goals with_reducible rfl
        simp only [Act.put, List.getElem_toArray, List.getElem_cons_succ, List.getElem_cons_zero, List.setIfInBounds_toArray, List.set_cons_zero, List.set_cons_succ]
        refine wpAnyH_ready (rs := [2]) (by kernel_rfl) (by simp) ?_
        refine AllReadyH.cons rfl (fun K hK => ?_) (AllReadyH.nil)
        go_simp
        refine hK.out _ _ ?_ (fun hHeld2 => ?_)
        · (try dsimp only)
          exact hE1
        clear hK K
        try simp only [Act.put, List.setIfInBounds_toArray, List.set_cons_zero, List.set_cons_succ]
        refine wpAnyH_ready (rs := [3]) (by kernel_rfl) (by simp) ?_
        refine AllReadyH.cons rfl (fun K hK => ?_) (AllReadyH.nil)
        go_simp
        go_at_call 41
        refine (unhide HC).mono ?_
        rintro e w4 ⟨rfl, d4⟩
        have hb4 := below_after d1 d4
        have hE4 := unhide HEE w4 hb4
        have H5 := hide (isNil_any a0 w4)
        clear HC d4
        refine hK.out _ _ ?_ (fun hHeld3 => ?_)
        · (try dsimp only)
          exact hE4
        clear hK K
        try simp only [Act.put, List.setIfInBounds_toArray, List.set_cons_zero, List.set_cons_succ]
        refine wpAnyH_ready (rs := [5]) (by kernel_rfl) (by simp) ?_
        refine AllReadyH.cons rfl (fun K hK => ?_) (AllReadyH.nil)
        go_simp
        go_at_call 40
        refine (unhide H5).mono ?_
        rintro e w5 ⟨rfl, hw5⟩
        replace hw5 := hw5.symm
        subst hw5
        refine hK.out _ _ ?_ (fun hHeld5 => ?_)
        · (try dsimp only)
          exact hE4
        clear hK K
        try simp only [Act.put, List.setIfInBounds_toArray, List.set_cons_zero, List.set_cons_succ]
        refine wpAnyH_take (i := 6) (v := ?_) rfl (by kernel_rfl) (by kernel_rfl) (by kernel_rfl) (fun _ _ _ h => h) (Or.inl ⟨by rfl, ?_⟩) (by assumption) ?_
        rotate_left
        · intro w9 hSw
          (try dsimp only at hSw)
          go_simp
          all_goals with_reducible rfl
        simp only [Act.put, List.getElem_toArray, List.getElem_cons_succ, List.getElem_cons_zero, List.setIfInBounds_toArray, List.set_cons_zero, List.set_cons_succ]
        refine wpAnyH_take (i := 7) (v := ?_) rfl (by kernel_rfl) (by kernel_rfl) (by kernel_rfl) (fun _ _ _ h => h) (Or.inl ⟨by rfl, ?_⟩) (by assumption) ?_
        rotate_left
        · intro w9 hSw
          (try dsimp only at hSw)
          go_simp
          all_goals with_reducible rfl
        simp only [Act.put, List.getElem_toArray, List.getElem_cons_succ, List.getElem_cons_zero, List.setIfInBounds_toArray, List.set_cons_zero, List.set_cons_succ]
        refine wpAnyH_take (i := 8) (v := ?_) rfl (by kernel_rfl) (by kernel_rfl) (by kernel_rfl) (fun _ _ _ h => h) (Or.inl ⟨by rfl, ?_⟩) (by assumption) ?_
        rotate_left
        · intro w9 hSw
          (try dsimp only at hSw)
          go_simp
          all_goals with_reducible rfl
        simp only [Act.put, List.getElem_toArray, List.getElem_cons_succ, List.getElem_cons_zero, List.setIfInBounds_toArray, List.set_cons_zero, List.set_cons_succ]
        refine wpAnyH_take (i := 9) (v := ?_) rfl (by kernel_rfl) (by kernel_rfl) (by kernel_rfl) (fun _ _ _ h => h) (Or.inl ⟨by rfl, ?_⟩) (by assumption) ?_
        rotate_left
        · intro w9 hSw
          (try dsimp only at hSw)
          go_simp
          all_goals with_reducible rfl
        simp only [Act.put, List.getElem_toArray, List.getElem_cons_succ, List.getElem_cons_zero, List.setIfInBounds_toArray, List.set_cons_zero, List.set_cons_succ]
        refine wpAnyH_take (i := 10) (v := ?_) rfl (by kernel_rfl) (by kernel_rfl) (by kernel_rfl) (fun _ _ _ h => h) (Or.inl ⟨by rfl, ?_⟩) (by assumption) ?_
        rotate_left
        · intro w9 hSw
          (try dsimp only at hSw)
          go_simp
          all_goals with_reducible rfl
        simp only [Act.put, List.getElem_toArray, List.getElem_cons_succ, List.getElem_cons_zero, List.setIfInBounds_toArray, List.set_cons_zero, List.set_cons_succ]
        refine wpAnyH_take (i := 11) (v := ?_) rfl (by kernel_rfl) (by kernel_rfl) (by kernel_rfl) (fun _ _ _ h => h) (Or.inl ⟨by rfl, ?_⟩) (by assumption) ?_
        rotate_left
        · intro w9 hSw
          (try dsimp only at hSw)
          go_simp
          all_goals with_reducible rfl
        simp only [Act.put, List.getElem_toArray, List.getElem_cons_succ, List.getElem_cons_zero, List.setIfInBounds_toArray, List.set_cons_zero, List.set_cons_succ]
        refine wpAnyH_take (i := 12) (v := ?_) rfl (by kernel_rfl) (by kernel_rfl) (by kernel_rfl) (fun _ _ _ h => h) (Or.inl ⟨by rfl, ?_⟩) (by assumption) ?_
        rotate_left
        · intro w9 hSw
          (try dsimp only at hSw)
          go_simp
          all_goals with_reducible rfl
        simp only [Act.put, List.getElem_toArray, List.getElem_cons_succ, List.getElem_cons_zero, List.setIfInBounds_toArray, List.set_cons_zero, List.set_cons_succ]
        refine wpAnyH_take (i := 13) (v := ?_) rfl (by kernel_rfl) (by kernel_rfl) (by kernel_rfl) (fun _ _ _ h => h) (Or.inl ⟨by rfl, ?_⟩) (by assumption) ?_
        rotate_left
        · intro w9 hSw
          (try dsimp only at hSw)
          go_simp
          all_goals with_reducible rfl
        simp only [Act.put, List.getElem_toArray, List.getElem_cons_succ, List.getElem_cons_zero, List.setIfInBounds_toArray, List.set_cons_zero, List.set_cons_succ]
        refine wpAnyH_done (by kernel_rfl) ?_ _
        clear hHeld0 hHeld2 hHeld3 hHeld5 hE0 hE1 hE9 hE4 HEE H5 d1
        go_wp2
        go_ret2
        exact GivesIB.mk (v := .slice none 0 0) false (Ints.nil _ _) hb4
      · obtain ⟨k, rfl⟩ : ∃ k : Nat, m = (k : Int) := ⟨m.toNat, by omega⟩
        have hk6 : k ≤ 6 := by omega
        have HIB := hide (fun (w4 : World) (d : Below w.heap.size w w4) => iib_any A A' n c B n' c' B' a b w4 (hS.below d) (hS'.below d) hba hbb)
        have HAT := hide (fun (w4 : World) (d : Below w.heap.size w w4) => (hS'.below d))
        have HN0 := hide (fun (h : ∀ q ∈ b, avo a q = false) => bey_not (bey_none_at hba hbb hk6 h))
        have HN1 := hide (fun (i : Nat) (z : List Int) (hz : b[i]? = some z) (hno : ∀ y ∈ b.take i, avo a y = false) (hl : k < z.length) => bey_not (bey_long hba hbb hk6 hz hno hl))
        have HY := hide (fun (i : Nat) (z : List Int) (hz : b[i]? = some z) (hza : avo a z = true) (hno : ∀ y ∈ b.take i, avo a y = false) (hl : z.length ≤ k) => bey_is (bey_at hba hbb hk6 hz hza hno hl))
        have HPP := hide (fun (z : List Int) (hz : z ∈ b) => (basis_isP hbb z hz).1)
        have HL := hide hS'.len
        clear hS hS' hba hbb hsm hsm' hm1 hm2
        go_enter Tryz.func17, Tryz.ntmps17
        go_wp2
        go_region_held3 (fun wx => wx.cell? ⟨0, 0, none⟩ = some (.iface 155 (.pointer (some a0)))) (first | with_reducible exact hE9 | with_reducible exact hE0 | with_reducible exact hE1 | with_reducible exact hE4)
          (first
            | (go_simp; go_at_call 41; refine (unhide HC).mono ?_; rintro e w4 ⟨rfl, d4⟩; have hb4 := below_after d1 d4; have hE4 := unhide HEE w4 hb4; have H5 := hide (isNil_any a0 w4); clear HC d4)
            | (go_simp; go_at_call 40; refine (unhide H5).mono ?_; rintro e w5 ⟨rfl, hw5⟩; replace hw5 := hw5.symm; subst hw5))
        have H6 := hide (unhide HIB w4 hb4)
        clear HIB HEE hE0 hE1 hE9 hE4 H5 d1
        go_wp2_with fail
        refine (unhide H6).mono ?_
        rintro e w6 ⟨x, rfl, hx, d6⟩
        have hb6 := below_after hb4 d6
        clear H6 d6 hb4
        rcases hx with ⟨rfl, h⟩ | ⟨i, z, rfl, hz, hf, hno⟩
        · have HR := hide (unhide HN0 h)
          clear h
          go_wp2
          go_ret2
          rw [(unhide HR).1, (unhide HR).2]
          exact GivesIB.mk (v := .slice none 0 0) false (Ints.nil _ _) hb6
        · have hi : i < n' := by
            have := (List.getElem?_eq_some_iff.1 hz).1
            rw [unhide HL] at this
            exact this
          obtain ⟨ad, A9, c9, z9, rfl, hz9, hcell, hI⟩ := (unhide HAT w6 hb6).at_ hi
          obtain rfl : z9 = z := Option.some.inj (hz9.symm.trans hz)
          have hzp := unhide HPP z9 (List.mem_of_getElem? hz)
          by_cases hlen : k < z9.length
          · have HR := hide (unhide HN1 i z9 hz hno hlen)
            obtain ⟨lz, hlz⟩ : ∃ l, l = z9.length := ⟨_, rfl⟩
            rw [← hlz] at hcell hlen
            have hlen' : (k : Int) < (lz : Int) := by omega
            clear hz hz9 hI hzp hf hno hlz
            go_wp2
            go_ret2
            rw [(unhide HR).1, (unhide HR).2]
            exact GivesIB.mk (v := .slice none 0 0) false (Ints.nil _ _) hb6
          · have HR := hide (unhide HY i z9 hz hf hno (by omega))
            have H7 := hide (clone_any A9 z9.length c9 _ z9 w6 (hI.argP hzp))
            obtain ⟨lz, hlz⟩ : ∃ l, l = z9.length := ⟨_, rfl⟩
            rw [← hlz] at hcell hlen H7
            have hlen' : ¬ (k : Int) < (lz : Int) := by omega
            have HLZ := hide hlz
            clear hz hz9 hI hzp hf hno hlz
            go_wp2_with fail
            refine (unhide H7).mono ?_
            rintro e w7 ⟨A7, c7, rfl, o7, d7⟩
            have HI := hide (o7.low hb6.size)
            have hb7 := below_after hb6 d7
            clear H7 o7 d7 hb6 hcell
            go_wp2
            go_ret2
            rw [(unhide HR).1, (unhide HR).2]
            exact GivesIB.mk true (unhide HI) hb7
set_option maxHeartbeats 1600000 in
theorem isymb_any (A : Option Addr) (n c B : Nat) (a : List (List Int)) (m : Int) (hm : -9223372036854775808 ≤ m ∧ m ≤ 9223372036854775807) (w : World) (hS : IntsS w B (.slice A n c) a) (hn : n ≤ 1048576) (hsm : ∀ z ∈ a, z.length ≤ 1048576 ∧ Small z) (a0 : Addr) (hE : ErrAt a0 w) :
    Calls Tryz.prog 12 #[.slice A n c, .int .i64 m] w (GivesSSB w (symBR a m) (symBOK a m)) := by
  have HEE := hide (fun (w2 : World) (d : Below w.heap.size w w2) => (show w2.cell? ⟨0, 0, none⟩ = some (.iface 155 (.pointer (some a0))) from hE.below d))
  have d1 := below_after ((Below.refl w.heap.size w).alloc (Nat.le_refl _) (.cells #[.slice A n c] 24)) (below_drew _ _)
  have HC := hide (icheck_any w.heap.size 1 [a] a0 _ ((ListsAt.one (t := 24) hS hn hsm).below (below_drew _ _)) rfl (by omega) (hE.below d1))
  have hE0 := unhide HEE _ (below_drew _ w)
  have hE1 := unhide HEE _ d1
  have hE9 := unhide HEE _ (Below.refl _ w)
  clear hE
  obtain ⟨ba, hba⟩ : ∃ x, basis a = x := ⟨_, rfl⟩
  rw [show [a].all basis = ba by rw [← hba]; simp] at HC
  cases ba with
  | false =>
    have HR := hide (show symBOK a m = false by unfold symBOK; rw [hba]; rfl)
    rw [symBR_no (unhide HR), unhide HR]
    clear hS hsm hba
    go_enter Tryz.func12, Tryz.ntmps12
    go_wp2
    refine wp_region_held_drew (S := (fun wx => wx.cell? ⟨0, 0, none⟩ = some (.iface 155 (.pointer (some a0))))) (by kernel_rfl) ?_ (fun hHeld0 => ?_)
    · exact hE0
    refine wpAnyH_take (i := 0) (v := ?_) rfl (by kernel_rfl) (by kernel_rfl) (by kernel_rfl) (fun _ _ _ h => h) (Or.inl ⟨by rfl, ?_⟩) (by assumption) ?_
    rotate_left
    · intro w9 hSw
      (try dsimp only at hSw)
      go_simp
      all_goals with_reducible rfl
    simp only [Act.put, List.getElem_toArray, List.getElem_cons_zero, List.setIfInBounds_toArray, List.set_cons_zero, List.set_cons_succ]
    refine wpAnyH_take (i := 3) (v := ?_) rfl (by kernel_rfl) (by kernel_rfl) (by kernel_rfl) (fun _ _ _ h => h) (Or.inl ⟨by rfl, ?_⟩) (by assumption) ?_
    rotate_left
    · intro w9 hSw
      (try dsimp only at hSw)
      go_simp
      all_goals with_reducible rfl
    simp only [Act.put, List.getElem_toArray, List.getElem_cons_succ, List.getElem_cons_zero, List.setIfInBounds_toArray, List.set_cons_zero, List.set_cons_succ]
    refine wpAnyH_ready (rs := [1]) (by kernel_rfl) (by simp) ?_
    refine AllReadyH.cons rfl (fun K hK => ?_) (AllReadyH.nil)
    go_simp
    refine hK.out _ _ ?_ (fun hHeld1 => ?_)
    · (try dsimp only)
      exact hE1
    clear hK K
    try simp only [Act.put, List.setIfInBounds_toArray, List.set_cons_zero, List.set_cons_succ]
    refine wpAnyH_ready (rs := [2]) (by kernel_rfl) (by simp) ?_
    refine AllReadyH.cons rfl (fun K hK => ?_) (AllReadyH.nil)
    go_simp
    go_at_call 41
    refine (unhide HC).mono ?_
    rintro e w4 ⟨rfl, d4⟩
    have hb4 := below_after d1 d4
    have hE4 := unhide HEE w4 hb4
    have H5 := hide (isSame_any a0 w4)
    clear HC d4
    refine hK.out _ _ ?_ (fun hHeld2 => ?_)
    · (try dsimp only)
      exact hE4
    clear hK K
    try simp only [Act.put, List.setIfInBounds_toArray, List.set_cons_zero, List.set_cons_succ]
    refine wpAnyH_ready (rs := [4]) (by kernel_rfl) (by simp) ?_
    refine AllReadyH.cons rfl (fun K hK => ?_) (AllReadyH.nil)
    go_simp
    go_at_call 40
    refine (unhide H5).mono ?_
    rintro e w5 ⟨rfl, hw5⟩
    replace hw5 := hw5.symm
    subst hw5
    refine hK.out _ _ ?_ (fun hHeld4 => ?_)
    · (try dsimp only)
      exact hE4
    clear hK K
    try simp only [Act.put, List.setIfInBounds_toArray, List.set_cons_zero, List.set_cons_succ]
    refine wpAnyH_take (i := 5) (v := ?_) rfl (by kernel_rfl) (by kernel_rfl) (by kernel_rfl) (fun _ _ _ h => h) (Or.inl ⟨by rfl, ?_⟩) (by assumption) ?_
    rotate_left
    · intro w9 hSw
      (try dsimp only at hSw)
      go_simp
      all_goals with_reducible rfl
    simp only [Act.put, List.getElem_toArray, List.getElem_cons_succ, List.getElem_cons_zero, List.setIfInBounds_toArray, List.set_cons_zero, List.set_cons_succ]
    refine wpAnyH_take (i := 6) (v := undef) rfl (by kernel_rfl) (by kernel_rfl) (by kernel_rfl) (fun _ _ _ h => h) (Or.inr ⟨by rfl, rfl⟩) (by assumption) ?_
    simp only [Act.put, List.getElem_toArray, List.getElem_cons_succ, List.getElem_cons_zero, List.setIfInBounds_toArray, List.set_cons_zero, List.set_cons_succ]
    refine wpAnyH_take (i := 7) (v := undef) rfl (by kernel_rfl) (by kernel_rfl) (by kernel_rfl) (fun _ _ _ h => h) (Or.inr ⟨by rfl, rfl⟩) (by assumption) ?_
    simp only [Act.put, List.getElem_toArray, List.getElem_cons_succ, List.getElem_cons_zero, List.setIfInBounds_toArray, List.set_cons_zero, List.set_cons_succ]
    refine wpAnyH_take (i := 8) (v := ?_) rfl (by kernel_rfl) (by kernel_rfl) (by kernel_rfl) (fun _ _ _ h => h) (Or.inl ⟨by rfl, ?_⟩) (by assumption) ?_
    rotate_left
    · intro w9 hSw
      (try dsimp only at hSw)
      go_simp
      all_goals with_reducible rfl
    simp only [Act.put, List.getElem_toArray, List.getElem_cons_succ, List.getElem_cons_zero, List.setIfInBounds_toArray, List.set_cons_zero, List.set_cons_succ]
    refine wpAnyH_take (i := 9) (v := ?_) rfl (by kernel_rfl) (by kernel_rfl) (by kernel_rfl) (fun _ _ _ h => h) (Or.inl ⟨by rfl, ?_⟩) (by assumption) ?_
    rotate_left
    · intro w9 hSw
      (try dsimp only at hSw)
      go_simp
      all_goals with_reducible rfl
    simp only [Act.put, List.getElem_toArray, List.getElem_cons_succ, List.getElem_cons_zero, List.setIfInBounds_toArray, List.set_cons_zero, List.set_cons_succ]
    refine wpAnyH_take (i := 10) (v := undef) rfl (by kernel_rfl) (by kernel_rfl) (by kernel_rfl) (fun _ _ _ h => h) (Or.inr ⟨by rfl, rfl⟩) (by assumption) ?_
    simp only [Act.put, List.getElem_toArray, List.getElem_cons_succ, List.getElem_cons_zero, List.setIfInBounds_toArray, List.set_cons_zero, List.set_cons_succ]
    refine wpAnyH_take (i := 11) (v := undef) rfl (by kernel_rfl) (by kernel_rfl) (by kernel_rfl) (fun _ _ _ h => h) (Or.inr ⟨by rfl, rfl⟩) (by assumption) ?_
    simp only [Act.put, List.getElem_toArray, List.getElem_cons_succ, List.getElem_cons_zero, List.setIfInBounds_toArray, List.set_cons_zero, List.set_cons_succ]
    refine wpAnyH_take (i := 12) (v := ?_) rfl (by kernel_rfl) (by kernel_rfl) (by kernel_rfl) (fun _ _ _ h => h) (Or.inl ⟨by rfl, ?_⟩) (by assumption) ?_
    rotate_left
    · intro w9 hSw
      (try dsimp only at hSw)
      go_simp
      all_goals with_reducible rfl
    simp only [Act.put, List.getElem_toArray, List.getElem_cons_succ, List.getElem_cons_zero, List.setIfInBounds_toArray, List.set_cons_zero, List.set_cons_succ]
    refine wpAnyH_done (by kernel_rfl) ?_ _
    clear hHeld0 hHeld1 hHeld2 hHeld4 hE0 hE1 hE9 hE4 HEE H5 d1
    go_wp2
    go_ret2
    exact GivesSSB.mk false (IntsS.nil _ _) hb4
  | true =>
    obtain ⟨hm1, hm2⟩ := hm
    by_cases hlo : m < 0
    · have HR := hide (show symBOK a m = false by unfold symBOK; rw [hba, decide_eq_false (by omega)]; rfl)
      rw [symBR_no (unhide HR), unhide HR]
      clear hS hsm hba
      have hcl : decide (m < 0) = true := decide_eq_true hlo
      go_enter Tryz.func12, Tryz.ntmps12
      go_wp2
      refine wp_region_held_drew (S := (fun wx => wx.cell? ⟨0, 0, none⟩ = some (.iface 155 (.pointer (some a0))))) (by kernel_rfl) ?_ (fun hHeld0 => ?_)
      · exact hE0
      refine wpAnyH_take (i := 0) (v := ?_) rfl (by kernel_rfl) (by kernel_rfl) (by kernel_rfl) (fun _ _ _ h => h) (Or.inl ⟨by rfl, ?_⟩) (by assumption) ?_
      rotate_left
      · intro w9 hSw
        (try dsimp only at hSw)
        go_simp
        all_goals with_reducible rfl
      simp only [Act.put, List.getElem_toArray, List.getElem_cons_zero, List.setIfInBounds_toArray, List.set_cons_zero, List.set_cons_succ]
      refine wpAnyH_take (i := 3) (v := ?_) rfl (by kernel_rfl) (by kernel_rfl) (by kernel_rfl) (fun _ _ _ h => h) (Or.inl ⟨by rfl, ?_⟩) (by assumption) ?_
      rotate_left
      · intro w9 hSw
        (try dsimp only at hSw)
        go_simp
        all_goals with_reducible rfl
      simp only [Act.put, List.getElem_toArray, List.getElem_cons_succ, List.getElem_cons_zero, List.setIfInBounds_toArray, List.set_cons_zero, List.set_cons_succ]
      refine wpAnyH_ready (rs := [1]) (by kernel_rfl) (by simp) ?_
      refine AllReadyH.cons rfl (fun K hK => ?_) (AllReadyH.nil)
      go_simp
      refine hK.out _ _ ?_ (fun hHeld1 => ?_)
      · (try dsimp only)
        exact hE1
      clear hK K
      try simp only [Act.put, List.setIfInBounds_toArray, List.set_cons_zero, List.set_cons_succ]
      refine wpAnyH_ready (rs := [2]) (by kernel_rfl) (by simp) ?_
      refine AllReadyH.cons rfl (fun K hK => ?_) (AllReadyH.nil)
      go_simp
      go_at_call 41
      refine (unhide HC).mono ?_
      rintro e w4 ⟨rfl, d4⟩
      have hb4 := below_after d1 d4
      have hE4 := unhide HEE w4 hb4
      have H5 := hide (isNil_any a0 w4)
      clear HC d4
      refine hK.out _ _ ?_ (fun hHeld2 => ?_)
      · (try dsimp only)
        exact hE4
      clear hK K
      try simp only [Act.put, List.setIfInBounds_toArray, List.set_cons_zero, List.set_cons_succ]
      refine wpAnyH_ready (rs := [4]) (by kernel_rfl) (by simp) ?_
      refine AllReadyH.cons rfl (fun K hK => ?_) (AllReadyH.nil)
      go_simp
      go_at_call 40
      refine (unhide H5).mono ?_
      rintro e w5 ⟨rfl, hw5⟩
      replace hw5 := hw5.symm
      subst hw5
      refine hK.out _ _ ?_ (fun hHeld4 => ?_)
      · (try dsimp only)
        exact hE4
      clear hK K
      try simp only [Act.put, List.setIfInBounds_toArray, List.set_cons_zero, List.set_cons_succ]
      refine wpAnyH_take (i := 5) (v := ?_) rfl (by kernel_rfl) (by kernel_rfl) (by kernel_rfl) (fun _ _ _ h => h) (Or.inl ⟨by rfl, ?_⟩) (by assumption) ?_
      rotate_left
      · intro w9 hSw
        (try dsimp only at hSw)
        go_simp
        all_goals with_reducible rfl
      simp only [Act.put, List.getElem_toArray, List.getElem_cons_succ, List.getElem_cons_zero, List.setIfInBounds_toArray, List.set_cons_zero, List.set_cons_succ]
      refine wpAnyH_take (i := 6) (v := ?_) rfl (by kernel_rfl) (by kernel_rfl) (by kernel_rfl) (fun _ _ _ h => h) (Or.inl ⟨by rfl, ?_⟩) (by assumption) ?_
      rotate_left
      · intro w9 hSw
        (try dsimp only at hSw)
        go_simp
        all_goals with_reducible rfl
      simp only [Act.put, List.getElem_toArray, List.getElem_cons_succ, List.getElem_cons_zero, List.setIfInBounds_toArray, List.set_cons_zero, List.set_cons_succ]
      refine wpAnyH_take (i := 7) (v := ?_) rfl (by kernel_rfl) (by kernel_rfl) (by kernel_rfl) (fun _ _ _ h => h) (Or.inl ⟨by rfl, ?_⟩) (by assumption) ?_
      rotate_left
      · intro w9 hSw
        (try dsimp only at hSw)
        go_simp
        all_goals with_reducible rfl
      simp only [Act.put, List.getElem_toArray, List.getElem_cons_succ, List.getElem_cons_zero, List.setIfInBounds_toArray, List.set_cons_zero, List.set_cons_succ]
      refine wpAnyH_take (i := 8) (v := ?_) rfl (by kernel_rfl) (by kernel_rfl) (by kernel_rfl) (fun _ _ _ h => h) (Or.inl ⟨by rfl, ?_⟩) (by assumption) ?_
      rotate_left
      · intro w9 hSw
        (try dsimp only at hSw)
        go_simp
        all_goals with_reducible rfl
      simp only [Act.put, List.getElem_toArray, List.getElem_cons_succ, List.getElem_cons_zero, List.setIfInBounds_toArray, List.set_cons_zero, List.set_cons_succ]
      refine wpAnyH_take (i := 9) (v := ?_) rfl (by kernel_rfl) (by kernel_rfl) (by kernel_rfl) (fun _ _ _ h => h) (Or.inl ⟨by rfl, ?_⟩) (by assumption) ?_
      rotate_left
      · intro w9 hSw
        (try dsimp only at hSw)
        go_simp
        all_goals with_reducible rfl
      simp only [Act.put, List.getElem_toArray, List.getElem_cons_succ, List.getElem_cons_zero, List.setIfInBounds_toArray, List.set_cons_zero, List.set_cons_succ]
      refine wpAnyH_take (i := 10) (v := undef) rfl (by kernel_rfl) (by kernel_rfl) (by kernel_rfl) (fun _ _ _ h => h) (Or.inr ⟨by rfl, rfl⟩) (by assumption) ?_
      simp only [Act.put, List.getElem_toArray, List.getElem_cons_succ, List.getElem_cons_zero, List.setIfInBounds_toArray, List.set_cons_zero, List.set_cons_succ]
      refine wpAnyH_take (i := 11) (v := undef) rfl (by kernel_rfl) (by kernel_rfl) (by kernel_rfl) (fun _ _ _ h => h) (Or.inr ⟨by rfl, rfl⟩) (by assumption) ?_
      simp only [Act.put, List.getElem_toArray, List.getElem_cons_succ, List.getElem_cons_zero, List.setIfInBounds_toArray, List.set_cons_zero, List.set_cons_succ]
      refine wpAnyH_take (i := 12) (v := ?_) rfl (by kernel_rfl) (by kernel_rfl) (by kernel_rfl) (fun _ _ _ h => h) (Or.inl ⟨by rfl, ?_⟩) (by assumption) ?_
      rotate_left
      · intro w9 hSw
        (try dsimp only at hSw)
        go_simp
        all_goals with_reducible rfl
      simp only [Act.put, List.getElem_toArray, List.getElem_cons_succ, List.getElem_cons_zero, List.setIfInBounds_toArray, List.set_cons_zero, List.set_cons_succ]
      refine wpAnyH_done (by kernel_rfl) ?_ _
      clear hHeld0 hHeld1 hHeld2 hHeld4 hE0 hE1 hE9 hE4 HEE H5 d1
      go_wp2
      go_ret2
      exact GivesSSB.mk false (IntsS.nil _ _) hb4
    · by_cases hhi : 7 < m
      · have HR := hide (show symBOK a m = false by unfold symBOK; rw [hba, decide_eq_false (by omega)]; rfl)
        rw [symBR_no (unhide HR), unhide HR]
        clear hS hsm hba
        have hcl : decide (m < 0) = false := decide_eq_false hlo
        have hch : decide (8 ≤ m) = true := decide_eq_true (by omega)
        go_enter Tryz.func12, Tryz.ntmps12
        go_wp2
        refine wp_region_held_drew (S := (fun wx => wx.cell? ⟨0, 0, none⟩ = some (.iface 155 (.pointer (some a0))))) (by kernel_rfl) ?_ (fun hHeld0 => ?_)
        · exact hE0
        refine wpAnyH_take (i := 0) (v := ?_) rfl (by kernel_rfl) (by kernel_rfl) (by kernel_rfl) (fun _ _ _ h => h) (Or.inl ⟨by rfl, ?_⟩) (by assumption) ?_
        rotate_left
        · intro w9 hSw
          (try dsimp only at hSw)
          go_simp
          all_goals with_reducible rfl
        simp only [Act.put, List.getElem_toArray, List.getElem_cons_zero, List.setIfInBounds_toArray, List.set_cons_zero, List.set_cons_succ]
        refine wpAnyH_take (i := 3) (v := ?_) rfl (by kernel_rfl) (by kernel_rfl) (by kernel_rfl) (fun _ _ _ h => h) (Or.inl ⟨by rfl, ?_⟩) (by assumption) ?_
        rotate_left
        · intro w9 hSw
          (try dsimp only at hSw)
          go_simp
          all_goals with_reducible rfl
        simp only [Act.put, List.getElem_toArray, List.getElem_cons_succ, List.getElem_cons_zero, List.setIfInBounds_toArray, List.set_cons_zero, List.set_cons_succ]
        refine wpAnyH_ready (rs := [1]) (by kernel_rfl) (by simp) ?_
        refine AllReadyH.cons rfl (fun K hK => ?_) (AllReadyH.nil)
        go_simp
        refine hK.out _ _ ?_ (fun hHeld1 => ?_)
        · (try dsimp only)
          exact hE1
        clear hK K
        try simp only [Act.put, List.setIfInBounds_toArray, List.set_cons_zero, List.set_cons_succ]
        refine wpAnyH_ready (rs := [2]) (by kernel_rfl) (by simp) ?_
        refine AllReadyH.cons rfl (fun K hK => ?_) (AllReadyH.nil)
        go_simp
        go_at_call 41
        refine (unhide HC).mono ?_
        rintro e w4 ⟨rfl, d4⟩
        have hb4 := below_after d1 d4
        have hE4 := unhide HEE w4 hb4
        have H5 := hide (isNil_any a0 w4)
        clear HC d4
        refine hK.out _ _ ?_ (fun hHeld2 => ?_)
        · (try dsimp only)
          exact hE4
        clear hK K
        try simp only [Act.put, List.setIfInBounds_toArray, List.set_cons_zero, List.set_cons_succ]
        refine wpAnyH_ready (rs := [4]) (by kernel_rfl) (by simp) ?_
        refine AllReadyH.cons rfl (fun K hK => ?_) (AllReadyH.nil)
        go_simp
        go_at_call 40
        refine (unhide H5).mono ?_
        rintro e w5 ⟨rfl, hw5⟩
        replace hw5 := hw5.symm
        subst hw5
        refine hK.out _ _ ?_ (fun hHeld4 => ?_)
        · (try dsimp only)
          exact hE4
        clear hK K
        try simp only [Act.put, List.setIfInBounds_toArray, List.set_cons_zero, List.set_cons_succ]
        refine wpAnyH_take (i := 5) (v := ?_) rfl (by kernel_rfl) (by kernel_rfl) (by kernel_rfl) (fun _ _ _ h => h) (Or.inl ⟨by rfl, ?_⟩) (by assumption) ?_
        rotate_left
        · intro w9 hSw
          (try dsimp only at hSw)
          go_simp
          all_goals with_reducible rfl
        simp only [Act.put, List.getElem_toArray, List.getElem_cons_succ, List.getElem_cons_zero, List.setIfInBounds_toArray, List.set_cons_zero, List.set_cons_succ]
        refine wpAnyH_take (i := 6) (v := ?_) rfl (by kernel_rfl) (by kernel_rfl) (by kernel_rfl) (fun _ _ _ h => h) (Or.inl ⟨by rfl, ?_⟩) (by assumption) ?_
        rotate_left
        · intro w9 hSw
          (try dsimp only at hSw)
          go_simp
          all_goals with_reducible rfl
        simp only [Act.put, List.getElem_toArray, List.getElem_cons_succ, List.getElem_cons_zero, List.setIfInBounds_toArray, List.set_cons_zero, List.set_cons_succ]
        refine wpAnyH_take (i := 7) (v := ?_) rfl (by kernel_rfl) (by kernel_rfl) (by kernel_rfl) (fun _ _ _ h => h) (Or.inl ⟨by rfl, ?_⟩) (by assumption) ?_
        rotate_left
        · intro w9 hSw
          (try dsimp only at hSw)
          go_simp
          all_goals with_reducible rfl
        simp only [Act.put, List.getElem_toArray, List.getElem_cons_succ, List.getElem_cons_zero, List.setIfInBounds_toArray, List.set_cons_zero, List.set_cons_succ]
        refine wpAnyH_take (i := 8) (v := ?_) rfl (by kernel_rfl) (by kernel_rfl) (by kernel_rfl) (fun _ _ _ h => h) (Or.inl ⟨by rfl, ?_⟩) (by assumption) ?_
        rotate_left
        · intro w9 hSw
          (try dsimp only at hSw)
          go_simp
          all_goals with_reducible rfl
        simp only [Act.put, List.getElem_toArray, List.getElem_cons_succ, List.getElem_cons_zero, List.setIfInBounds_toArray, List.set_cons_zero, List.set_cons_succ]
        refine wpAnyH_take (i := 9) (v := ?_) rfl (by kernel_rfl) (by kernel_rfl) (by kernel_rfl) (fun _ _ _ h => h) (Or.inl ⟨by rfl, ?_⟩) (by assumption) ?_
        rotate_left
        · intro w9 hSw
          (try dsimp only at hSw)
          go_simp
          all_goals with_reducible rfl
        simp only [Act.put, List.getElem_toArray, List.getElem_cons_succ, List.getElem_cons_zero, List.setIfInBounds_toArray, List.set_cons_zero, List.set_cons_succ]
        refine wpAnyH_take (i := 10) (v := ?_) rfl (by kernel_rfl) (by kernel_rfl) (by kernel_rfl) (fun _ _ _ h => h) (Or.inl ⟨by rfl, ?_⟩) (by assumption) ?_
        rotate_left
        · intro w9 hSw
          (try dsimp only at hSw)
          go_simp
          all_goals with_reducible rfl
        simp only [Act.put, List.getElem_toArray, List.getElem_cons_succ, List.getElem_cons_zero, List.setIfInBounds_toArray, List.set_cons_zero, List.set_cons_succ]
        refine wpAnyH_take (i := 11) (v := ?_) rfl (by kernel_rfl) (by kernel_rfl) (by kernel_rfl) (fun _ _ _ h => h) (Or.inl ⟨by rfl, ?_⟩) (by assumption) ?_
        rotate_left
        · intro w9 hSw
          (try dsimp only at hSw)
          go_simp
          all_goals with_reducible rfl
        simp only [Act.put, List.getElem_toArray, List.getElem_cons_succ, List.getElem_cons_zero, List.setIfInBounds_toArray, List.set_cons_zero, List.set_cons_succ]
        refine wpAnyH_take (i := 12) (v := ?_) rfl (by kernel_rfl) (by kernel_rfl) (by kernel_rfl) (fun _ _ _ h => h) (Or.inl ⟨by rfl, ?_⟩) (by assumption) ?_
        rotate_left
        · intro w9 hSw
          (try dsimp only at hSw)
          go_simp
          all_goals with_reducible rfl
        simp only [Act.put, List.getElem_toArray, List.getElem_cons_succ, List.getElem_cons_zero, List.setIfInBounds_toArray, List.set_cons_zero, List.set_cons_succ]
        refine wpAnyH_done (by kernel_rfl) ?_ _
        clear hHeld0 hHeld1 hHeld2 hHeld4 hE0 hE1 hE9 hE4 HEE H5 d1
        go_wp2
        go_ret2
        exact GivesSSB.mk false (IntsS.nil _ _) hb4
      · obtain ⟨k, rfl⟩ : ∃ k : Nat, m = (k : Int) := ⟨m.toNat, by omega⟩
        have hk7 : k ≤ 7 := by omega
        obtain ⟨i0, hi, hz0, hz1, hz2⟩ := info_parts rowsInfo1
        have hl := hS.len
        have hn8 : n ≤ 8 := by have := basis_le hba; omega
        have HR := hide (symBR_yes hba hk7)
        rw [(unhide HR).1, (unhide HR).2]
        have HA := hide (⟨hS, fun z hz => (basis_isP hba z hz).1⟩ : IntsS w B (.slice A n c) a ∧ ∀ z ∈ a, isP z = true)
        have HAT := hide (fun (j : Nat) (z : List Int) (hz : a[j]? = some z) => (show (a.map fun z => symL z k)[j]? = some (symL z k) by rw [List.getElem?_map, hz]; rfl))
        have HLEN := hide (show (a.map fun z => symL z k).length = n by rw [List.length_map]; exact hl)
        have HDEF := hide (show ordR (a.map fun z => symL z k) = symB a k from rfl)
        have HSM := hide (fun (z : List Int) (hz : z ∈ a.map fun z => symL z k) => (show z.length ≤ 1048576 ∧ Small z by
          obtain ⟨y, hy, rfl⟩ := List.mem_map.1 hz
          have h1 := symL_isP (basis_isP hba y hy).1 k
          exact ⟨by have := isP_le h1; omega, isP_small h1⟩))
        obtain ⟨Z, hZ⟩ : ∃ Z, Z = a.map fun z => symL z k := ⟨_, rfl⟩
        rw [← hZ] at HAT HLEN HDEF HSM
        clear hS hsm hba hl hZ hm1 hm2
        go_enter Tryz.func12, Tryz.ntmps12
        go_wp2
        go_region_held3 (fun wx => wx.cell? ⟨0, 0, none⟩ = some (.iface 155 (.pointer (some a0)))) (first | with_reducible exact hE9 | with_reducible exact hE0 | with_reducible exact hE1 | with_reducible exact hE4)
          (first
            | (go_simp; go_at_call 41; refine (unhide HC).mono ?_; rintro e w4 ⟨rfl, d4⟩; have hb4 := below_after d1 d4; have hE4 := unhide HEE w4 hb4; have H5 := hide (isNil_any a0 w4); clear HC d4)
            | (go_simp; go_at_call 40; refine (unhide H5).mono ?_; rintro e w5 ⟨rfl, hw5⟩; replace hw5 := hw5.symm; subst hw5))
        have hs4 := hb4.size
        clear HEE hE0 hE1 hE9 hE4 H5 d1
        go_wp2_with (first
          | (at_make; refine wpList_make_full _ rfl (.tmp 23) (.tmp 23) 24 rfl w.heap.size 36 i0 (.slice none 0 0) 1 Tryz.underlying24 hi hz0 hz1 _ _ _ _ n rfl rfl (by first | rfl | omega) (by first | rfl | omega) (by rw [hz2]; omega) (by unfold maxLen; omega) hs4 ?_; intro w5 hown hg))
        have hF := Filled.start (zss := Z) (unhide HLEN) hb4 hown hg
        clear hown hg hb4
        obtain ⟨g, hgw⟩ : ∃ g, g = w4.heap.size := ⟨_, rfl⟩
        rw [← hgw] at hF ⊢
        clear hgw hs4
        go_loopw [7, 8, 27] (fun _ _ i wr => ∃ j : Nat, j ≤ n ∧ i = .int .i64 j ∧ Filled w wr g n Z j) (fun _ _ i _ => n - (intOf i).toNat)
        case atStart => exact ⟨0, Nat.zero_le _, rfl, hF⟩
        case round =>
          obtain ⟨j, hj, rfl, hF⟩ := hrel
          by_cases hlt : j < n
          · obtain ⟨ad, A1, c1, z, rfl, hz, hcell, hI⟩ := ((unhide HA).1.below hF.below).at_ hlt
            have hzp := (unhide HA).2 z (List.mem_of_getElem? hz)
            have H3 := hide (isym_yes A1 z.length c1 _ z k hk7 wr (hI.argP hzp) hzp)
            have HF := hide hF
            have HZ := hide (unhide HAT j z hz)
            obtain ⟨lz, hlz⟩ : ∃ l, l = z.length := ⟨_, rfl⟩
            rw [← hlz] at hcell H3
            clear hz hzp hI hF hlz
            go_wp2_with fail
            refine (unhide H3).mono ?_
            rintro e w6 ⟨A3, c3, rfl, o3, d3⟩
            obtain ⟨⟨old, hold⟩, hfz⟩ := (unhide HF).old d3 hlt
            have hF2 := (unhide HF).put (unhide HZ) d3 o3
            clear H3 d3 o3 HF hcell
            go_wp2
            go_roundw
            case rel => exact ⟨j + 1, by omega, by go_num, hF2⟩
            case measure => simp [intOf]; omega
          · obtain rfl : n = j := by omega
            obtain ⟨hbw, vs, hown, hin⟩ := hF
            have he : fillS Z n = Z := by
              have := fillS_all Z
              rwa [unhide HLEN] at this
            rw [he] at hin
            have hS : IntsS wr w.heap.size (.slice (some ⟨g, 0, none⟩) n n) Z := ⟨vs, by rw [unhide HLEN]; exact hown, hin⟩
            have H4 := hide (iorda_any _ n n Z wr (hS.atS (unhide HSM)) (by omega))
            rw [unhide HDEF] at H4
            clear hown hin he hS
            go_wp2_with fail
            refine (unhide H4).mono ?_
            rintro e w7 ⟨A7, c7, rfl, o7, d7⟩
            have HI := hide (o7.low hbw.size)
            have hb7 := below_after hbw d7
            clear H4 o7 d7 hbw
            go_wp2
            go_ret2
            exact GivesSSB.mk true (unhide HI) hb7
end Go.Proofs.YtoiipedomgefaaaGreatDoor


/-
  laws.sameInts, laws.sameLists, at equal lists, by their contracts.
-/

namespace Go.Proofs.YtoiipedomgefaaaGreatDoor
set_option maxRecDepth 100000
open Go.RowKit

set_option maxHeartbeats 400000 in
/-- laws.sameInts: equal lists. -/
theorem samei_any (A A' : Option Addr) (n c n' c' B B' : Nat) (zs : List Int) (w : World) (hr : Reads w B A n (i64s zs)) (hr' : Reads w B' A' n' (i64s zs)) (hn : n ≤ 1099511627776) :
    Calls Tryz.prog 25 #[.slice A n c, .slice A' n' c'] w fun e w' => e = .returned (.bool true) ∧ Drew w w' := by
  have e1 : zs.length = n := by have := hr.1; rwa [i64_length] at this
  have e2 : zs.length = n' := by have := hr'.1; rwa [i64_length] at this
  obtain rfl : n = n' := by omega
  clear e1 e2
  go_enter Tryz.func25, Tryz.ntmps25
  go_wp2
  go_loopw [5] (fun i wr => ∃ k : Nat, k ≤ n ∧ i = .int .i64 k ∧ Drew w wr) (fun i _ => n - (intOf i).toNat)
  case atStart => exact ⟨0, Nat.zero_le _, rfl, Drew.refl _⟩
  case round =>
    obtain ⟨k, hk, rfl, hd⟩ := hrel
    by_cases hlt : k < n
    · obtain ⟨ad, u, rfl, _, hx, hc⟩ := (hr.ofDrew hd).at_ hlt
      obtain ⟨ad', u', rfl, _, hx', hc'⟩ := (hr'.ofDrew hd).at_ hlt
      obtain ⟨s, hs, rfl⟩ := i64_at hx
      obtain ⟨s', hs', rfl⟩ := i64_at hx'
      obtain rfl : s = s' := by rw [hs] at hs'; exact Option.some.inj hs'
      clear hx hx' hs hs' hr hr'
      have HD := hide hd
      clear hd
      go_wp2
      go_quiet (fail)
      go_wp2
      go_roundw
      case rel => exact ⟨k + 1, by omega, by go_num, (unhide HD).more _⟩
      case measure => simp [intOf]; omega
    · go_wp2
      go_ret
      exact ⟨rfl, hd⟩

set_option maxHeartbeats 400000 in
/-- laws.sameLists: equal lists of rows. -/
theorem samess_any (A A' : Option Addr) (n c n' c' B B' : Nat) (zss : List (List Int)) (w : World) (hr : IntsS w B (.slice A n c) zss) (hr' : IntsS w B' (.slice A' n' c') zss) (hn : n ≤ 1048576) (ht : tot zss ≤ 1099511627776) :
    Calls Tryz.prog 19 #[.slice A n c, .slice A' n' c'] w fun e w' => e = .returned (.bool true) ∧ Drew w w' := by
  have e1 := hr.len
  have e2 := hr'.len
  obtain rfl : n = n' := by omega
  have HE := hide e1
  clear e1 e2
  go_enter Tryz.func19, Tryz.ntmps19
  go_wp2
  go_loopw [5] (fun i wr => ∃ k : Nat, k ≤ n ∧ i = .int .i64 k ∧ Drew w wr) (fun i _ => n - (intOf i).toNat)
  case atStart => exact ⟨0, Nat.zero_le _, rfl, Drew.refl _⟩
  case round =>
    obtain ⟨k, hk, rfl, hd⟩ := hrel
    by_cases hlt : k < n
    · obtain ⟨ad, A1, c1, zs, rfl, hz, hc, hI⟩ := (hr.below (hd.below _)).at_ hlt
      obtain ⟨ad', A1', c1', zs', rfl, hz', hc', hI'⟩ := (hr'.below (hd.below _)).at_ hlt
      obtain rfl : zs = zs' := by rw [hz] at hz'; exact Option.some.inj hz'
      have hle := tot_at hz
      have HD := hide hd
      have H1 := hide hI.reads
      have H2 := hide hI'.reads
      clear hz hz' hd hI hI' hr hr'
      go_wp2
      go_quiet ((go_at_call 25; exact Calls.quiet_of (samei_any _ _ _ _ _ _ _ _ zs _ ((unhide H1).drewN _) ((unhide H2).drewN _) (by omega))))
      go_wp2
      go_roundw
      case rel => exact ⟨k + 1, by omega, by go_num, (unhide HD).more _⟩
      case measure => simp [intOf]; omega
    · go_wp2
      go_ret
      exact ⟨rfl, hd⟩
end Go.Proofs.YtoiipedomgefaaaGreatDoor


/-
  laws.big, by its contract.
-/

namespace Go.Proofs.YtoiipedomgefaaaGreatDoor
set_option maxRecDepth 100000
open Go.RowKit
theorem big_any (A : Option Addr) (n c : Nat) (hn : n ≤ 9223372036854775807) (w : World) :
    Calls Tryz.prog 5 #[.slice A n c] w fun e w' => e = .returned (.bool (decide (1048576 < n))) ∧ w = w' := by
  go_enter Tryz.func5, Tryz.ntmps5
  go_wp2
  go_ret
  exact ⟨ret_bool (by simp; omega), rfl⟩
end Go.Proofs.YtoiipedomgefaaaGreatDoor
