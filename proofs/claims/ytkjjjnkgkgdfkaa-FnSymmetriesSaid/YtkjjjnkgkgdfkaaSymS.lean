
/-
  spec.l3Symmetry and spec.SymmetryOf, by their contracts.
-/
import Derived.Test.YtkjjjnkgkgdfkaaRev
import Derived.Test.YtkjjjnkgkgdfkaaSame
import Derived.Test.YtkjjjnkgkgdfkaaApp
namespace Go.Proofs.Ytkjjjnkgkgdfkaa
set_option maxRecDepth 100000
open Go.RowKit

set_option maxHeartbeats 400000 in
theorem l3sym_0 (A : Option Addr) (n c B : Nat) (zs : List Int) (k : Nat) (hk : k ≤ 7) (hb1 : ((k : Int) % 2 == 1) = false) (hb2 : ((k : Int) / 2 % 2 == 1) = false) (hb3 : decide (4 ≤ (k : Int)) = false) (w : World) (h : Arg w B A n c zs) (hp : isP zs = true) :
    Calls Try.prog 72 #[.slice A n c, .int .i64 (k : Int)] w (GivesI w (symL zs k)) := by
  have hs : symL zs k = zs := by
    unfold symL sym2 sym1
    simp at hb1 hb2 hb3
    rw [if_neg (by omega : ¬ (4 ≤ k)), if_neg (by omega : ¬ (k / 2 % 2 = 1)), if_neg (by omega : ¬ (k % 2 = 1))]
  rw [hs]
  have hbel := (Below.refl w.heap.size w).alloc (Nat.le_refl _) (.cells #[] 3)
  have hst := own0 w w.heap.size (Nat.le_refl _)
  have hA := h.below hbel
  have hl := hide h.len
  clear h hs
  have _hp := hp
  go_enter Try.func72, Try.ntmps72
  go_wp2_with (at_builtin; refine wpList_append_arg rfl (.tmp 6) (.tmp 7) rfl w.heap.size B 0 n c w _ A [] zs rfl rfl hst hA (by omega) hbel hbel.size ?_; intro v1 w1 hown1 hb _)
  · have cur : Ints w1 w.heap.size v1 zs := Ints.of_own hown1
    obtain ⟨A1, c1, rfl⟩ := cur.slice
    clear hst hA hbel hown1
    go_wp2
    go_ret
    exact GivesI.mk cur hb
set_option maxHeartbeats 400000 in
theorem l3sym_1 (A : Option Addr) (n c B : Nat) (zs : List Int) (k : Nat) (hk : k ≤ 7) (hb1 : ((k : Int) % 2 == 1) = true) (hb2 : ((k : Int) / 2 % 2 == 1) = false) (hb3 : decide (4 ≤ (k : Int)) = false) (w : World) (h : Arg w B A n c zs) (hp : isP zs = true) :
    Calls Try.prog 72 #[.slice A n c, .int .i64 (k : Int)] w (GivesI w (symL zs k)) := by
  have hs : symL zs k = invFill zs zs.length := by
    unfold symL sym2 sym1
    simp at hb1 hb2 hb3
    rw [if_neg (by omega : ¬ (4 ≤ k)), if_neg (by omega : ¬ (k / 2 % 2 = 1)), if_pos (by omega : (k % 2 = 1))]
  rw [hs]
  have hbel := (Below.refl w.heap.size w).alloc (Nat.le_refl _) (.cells #[] 3)
  have hst := own0 w w.heap.size (Nat.le_refl _)
  have hA := h.below hbel
  have hl := hide h.len
  clear h hs
  have _hp := hp
  go_enter Try.func72, Try.ntmps72
  go_wp2_with (at_builtin; refine wpList_append_arg rfl (.tmp 6) (.tmp 7) rfl w.heap.size B 0 n c w _ A [] zs rfl rfl hst hA (by omega) hbel hbel.size ?_; intro v1 w1 hown1 hb _)
  · have cur : Ints w1 w.heap.size v1 zs := Ints.of_own hown1
    obtain ⟨A1, c1, rfl⟩ := cur.slice
    clear hst hA hbel hown1
    have H := hide (l2inv_any _ _ _ _ _ _ (cur.argP hp) hp)
    have hsz := hb.size
    clear cur
    go_wp2_with fail
    refine (unhide H).mono ?_
    rintro e w2 ⟨A2, c2, rfl, o2, d⟩
    have cur := o2.low hsz
    replace hb := below_after hb d
    replace hp := isP_inv hp
    clear H o2 d hsz
    go_wp2
    go_ret
    exact GivesI.mk cur hb
set_option maxHeartbeats 400000 in
theorem l3sym_2 (A : Option Addr) (n c B : Nat) (zs : List Int) (k : Nat) (hk : k ≤ 7) (hb1 : ((k : Int) % 2 == 1) = false) (hb2 : ((k : Int) / 2 % 2 == 1) = true) (hb3 : decide (4 ≤ (k : Int)) = false) (w : World) (h : Arg w B A n c zs) (hp : isP zs = true) :
    Calls Try.prog 72 #[.slice A n c, .int .i64 (k : Int)] w (GivesI w (symL zs k)) := by
  have hs : symL zs k = (zs).reverse := by
    unfold symL sym2 sym1
    simp at hb1 hb2 hb3
    rw [if_neg (by omega : ¬ (4 ≤ k)), if_pos (by omega : (k / 2 % 2 = 1)), if_neg (by omega : ¬ (k % 2 = 1))]
  rw [hs]
  have hbel := (Below.refl w.heap.size w).alloc (Nat.le_refl _) (.cells #[] 3)
  have hst := own0 w w.heap.size (Nat.le_refl _)
  have hA := h.below hbel
  have hl := hide h.len
  clear h hs
  have _hp := hp
  go_enter Try.func72, Try.ntmps72
  go_wp2_with (at_builtin; refine wpList_append_arg rfl (.tmp 6) (.tmp 7) rfl w.heap.size B 0 n c w _ A [] zs rfl rfl hst hA (by omega) hbel hbel.size ?_; intro v1 w1 hown1 hb _)
  · have cur : Ints w1 w.heap.size v1 zs := Ints.of_own hown1
    obtain ⟨A1, c1, rfl⟩ := cur.slice
    clear hst hA hbel hown1
    have H := hide (l3rev_any _ _ _ _ _ _ (cur.argP hp))
    have hsz := hb.size
    clear cur
    go_wp2_with fail
    refine (unhide H).mono ?_
    rintro e w2 ⟨A2, c2, rfl, o2, d⟩
    have cur := o2.low hsz
    replace hb := below_after hb d
    replace hp := isP_rev hp
    clear H o2 d hsz
    rw [List.length_reverse] at cur
    go_wp2
    go_ret
    exact GivesI.mk cur hb
set_option maxHeartbeats 400000 in
theorem l3sym_3 (A : Option Addr) (n c B : Nat) (zs : List Int) (k : Nat) (hk : k ≤ 7) (hb1 : ((k : Int) % 2 == 1) = true) (hb2 : ((k : Int) / 2 % 2 == 1) = true) (hb3 : decide (4 ≤ (k : Int)) = false) (w : World) (h : Arg w B A n c zs) (hp : isP zs = true) :
    Calls Try.prog 72 #[.slice A n c, .int .i64 (k : Int)] w (GivesI w (symL zs k)) := by
  have hs : symL zs k = (invFill zs zs.length).reverse := by
    unfold symL sym2 sym1
    simp at hb1 hb2 hb3
    rw [if_neg (by omega : ¬ (4 ≤ k)), if_pos (by omega : (k / 2 % 2 = 1)), if_pos (by omega : (k % 2 = 1))]
  rw [hs]
  have hbel := (Below.refl w.heap.size w).alloc (Nat.le_refl _) (.cells #[] 3)
  have hst := own0 w w.heap.size (Nat.le_refl _)
  have hA := h.below hbel
  have hl := hide h.len
  clear h hs
  have _hp := hp
  go_enter Try.func72, Try.ntmps72
  go_wp2_with (at_builtin; refine wpList_append_arg rfl (.tmp 6) (.tmp 7) rfl w.heap.size B 0 n c w _ A [] zs rfl rfl hst hA (by omega) hbel hbel.size ?_; intro v1 w1 hown1 hb _)
  · have cur : Ints w1 w.heap.size v1 zs := Ints.of_own hown1
    obtain ⟨A1, c1, rfl⟩ := cur.slice
    clear hst hA hbel hown1
    have H := hide (l2inv_any _ _ _ _ _ _ (cur.argP hp) hp)
    have hsz := hb.size
    clear cur
    go_wp2_with fail
    refine (unhide H).mono ?_
    rintro e w2 ⟨A2, c2, rfl, o2, d⟩
    have cur := o2.low hsz
    replace hb := below_after hb d
    replace hp := isP_inv hp
    clear H o2 d hsz
    have H := hide (l3rev_any _ _ _ _ _ _ (cur.argP hp))
    have hsz := hb.size
    clear cur
    go_wp2_with fail
    refine (unhide H).mono ?_
    rintro e w2 ⟨A2, c2, rfl, o2, d⟩
    have cur := o2.low hsz
    replace hb := below_after hb d
    replace hp := isP_rev hp
    clear H o2 d hsz
    rw [List.length_reverse] at cur
    go_wp2
    go_ret
    exact GivesI.mk cur hb
set_option maxHeartbeats 400000 in
theorem l3sym_4 (A : Option Addr) (n c B : Nat) (zs : List Int) (k : Nat) (hk : k ≤ 7) (hb1 : ((k : Int) % 2 == 1) = false) (hb2 : ((k : Int) / 2 % 2 == 1) = false) (hb3 : decide (4 ≤ (k : Int)) = true) (w : World) (h : Arg w B A n c zs) (hp : isP zs = true) :
    Calls Try.prog 72 #[.slice A n c, .int .i64 (k : Int)] w (GivesI w (symL zs k)) := by
  have hs : symL zs k = cplL (zs) := by
    unfold symL sym2 sym1
    simp at hb1 hb2 hb3
    rw [if_pos (by omega : (4 ≤ k)), if_neg (by omega : ¬ (k / 2 % 2 = 1)), if_neg (by omega : ¬ (k % 2 = 1))]
  rw [hs]
  have hbel := (Below.refl w.heap.size w).alloc (Nat.le_refl _) (.cells #[] 3)
  have hst := own0 w w.heap.size (Nat.le_refl _)
  have hA := h.below hbel
  have hl := hide h.len
  clear h hs
  have _hp := hp
  go_enter Try.func72, Try.ntmps72
  go_wp2_with (at_builtin; refine wpList_append_arg rfl (.tmp 6) (.tmp 7) rfl w.heap.size B 0 n c w _ A [] zs rfl rfl hst hA (by omega) hbel hbel.size ?_; intro v1 w1 hown1 hb _)
  · have cur : Ints w1 w.heap.size v1 zs := Ints.of_own hown1
    obtain ⟨A1, c1, rfl⟩ := cur.slice
    clear hst hA hbel hown1
    have H := hide (l3cpl_any _ _ _ _ _ _ (cur.argP hp) hp)
    have hsz := hb.size
    clear cur
    go_wp2_with fail
    refine (unhide H).mono ?_
    rintro e w2 ⟨A2, c2, rfl, o2, d⟩
    have cur := o2.low hsz
    replace hb := below_after hb d
    replace hp := isP_cpl hp
    clear H o2 d hsz
    go_wp2
    go_ret
    exact GivesI.mk cur hb
set_option maxHeartbeats 400000 in
theorem l3sym_5 (A : Option Addr) (n c B : Nat) (zs : List Int) (k : Nat) (hk : k ≤ 7) (hb1 : ((k : Int) % 2 == 1) = true) (hb2 : ((k : Int) / 2 % 2 == 1) = false) (hb3 : decide (4 ≤ (k : Int)) = true) (w : World) (h : Arg w B A n c zs) (hp : isP zs = true) :
    Calls Try.prog 72 #[.slice A n c, .int .i64 (k : Int)] w (GivesI w (symL zs k)) := by
  have hs : symL zs k = cplL (invFill zs zs.length) := by
    unfold symL sym2 sym1
    simp at hb1 hb2 hb3
    rw [if_pos (by omega : (4 ≤ k)), if_neg (by omega : ¬ (k / 2 % 2 = 1)), if_pos (by omega : (k % 2 = 1))]
  rw [hs]
  have hbel := (Below.refl w.heap.size w).alloc (Nat.le_refl _) (.cells #[] 3)
  have hst := own0 w w.heap.size (Nat.le_refl _)
  have hA := h.below hbel
  have hl := hide h.len
  clear h hs
  have _hp := hp
  go_enter Try.func72, Try.ntmps72
  go_wp2_with (at_builtin; refine wpList_append_arg rfl (.tmp 6) (.tmp 7) rfl w.heap.size B 0 n c w _ A [] zs rfl rfl hst hA (by omega) hbel hbel.size ?_; intro v1 w1 hown1 hb _)
  · have cur : Ints w1 w.heap.size v1 zs := Ints.of_own hown1
    obtain ⟨A1, c1, rfl⟩ := cur.slice
    clear hst hA hbel hown1
    have H := hide (l2inv_any _ _ _ _ _ _ (cur.argP hp) hp)
    have hsz := hb.size
    clear cur
    go_wp2_with fail
    refine (unhide H).mono ?_
    rintro e w2 ⟨A2, c2, rfl, o2, d⟩
    have cur := o2.low hsz
    replace hb := below_after hb d
    replace hp := isP_inv hp
    clear H o2 d hsz
    have H := hide (l3cpl_any _ _ _ _ _ _ (cur.argP hp) hp)
    have hsz := hb.size
    clear cur
    go_wp2_with fail
    refine (unhide H).mono ?_
    rintro e w2 ⟨A2, c2, rfl, o2, d⟩
    have cur := o2.low hsz
    replace hb := below_after hb d
    replace hp := isP_cpl hp
    clear H o2 d hsz
    go_wp2
    go_ret
    exact GivesI.mk cur hb
set_option maxHeartbeats 400000 in
theorem l3sym_6 (A : Option Addr) (n c B : Nat) (zs : List Int) (k : Nat) (hk : k ≤ 7) (hb1 : ((k : Int) % 2 == 1) = false) (hb2 : ((k : Int) / 2 % 2 == 1) = true) (hb3 : decide (4 ≤ (k : Int)) = true) (w : World) (h : Arg w B A n c zs) (hp : isP zs = true) :
    Calls Try.prog 72 #[.slice A n c, .int .i64 (k : Int)] w (GivesI w (symL zs k)) := by
  have hs : symL zs k = cplL ((zs).reverse) := by
    unfold symL sym2 sym1
    simp at hb1 hb2 hb3
    rw [if_pos (by omega : (4 ≤ k)), if_pos (by omega : (k / 2 % 2 = 1)), if_neg (by omega : ¬ (k % 2 = 1))]
  rw [hs]
  have hbel := (Below.refl w.heap.size w).alloc (Nat.le_refl _) (.cells #[] 3)
  have hst := own0 w w.heap.size (Nat.le_refl _)
  have hA := h.below hbel
  have hl := hide h.len
  clear h hs
  have _hp := hp
  go_enter Try.func72, Try.ntmps72
  go_wp2_with (at_builtin; refine wpList_append_arg rfl (.tmp 6) (.tmp 7) rfl w.heap.size B 0 n c w _ A [] zs rfl rfl hst hA (by omega) hbel hbel.size ?_; intro v1 w1 hown1 hb _)
  · have cur : Ints w1 w.heap.size v1 zs := Ints.of_own hown1
    obtain ⟨A1, c1, rfl⟩ := cur.slice
    clear hst hA hbel hown1
    have H := hide (l3rev_any _ _ _ _ _ _ (cur.argP hp))
    have hsz := hb.size
    clear cur
    go_wp2_with fail
    refine (unhide H).mono ?_
    rintro e w2 ⟨A2, c2, rfl, o2, d⟩
    have cur := o2.low hsz
    replace hb := below_after hb d
    replace hp := isP_rev hp
    clear H o2 d hsz
    rw [List.length_reverse] at cur
    have H := hide (l3cpl_any _ _ _ _ _ _ (cur.argP hp) hp)
    have hsz := hb.size
    clear cur
    go_wp2_with fail
    refine (unhide H).mono ?_
    rintro e w2 ⟨A2, c2, rfl, o2, d⟩
    have cur := o2.low hsz
    replace hb := below_after hb d
    replace hp := isP_cpl hp
    clear H o2 d hsz
    go_wp2
    go_ret
    exact GivesI.mk cur hb
set_option maxHeartbeats 400000 in
theorem l3sym_7 (A : Option Addr) (n c B : Nat) (zs : List Int) (k : Nat) (hk : k ≤ 7) (hb1 : ((k : Int) % 2 == 1) = true) (hb2 : ((k : Int) / 2 % 2 == 1) = true) (hb3 : decide (4 ≤ (k : Int)) = true) (w : World) (h : Arg w B A n c zs) (hp : isP zs = true) :
    Calls Try.prog 72 #[.slice A n c, .int .i64 (k : Int)] w (GivesI w (symL zs k)) := by
  have hs : symL zs k = cplL ((invFill zs zs.length).reverse) := by
    unfold symL sym2 sym1
    simp at hb1 hb2 hb3
    rw [if_pos (by omega : (4 ≤ k)), if_pos (by omega : (k / 2 % 2 = 1)), if_pos (by omega : (k % 2 = 1))]
  rw [hs]
  have hbel := (Below.refl w.heap.size w).alloc (Nat.le_refl _) (.cells #[] 3)
  have hst := own0 w w.heap.size (Nat.le_refl _)
  have hA := h.below hbel
  have hl := hide h.len
  clear h hs
  have _hp := hp
  go_enter Try.func72, Try.ntmps72
  go_wp2_with (at_builtin; refine wpList_append_arg rfl (.tmp 6) (.tmp 7) rfl w.heap.size B 0 n c w _ A [] zs rfl rfl hst hA (by omega) hbel hbel.size ?_; intro v1 w1 hown1 hb _)
  · have cur : Ints w1 w.heap.size v1 zs := Ints.of_own hown1
    obtain ⟨A1, c1, rfl⟩ := cur.slice
    clear hst hA hbel hown1
    have H := hide (l2inv_any _ _ _ _ _ _ (cur.argP hp) hp)
    have hsz := hb.size
    clear cur
    go_wp2_with fail
    refine (unhide H).mono ?_
    rintro e w2 ⟨A2, c2, rfl, o2, d⟩
    have cur := o2.low hsz
    replace hb := below_after hb d
    replace hp := isP_inv hp
    clear H o2 d hsz
    have H := hide (l3rev_any _ _ _ _ _ _ (cur.argP hp))
    have hsz := hb.size
    clear cur
    go_wp2_with fail
    refine (unhide H).mono ?_
    rintro e w2 ⟨A2, c2, rfl, o2, d⟩
    have cur := o2.low hsz
    replace hb := below_after hb d
    replace hp := isP_rev hp
    clear H o2 d hsz
    rw [List.length_reverse] at cur
    have H := hide (l3cpl_any _ _ _ _ _ _ (cur.argP hp) hp)
    have hsz := hb.size
    clear cur
    go_wp2_with fail
    refine (unhide H).mono ?_
    rintro e w2 ⟨A2, c2, rfl, o2, d⟩
    have cur := o2.low hsz
    replace hb := below_after hb d
    replace hp := isP_cpl hp
    clear H o2 d hsz
    go_wp2
    go_ret
    exact GivesI.mk cur hb
theorem l3sym_any (A : Option Addr) (n c B : Nat) (zs : List Int) (k : Nat) (hk : k ≤ 7) (w : World) (h : Arg w B A n c zs) (hp : isP zs = true) :
    Calls Try.prog 72 #[.slice A n c, .int .i64 (k : Int)] w (GivesI w (symL zs k)) := by
  cases h1 : ((k : Int) % 2 == 1) <;> cases h2 : ((k : Int) / 2 % 2 == 1) <;> cases h3 : decide (4 ≤ (k : Int))
  · exact l3sym_0 A n c B zs k hk h1 h2 h3 w h hp
  · exact l3sym_4 A n c B zs k hk h1 h2 h3 w h hp
  · exact l3sym_2 A n c B zs k hk h1 h2 h3 w h hp
  · exact l3sym_6 A n c B zs k hk h1 h2 h3 w h hp
  · exact l3sym_1 A n c B zs k hk h1 h2 h3 w h hp
  · exact l3sym_5 A n c B zs k hk h1 h2 h3 w h hp
  · exact l3sym_3 A n c B zs k hk h1 h2 h3 w h hp
  · exact l3sym_7 A n c B zs k hk h1 h2 h3 w h hp

theorem ssym_any (A : Option Addr) (n c B : Nat) (zs : List Int) (k : Int) (hk : -9223372036854775808 ≤ k ∧ k ≤ 9223372036854775807) (w : World) (h : Arg w B A n c zs) :
    Calls Try.prog 35 #[.slice A n c, .int .i64 k] w (GivesIB w (symR zs k) (symOK zs k)) := by
  obtain ⟨b, hb⟩ : ∃ b, isP zs = b := ⟨_, rfl⟩
  have H1 := hide (sisperm_any A n c B zs b hb w h.reads h.le h.cap)
  cases b with
  | false =>
    rw [symR_no (symOK_no1 hb), symOK_no1 hb]
    clear hb h
    go_enter Try.func35, Try.ntmps35
    go_wp2_with fail
    refine (unhide H1).mono ?_
    rintro e w1 ⟨rfl, hd⟩
    have hb := hd.below w.heap.size
    clear hd H1
    go_wp2
    go_ret2
    exact GivesIB.mk false (Ints.made0 w1 w.heap.size hb.size) (hb.alloc hb.size _)
  | true =>
    by_cases hin : 0 ≤ k ∧ k ≤ 7
    · obtain ⟨j, rfl⟩ : ∃ j : Nat, k = (j : Int) := ⟨k.toNat, by omega⟩
      rw [symR_yes (symOK_yes hb hin), symOK_yes hb hin, Int.toNat_natCast]
      have H2 := hide (fun w' => l1in_any (j : Int) 0 7 true (by simp; omega) w')
      have H3 := hide (fun w' (hb' : Below w.heap.size w w') => l3sym_any A n c B zs j (by omega) w' (h.below hb') hb)
      clear hb h hin hk
      go_enter Try.func35, Try.ntmps35
      go_wp2_with fail
      refine (unhide H1).mono ?_
      rintro e w1 ⟨rfl, hd⟩
      have hb := hd.below w.heap.size
      clear hd H1
      go_wp2_with fail
      refine (unhide H2 _).mono ?_
      rintro e w2 ⟨rfl, hw⟩
      rw [hw]
      have H4 := hide (unhide H3 w1 hb)
      clear hw H2 H3
      go_wp2_with fail
      refine (unhide H4).mono ?_
      rintro e w3 ⟨A3, c3, rfl, o3, d⟩
      have cur := o3.low hb.size
      have hb3 := below_after hb d
      clear H4 hb d o3
      go_wp2
      go_ret2
      exact GivesIB.mk true cur hb3
    · rw [symR_no (symOK_no2 hin), symOK_no2 hin]
      have H2 := hide (fun w' => l1in_any k 0 7 false (by simp; omega) w')
      obtain ⟨hk1, hk2⟩ := hk
      clear hb h hin
      go_enter Try.func35, Try.ntmps35
      go_wp2_with fail
      refine (unhide H1).mono ?_
      rintro e w1 ⟨rfl, hd⟩
      have hb := hd.below w.heap.size
      clear hd H1
      go_wp2_with fail
      refine (unhide H2 _).mono ?_
      rintro e w2 ⟨rfl, hw⟩
      rw [hw]
      clear hw H2
      go_wp2
      go_ret2
      exact GivesIB.mk false (Ints.made0 w1 w.heap.size hb.size) (hb.alloc hb.size _)
end Go.Proofs.Ytkjjjnkgkgdfkaa
