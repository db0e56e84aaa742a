/-
  Words and contracts that the laws lean on, bundled: Parts, MeetU, Sort, Compact, DelM, IdxF, Tell, Zone, Round.
-/
import Derived.Test.YtoiipedomgefaaaGreatDoorB1
import Derived.Test.YtoiipedomgefaaaGreatDoorB4
import Derived.Test.YtoiipedomgefaaaGreatDoorB3
import Derived.Test.YtoiipedomgefaaaGreatDoorB7
import Derived.Test.YtoiipedomgefaaaGreatDoorB5
import Derived.Test.YtoiipedomgefaaaGreatDoorShelfF
import Derived.Deep.RegionHeld3
import Derived.Lib.SliceRun
import Derived.Laws.BitsLemmas
import Derived.RangeFuncNested
import Derived.RangeFuncBound
import Derived.RangeFuncCalls
import Derived.RangeFuncLeaves
import Derived.Shelf.Abstract
import Derived.Shelf.RegionOpen
import Derived.WalkKit
import Derived.OwnWalkIn
import Derived.TacticsInMore
import Derived.LoopNIn
import Derived.LoopIn

/-
  spec.l1Max; spec.SumParts, impl.SumParts, by their contracts.
-/

namespace Go.Proofs.YtoiipedomgefaaaGreatDoor
set_option maxRecDepth 100000
open Go.RowKit

theorem max_any (a b : Int) (w : World) : Calls Tryz.prog 117 #[.int .i64 a, .int .i64 b] w fun e w' => e = .returned (.int .i64 (max a b)) ∧ w' = w := by
  by_cases h : b < a
  · have e : max a b = a := by omega
    rw [e]
    go_enter Tryz.func117, Tryz.ntmps117
    go_wp2
    go_ret
    exact ⟨rfl, rfl⟩
  · have e : max a b = b := by omega
    rw [e]
    go_enter Tryz.func117, Tryz.ntmps117
    go_wp2
    go_ret
    exact ⟨rfl, rfl⟩
theorem most_range {p : List Int} (h : isP p = true) : ∀ k, 0 ≤ most (p.take k) ∧ most (p.take k) ≤ p.length := fun k => by
  induction k with
  | zero => simp [most]
  | succ k ih =>
    by_cases hk : k < p.length
    · have hz := at0_some hk
      have := isP_range h hz
      rw [most_take hz]; omega
    · rw [List.take_of_length_le (by omega)]
      rwa [List.take_of_length_le (by omega)] at ih

set_option maxHeartbeats 800000 in
theorem sparts_any (A : Option Addr) (n c B : Nat) (zs : List Int) (w : World) (h : Arg w B A n c zs) :
    Calls Tryz.prog 71 #[.slice A n c] w (GivesSS w (partsR zs)) := by
  obtain ⟨b, hb⟩ : ∃ b, isP zs = b := ⟨_, rfl⟩
  have hI0 := IntsS.made0 w w.heap.size (Nat.le_refl _)
  have hbel := (Below.refl w.heap.size w).alloc (Nat.le_refl _) (.cells #[] 36)
  have H1 := hide (fun w' (hb' : Below w.heap.size w w') => sisperm_any A n c B zs b hb w' (h.below hb').reads h.le h.cap)
  have H0 := hide (unhide H1 _ hbel)
  clear H1
  cases b with
  | false =>
    rw [partsR_no hb]
    clear hb h
    go_enter Tryz.func71, Tryz.ntmps71
    go_wp2_with fail
    refine (unhide H0).mono ?_
    rintro e w1 ⟨rfl, hd⟩
    have hb := hbel.trans (hd.below w.heap.size)
    have hI := hI0.below (hd.below _)
    clear hd H0 hI0 hbel
    go_wp2
    go_ret
    exact GivesSS.mk hI hb
  | true =>
    have hl := h.len
    have hn8 : n ≤ 8 := by have := isP_le hb; omega
    have HL := hide hl
    have HC := hide h
    have HP := hide hb
    have hcap := h.cap
    have HR := hide (partsR_yes hb)
    clear hb h hl
    go_enter Tryz.func71, Tryz.ntmps71
    go_wp2_with fail
    refine (unhide H0).mono ?_
    rintro e w1 ⟨rfl, hd⟩
    have hb0 := hbel.trans (hd.below w.heap.size)
    have hI1 := hI0.below (hd.below _)
    clear hd H0 hI0 hbel
    go_wp2
    go_loopw [3, 4, 5, 6] (fun v f m i wr => ∃ k : Nat, k ≤ n ∧ i = .int .i64 k ∧ f = .int .i64 (frm zs k : Int) ∧ m = .int .i64 (most (zs.take k)) ∧ Below w.heap.size w wr ∧ IntsS wr w.heap.size v (prt zs k)) (fun _ _ _ i _ => n - (intOf i).toNat)
    case atStart => exact ⟨0, Nat.zero_le _, rfl, rfl, rfl, hb0, hI1⟩
    case round =>
      obtain ⟨k, hk, rfl, rfl, rfl, hbw, hI⟩ := hrel
      clear hI1 hb0
      have hfk := frm_le zs k
      have hpl := prt_len zs k
      by_cases hlt : k < n
      · have hA := (unhide HC).below hbw
        obtain ⟨ad, u, rfl, _, hu, hc⟩ := hA.reads.at_ hlt
        obtain ⟨z, hz, rfl⟩ := i64_at hu
        have hmt := hide (most_take hz)
        have hmr := most_range (unhide HP) (k + 1)
        rw [most_take hz] at hmr
        have hsz := hbw.size
        clear hu hz
        obtain ⟨f, hf⟩ : ∃ f, f = frm zs k := ⟨_, rfl⟩
        have HF := hide hf
        rw [← hf] at hfk ⊢
        by_cases heq : max (most (zs.take k)) z = (k : Int) + 1
        · have H2 := hide (fun w' (hb' : Below wr.heap.size wr w') => l2pat_any (some (ad.add f)) (k + 1 - f) (c - f) B _ w' ((hA.cut (f := f) (m := k + 1 - f) (by omega)).below hb') (by omega))
          have hmy : most (zs.take (k + 1)) = (k : Int) + 1 := by rw [unhide hmt]; exact heq
          have hpy := hide (prt_yes hmy)
          have hfy := hide (frm_yes hmy)
          clear hf hmy hA
          go_wp2_with fail
          refine (max_any _ _ _).mono ?_
          rintro e w2 ⟨rfl, rfl⟩
          go_wp2_with fail
          refine (unhide H2 _ (Below.refl _ _)).mono ?_
          rintro e w3 ⟨A3, c3, rfl, own3, hb3⟩
          clear H2
          have hb5 := hbw.trans (hb3.mono hsz)
          go_wp2_with (first
            | (at_builtin; refine wpList_push_row rfl (.tmp 28) (.tmp 35) rfl w.heap.size w w2 w3 _ _ (prt zs k) _ rfl rfl rfl hI hb3 own3 (by omega) hb5 hsz ?_; intro v4 w4 hI4 hb4))
          clear hI hb3 own3 hb5 hbw
          go_wp2
          go_roundw
          case rel => exact ⟨k + 1, by omega, by go_num, by rw [unhide hfy]; go_num, by rw [unhide hmt, heq], hb4, by rw [unhide hpy, ← unhide HF]; exact hI4⟩
          case measure => simp [intOf]; omega
        · have hmn : ¬ most (zs.take (k + 1)) = (k : Int) + 1 := by rw [unhide hmt]; exact heq
          have hpy := hide (prt_no hmn)
          have hfy := hide (frm_no hmn)
          clear hf hmn hA
          go_wp2_with fail
          refine (max_any _ _ _).mono ?_
          rintro e w2 ⟨rfl, rfl⟩
          go_wp2
          go_roundw
          case rel => exact ⟨k + 1, by omega, by go_num, by rw [unhide hfy, ← unhide HF], by rw [unhide hmt], hbw, by rw [unhide hpy]; exact hI⟩
          case measure => simp [intOf]; omega
      · obtain rfl : n = k := by omega
        have hI2 : IntsS wr w.heap.size u3 (partsR zs) := by rw [unhide HR, unhide HL]; exact hI
        clear hI
        go_wp2
        go_ret
        exact GivesSS.mk hI2 hbw

set_option maxHeartbeats 800000 in
theorem iparts_any (A : Option Addr) (n c B : Nat) (zs : List Int) (w : World) (h : Arg w B A n c zs) :
    Calls Tryz.prog 70 #[.slice A n c] w (GivesSS w (partsR zs)) := by
  obtain ⟨b, hb⟩ : ∃ b, isP zs = b := ⟨_, rfl⟩
  have H0 := hide (iisperm_any A n c B zs b hb w h.reads h.under h.le h.small)
  cases b with
  | false =>
    rw [partsR_no hb]
    clear hb h
    go_enter Tryz.func70, Tryz.ntmps70
    go_wp2_with fail
    refine (unhide H0).mono ?_
    rintro e w1 ⟨rfl, hb⟩
    clear H0
    go_wp2
    go_ret
    exact GivesSS.mk (v := .slice none 0 0) (IntsS.nil _ _) hb
  | true =>
    have hl := h.len
    have hn8 : n ≤ 8 := by have := isP_le hb; omega
    have HL := hide hl
    have HC := hide h
    have HP := hide hb
    have hcap := h.cap
    have HR := hide (partsR_yes hb)
    clear hb h hl
    go_enter Tryz.func70, Tryz.ntmps70
    go_wp2_with fail
    refine (unhide H0).mono ?_
    rintro e w1 ⟨rfl, hb0⟩
    have hI1 := IntsS.nil w1 w.heap.size
    clear H0
    go_wp2
    go_loopw [3, 4, 5, 6, 7, 8, 9, 15] (fun v f m _ _ _ _ i wr => ∃ k : Nat, k ≤ n ∧ i = .int .i64 k ∧ f = .int .i64 (frm zs k : Int) ∧ m = .int .i64 (most (zs.take k)) ∧ Below w.heap.size w wr ∧ IntsS wr w.heap.size v (prt zs k)) (fun _ _ _ _ _ _ _ i _ => n - (intOf i).toNat)
    case atStart => exact ⟨0, Nat.zero_le _, rfl, rfl, rfl, hb0, hI1⟩
    case round =>
      obtain ⟨k, hk, rfl, rfl, rfl, hbw, hI⟩ := hrel
      clear hI1 hb0
      have hfk := frm_le zs k
      have hpl := prt_len zs k
      by_cases hlt : k < n
      · have hA := (unhide HC).below hbw
        obtain ⟨ad, u, rfl, _, hu, hc⟩ := hA.reads.at_ hlt
        obtain ⟨z, hz, rfl⟩ := i64_at hu
        have hmt := hide (most_take hz)
        have hmr := most_range (unhide HP) (k + 1)
        rw [most_take hz] at hmr
        have hsz := hbw.size
        clear hu hz
        obtain ⟨f, hf⟩ : ∃ f, f = frm zs k := ⟨_, rfl⟩
        have HF := hide hf
        rw [← hf] at hfk ⊢
        obtain ⟨mk, hmk⟩ : ∃ mk, mk = most (zs.take k) := ⟨_, rfl⟩
        rw [← hmk] at hmt hmr ⊢
        clear hmk
        obtain ⟨M, hM⟩ : ∃ M, max mk z = M := ⟨_, rfl⟩
        rw [hM] at hmt hmr
        have hif : (if mk < z then z else mk) = M := by rw [← hM]; split <;> omega
        have HM := hide hM
        clear hM
        by_cases heq : M = (k : Int) + 1
        · have hok := patOK_cut (unhide HP) f (k + 1 - f)
          have H2 := hide (fun w' (hb' : Below wr.heap.size wr w') => ipat_any (some (ad.add f)) (k + 1 - f) (c - f) B _ true hok w' ((hA.cut (f := f) (m := k + 1 - f) (by omega)).below hb'))
          rw [patR_yes hok] at H2
          have hmy : most (zs.take (k + 1)) = (k : Int) + 1 := by rw [unhide hmt]; exact heq
          have hpy := hide (prt_yes hmy)
          have hfy := hide (frm_yes hmy)
          clear hf hmy hA hok
          go_wp2_with fail
          refine (unhide H2 _ (Below.refl _ _)).mono ?_
          rintro e w3 ⟨A3, c3, rfl, own3, hb3⟩
          clear H2
          have hb5 := hbw.trans (hb3.mono hsz)
          go_wp2_with (first
            | (at_builtin; refine wpList_push_row rfl (.tmp 36) (.tmp 38) rfl w.heap.size w wr w3 _ _ (prt zs k) _ rfl rfl rfl hI hb3 own3 (by omega) hb5 hsz ?_; intro v4 w4 hI4 hb4))
          clear hI hb3 own3 hb5 hbw
          go_wp2
          go_roundw
          case rel => exact ⟨k + 1, by omega, by go_num, by rw [unhide hfy]; go_num, by first | (rw [unhide hmt, heq]; done) | rw [unhide HM, unhide hmt], hb4, by rw [unhide hpy, ← unhide HF]; exact hI4⟩
          case measure => simp [intOf]; omega
        · have hmn : ¬ most (zs.take (k + 1)) = (k : Int) + 1 := by rw [unhide hmt]; exact heq
          have hpy := hide (prt_no hmn)
          have hfy := hide (frm_no hmn)
          clear hf hmn hA
          go_wp2
          go_roundw
          case rel => exact ⟨k + 1, by omega, by go_num, by rw [unhide hfy, ← unhide HF], by first | (rw [unhide hmt]; done) | rw [unhide HM, unhide hmt], hbw, by rw [unhide hpy]; exact hI⟩
          case measure => simp [intOf]; omega
      · obtain rfl : n = k := by omega
        have hI2 : IntsS wr w.heap.size u3 (partsR zs) := by rw [unhide HR, unhide HL]; exact hI
        clear hI
        go_wp2
        go_ret
        exact GivesSS.mk hI2 hbw
end Go.Proofs.YtoiipedomgefaaaGreatDoor


/-
  spec.UnionUpTo, SymmetryBasis, l13Straight, IsFinite, IsSumClosed, FirstBeyond, by their contracts.
-/

namespace Go.Proofs.YtoiipedomgefaaaGreatDoor
set_option maxRecDepth 100000
open Go.RowKit

set_option maxHeartbeats 1600000 in
theorem suni_any (A A' : Option Addr) (n c B n' c' B' : Nat) (a b : List (List Int)) (m : Int) (hm : -9223372036854775808 ≤ m ∧ m ≤ 9223372036854775807) (w : World) (hS : IntsS w B (.slice A n c) a) (hS' : IntsS w B' (.slice A' n' c') b) (hn : n ≤ 1048576) (hn' : n' ≤ 1048576) (hsm : ∀ z ∈ a, z.length ≤ 1048576 ∧ Small z) (hsm' : ∀ z ∈ b, z.length ≤ 1048576 ∧ Small z) :
    Calls Tryz.prog 20 #[.slice A n c, .slice A' n' c', .int .i64 m] w (GivesSS w (uniR a b m)) := by
  obtain ⟨hm1, hm2⟩ := hm
  obtain ⟨ba, hba⟩ : ∃ x, basis a = x := ⟨_, rfl⟩
  obtain ⟨bb, hbb⟩ : ∃ x, basis b = x := ⟨_, rfl⟩
  have H1 := hide (sbas_any A n c B a w hS hn hsm)
  rw [hba] at H1
  cases ba with
  | false =>
    rw [uniR_no (fun h => by rw [hba] at h; cases h.1)]
    clear hS hS' hsm hsm' hba hbb
    go_enter Tryz.func20, Tryz.ntmps20
    go_wp2_with fail
    refine (unhide H1).mono ?_
    rintro e w1 ⟨rfl, d1⟩
    have hm := IntsS.made0 w1 w.heap.size d1.size
    have hb2 := d1.alloc d1.size (.cells #[] 36)
    clear H1 d1
    go_wp2
    go_ret
    exact GivesSS.mk hm hb2
  | true =>
    have H2 := hide (fun (w' : World) (d : Below w.heap.size w w') => by have h := sbas_any A' n' c' B' b w' (hS'.below d) hn' hsm'; rw [hbb] at h; exact h)
    cases bb with
    | false =>
      rw [uniR_no (fun h => by rw [hbb] at h; cases h.2.1)]
      clear hS hS' hsm hsm' hba hbb
      go_enter Tryz.func20, Tryz.ntmps20
      go_wp2_with fail
      refine (unhide H1).mono ?_
      rintro e w1 ⟨rfl, d1⟩
      have H3 := hide (unhide H2 w1 d1)
      clear H1 H2
      go_wp2_with fail
      refine (unhide H3).mono ?_
      rintro e w2 ⟨rfl, d2⟩
      have hb2 := below_after d1 d2
      have hm := IntsS.made0 w2 w.heap.size hb2.size
      have hb3 := hb2.alloc hb2.size (.cells #[] 36)
      clear H3 d1 d2 hb2
      go_wp2
      go_ret
      exact GivesSS.mk hm hb3
    | true =>
      by_cases hin : 0 ≤ m ∧ m ≤ 5
      · obtain ⟨j, rfl⟩ : ∃ j : Nat, m = (j : Int) := ⟨m.toNat, by omega⟩
        have hj5 : j ≤ 5 := by omega
        have H3 := hide (fun w' => l1in_any (j : Int) 0 5 true (decide_eq_true hin) w')
        have HE := hide (uniR_yes hba hbb hj5)
        have HA := hide (fun (k : Nat) (_ : k ≤ j) (w' : World) (d : Below w.heap.size w w') => by have h := sclo_any A n c B a (k : Int) (by omega) w' (hS.below d) hn hsm; rw [clsO_yes hba (by omega), sift_all] at h; exact h)
        have HB := hide (fun (k : Nat) (_ : k ≤ j) (w' : World) (d : Below w.heap.size w w') => by have h := sclo_any A' n' c' B' b (k : Int) (by omega) w' (hS'.below d) hn' hsm'; rw [clsO_yes hbb (by omega), sift_all] at h; exact h)
        clear hS hS' hsm hsm' hba hbb hin hm1 hm2
        go_enter Tryz.func20, Tryz.ntmps20
        go_wp2_with fail
        refine (unhide H1).mono ?_
        rintro e w1 ⟨rfl, d1⟩
        have H4 := hide (unhide H2 w1 d1)
        clear H1 H2
        go_wp2_with fail
        refine (unhide H4).mono ?_
        rintro e w2 ⟨rfl, d2⟩
        have hb2 := below_after d1 d2
        clear H4 d1 d2
        go_wp2_with fail
        refine (unhide H3 w2).mono ?_
        rintro e w3 ⟨rfl, hw3⟩
        rw [hw3]
        clear H3 hw3 w3
        have hI0 := IntsS.made0 w2 w.heap.size hb2.size
        have hb3 := hb2.alloc hb2.size (.cells #[] 36)
        clear hb2
        go_wp2
        go_loopw [7, 8] (fun v i wr => ∃ k : Nat, k ≤ j + 1 ∧ i = .int .i64 k ∧ IntsS wr w.heap.size v (uniN a b k) ∧ Below w.heap.size w wr) (fun _ i _ => j + 1 - (intOf i).toNat)
        case atStart => exact ⟨0, Nat.zero_le _, rfl, hI0, hb3⟩
        case round =>
          obtain ⟨k, hk, rfl, hI, hb⟩ := hrel
          clear hI0 hb3
          by_cases hlt : k < j + 1
          · have hlt2 : (k : Int) ≤ (j : Int) := by omega
            have H5 := hide (unhide HA k (by omega) wr hb)
            have hU := uniN_le a b k (by omega)
            have hZ1 : (clsN a k).length ≤ 1048576 := Nat.le_trans (clsN_len a (show k ≤ 6 by omega)) (by omega)
            have hZ2 : (clsN b k).length ≤ 1048576 := Nat.le_trans (clsN_len b (show k ≤ 6 by omega)) (by omega)
            have hUZ : (uniN a b k ++ clsN a k).length ≤ 1048576 := by rw [List.length_append]; have := clsN_len a (show k ≤ 6 by omega); omega
            have hUl : (uniN a b k).length ≤ 1048576 := by omega
            have HN := hide (uniN_step a b k)
            have hsz := hb.size
            change Hid (Calls _ _ _ _ (GivesSS wr (clsN a k))) at H5
            clear hU
            go_wp2_with fail
            refine (unhide H5).mono ?_
            rintro e w5 ⟨A5, c5, rfl, o5, d5⟩
            have hb5 := below_after hb d5
            clear H5
            go_wp2_with (first
              | (at_builtin; refine wpList_append_lists rfl (.tmp 29) (.tmp 32) rfl w.heap.size w wr w5 _ A5 (clsN a k).length c5 (uniN a b k) (clsN a k) rfl rfl hI d5 o5 hUl hZ1 hb5 hsz ?_; intro v6 w6 hI6 hb6))
            have H7 := hide (unhide HB k (by omega) w6 hb6)
            have hsz6 := hb6.size
            change Hid (Calls _ _ _ _ (GivesSS w6 (clsN b k))) at H7
            clear hI d5 o5 hb5 hUl hZ1 hsz hb
            go_wp2_with fail
            refine (unhide H7).mono ?_
            rintro e w7 ⟨A7, c7, rfl, o7, d7⟩
            have hb7 := below_after hb6 d7
            clear H7
            go_wp2_with (first
              | (at_builtin; refine wpList_append_lists rfl (.tmp 34) (.tmp 37) rfl w.heap.size w w6 w7 _ A7 (clsN b k).length c7 (uniN a b k ++ clsN a k) (clsN b k) rfl rfl hI6 d7 o7 hUZ hZ2 hb7 hsz6 ?_; intro v8 w8 hI8 hb8))
            rw [← unhide HN] at hI8
            clear hI6 hb6 d7 o7 hb7 hUZ hZ2 hsz6
            go_roundw
            case rel => exact ⟨k + 1, by omega, by go_num, hI8, hb8⟩
            case measure => simp [intOf]; omega
          · obtain rfl : k = j + 1 := by omega
            have hlt2 : ¬ ((j : Int) + 1 ≤ (j : Int)) := by omega
            obtain ⟨A5, c5, rfl⟩ := hI.slice
            have hU := uniN_le a b (j + 1) (by omega)
            have H5 := hide (sbu_any A5 (uniN a b (j + 1)).length c5 _ (uniN a b (j + 1)) (j : Int) (by omega) wr hI (by omega) (perm_rows (uniN_P (by omega))))
            rw [← unhide HE] at H5
            clear hI hU
            go_wp2_with fail
            refine (unhide H5).mono ?_
            rintro e w5 ⟨A6, c6, rfl, o6, d6⟩
            have HI := hide (o6.low hb.size)
            have hb6 := below_after hb d6
            clear H5 o6 d6 hb
            go_wp2
            go_ret
            exact GivesSS.mk (unhide HI) hb6
      · rw [uniR_no (fun h => hin h.2.2)]
        have H3 := hide (fun w' => l1in_any m 0 5 false (decide_eq_false hin) w')
        clear hS hS' hsm hsm' hba hbb hin
        go_enter Tryz.func20, Tryz.ntmps20
        go_wp2_with fail
        refine (unhide H1).mono ?_
        rintro e w1 ⟨rfl, d1⟩
        have H4 := hide (unhide H2 w1 d1)
        clear H1 H2
        go_wp2_with fail
        refine (unhide H4).mono ?_
        rintro e w2 ⟨rfl, d2⟩
        have hb2 := below_after d1 d2
        clear H4 d1 d2
        go_wp2_with fail
        refine (unhide H3 w2).mono ?_
        rintro e w3 ⟨rfl, hw3⟩
        rw [hw3]
        clear H3 hw3 w3
        have hm := IntsS.made0 w2 w.heap.size hb2.size
        have hb3 := hb2.alloc hb2.size (.cells #[] 36)
        clear hb2
        go_wp2
        go_ret
        exact GivesSS.mk hm hb3
set_option maxHeartbeats 1600000 in
theorem ssymb_any (A : Option Addr) (n c B : Nat) (L : List (List Int)) (m : Int) (hm : -9223372036854775808 ≤ m ∧ m ≤ 9223372036854775807) (w : World) (hS : IntsS w B (.slice A n c) L) (hn : n ≤ 1048576) (hsm : ∀ z ∈ L, z.length ≤ 1048576 ∧ Small z) :
    Calls Tryz.prog 13 #[.slice A n c, .int .i64 m] w (GivesSSB w (symBR L m) (symBOK L m)) := by
  obtain ⟨hm1, hm2⟩ := hm
  obtain ⟨b, hb⟩ : ∃ x, basis L = x := ⟨_, rfl⟩
  have H1 := hide (sbas_any A n c B L w hS hn hsm)
  rw [hb] at H1
  cases b with
  | false =>
    have hno : symBOK L m = false := by unfold symBOK; rw [hb]; rfl
    rw [symBR_no hno, hno]
    clear hS hsm hb hno
    go_enter Tryz.func13, Tryz.ntmps13
    go_wp2_with fail
    refine (unhide H1).mono ?_
    rintro e w1 ⟨rfl, d1⟩
    have hm := IntsS.made0 w1 w.heap.size d1.size
    have hb2 := d1.alloc d1.size (.cells #[] 36)
    clear H1 d1
    go_wp2
    go_ret2
    exact GivesSSB.mk false hm hb2
  | true =>
    by_cases hin : 0 ≤ m ∧ m ≤ 7
    · obtain ⟨k, rfl⟩ : ∃ k : Nat, m = (k : Int) := ⟨m.toNat, by omega⟩
      have hk7 : k ≤ 7 := by omega
      obtain ⟨e1, e2⟩ := symBR_yes hb hk7
      rw [e1, e2, symB_ord L k hb]
      have hl := hS.len
      have hn8 : n ≤ 8 := by have := basis_le hb; omega
      have H2 := hide (fun w' => l1in_any (k : Int) 0 7 true (decide_eq_true hin) w')
      have HA := hide (⟨hS, fun z hz => (basis_isP hb z hz).1⟩ : IntsS w B (.slice A n c) L ∧ ∀ z ∈ L, isP z = true)
      have HPL := hide (fun (j : Nat) (z : List Int) (hz : z ∈ ordL (L.map fun z => symL z k) j) => (show isP z = true by
        rw [ordL_mem] at hz
        obtain ⟨y, hy, rfl⟩ := List.mem_map.1 (List.mem_of_mem_take hz)
        exact symL_isP (basis_isP hb y hy).1 k))
      have HLEN := hide (fun (j : Nat) => Nat.le_trans (ordL_len (L.map fun z => symL z k) j) (by rw [List.length_map, hl]; exact hn8 : (L.map fun z => symL z k).length ≤ 8))
      have HST := hide (fun (j : Nat) (z : List Int) (hz : L[j]? = some z) => (show ordL (L.map fun z => symL z k) (j + 1) = putL (ordL (L.map fun z => symL z k) j) (symL z k) from ordL_step (by rw [List.getElem?_map, hz]; rfl)))
      have HL := hide hl
      have HZ0 := hide (ordL_zero (L.map fun z => symL z k))
      obtain ⟨O, hO⟩ : ∃ O, O = ordL (L.map fun z => symL z k) := ⟨_, rfl⟩
      rw [← hO] at HPL HLEN HST HZ0 ⊢
      clear hS hsm hb hin hm1 hm2 e1 e2 hO hl
      go_enter Tryz.func13, Tryz.ntmps13
      go_wp2_with fail
      refine (unhide H1).mono ?_
      rintro e w1 ⟨rfl, d1⟩
      clear H1
      go_wp2_with fail
      refine (unhide H2 w1).mono ?_
      rintro e w3 ⟨rfl, hw3⟩
      rw [hw3]
      clear H2 hw3 w3
      have hI0 := IntsS.made0 w1 w.heap.size d1.size
      have hb0 := d1.alloc d1.size (.cells #[] 36)
      clear d1
      go_wp2
      go_loopw [6, 7] (fun v i wr => ∃ (j g cap : Nat), j ≤ n ∧ i = .int .i64 j ∧ v = .slice (some ⟨g, 0, none⟩) (O j).length cap ∧ IntsS wr w.heap.size (.slice (some ⟨g, 0, none⟩) (O j).length cap) (O j) ∧ Below w.heap.size w wr) (fun _ i _ => n - (intOf i).toNat)
      case atStart => exact ⟨0, _, 0, Nat.zero_le _, rfl, by rw [unhide HZ0]; rfl, by rw [unhide HZ0]; exact hI0, hb0⟩
      case round =>
        obtain ⟨j, g, cap, hj, rfl, rfl, hI, hbr⟩ := hrel
        clear hI0 hb0
        have hOl := unhide HLEN j
        by_cases hlt : j < n
        · obtain ⟨ad, A6, c6, z, rfl, hz, hcell, hIz⟩ := ((unhide HA).1.below hbr).at_ hlt
          have hzp := (unhide HA).2 z (List.mem_of_getElem? hz)
          have H3 := hide (l3sym_any A6 z.length c6 _ z k hk7 wr (hIz.argP hzp) hzp)
          have H4 := hide (fun (w' : World) (d : Below wr.heap.size wr w') (A9 : Option Addr) (c9 : Nat) (o : Ints w' wr.heap.size (.slice A9 (symL z k).length c9) (symL z k)) => l3put_any w.heap.size (O j) g (O j).length cap A9 (symL z k).length c9 _ (symL z k) w' (hI.below d) (o.argP (symL_isP hzp k)) (Nat.le_trans hbr.size d.size) (fun y hy => unhide HPL j y hy) (by omega))
          rw [← unhide HST j z hz] at H4
          obtain ⟨lz, hlz⟩ : ∃ l, l = z.length := ⟨_, rfl⟩
          rw [← hlz] at hcell H3
          obtain ⟨OJ, hOJ⟩ : ∃ l, l = O j := ⟨_, rfl⟩
          rw [← hOJ] at H4 hI hOl ⊢
          clear hz hzp hIz hlz hI hOJ
          go_wp2_with fail
          refine (unhide H3).mono ?_
          rintro e w4 ⟨A4, c4, rfl, o4, d4⟩
          have H5 := hide (unhide H4 w4 d4 A4 c4 o4)
          have hb4 := below_after hbr d4
          clear H3 H4 o4 d4 hcell hbr
          go_wp2_with fail
          refine (unhide H5).mono ?_
          rintro e w5 ⟨v5, rfl, ⟨hI5, g5, cap5, rfl⟩, d5, _⟩
          have hb5 := hb4.trans d5
          clear H5 d5 hb4
          go_wp2
          go_roundw
          case rel => exact ⟨j + 1, g5, cap5, by omega, by go_num, rfl, hI5, hb5⟩
          case measure => simp [intOf]; omega
        · have hjn : j = n := by omega
          have hE : O j = O L.length := by rw [unhide HL, hjn]
          rw [hE] at hI ⊢
          have HI := hide hI
          clear hI hE hjn hOl
          go_wp2
          go_ret2
          exact GivesSSB.mk true (unhide HI) hbr
    · have hno : symBOK L m = false := by unfold symBOK; rw [hb, decide_eq_false hin]; rfl
      rw [symBR_no hno, hno]
      have H2 := hide (fun w' => l1in_any m 0 7 false (decide_eq_false hin) w')
      clear hS hsm hb hno hin
      go_enter Tryz.func13, Tryz.ntmps13
      go_wp2_with fail
      refine (unhide H1).mono ?_
      rintro e w1 ⟨rfl, d1⟩
      clear H1
      go_wp2_with fail
      refine (unhide H2 w1).mono ?_
      rintro e w3 ⟨rfl, hw3⟩
      rw [hw3]
      clear H2 hw3 w3
      have hm := IntsS.made0 w1 w.heap.size d1.size
      have hb2 := d1.alloc d1.size (.cells #[] 36)
      clear d1
      go_wp2
      go_ret2
      exact GivesSSB.mk false hm hb2
end Go.Proofs.YtoiipedomgefaaaGreatDoor


/-
  slices.SortFunc over rows of rows, under impl.comparePerms.
-/

namespace Go.Proofs.YtoiipedomgefaaaGreatDoor
set_option maxRecDepth 100000
open Go.RowKit

/-! rows, each with what it holds -/
abbrev Pr := Value × List Int
structure RowPrs (w : World) (B : Nat) (xs : List Pr) : Prop where
  row : ∀ q ∈ xs, Ints w B q.1 q.2
  away : xs.Pairwise fun a b => Away a.1 b.1
theorem RowPrs.inner {w : World} {B : Nat} {xs : List Pr} (h : RowPrs w B xs) : Inner w B (xs.map (·.1)) (xs.map (·.2)) := by
  refine ⟨by simp, fun i u zs hu hz => ?_, ?_⟩
  · rw [List.getElem?_map] at hu hz
    cases hq : xs[i]? with
    | none => rw [hq] at hu; cases hu
    | some q =>
      rw [hq] at hu hz
      cases hu; cases hz
      exact h.row q (List.mem_of_getElem? hq)
  · rw [List.pairwise_map]
    exact h.away
theorem Inner.prs {w : World} {B : Nat} {vs : List Value} {zss : List (List Int)} (h : Inner w B vs zss) : ∃ xs : List Pr, xs.map (·.1) = vs ∧ xs.map (·.2) = zss ∧ RowPrs w B xs := by
  have h1 : (vs.zip zss).map (·.1) = vs := List.map_fst_zip (by rw [h.len]; exact Nat.le_refl _)
  have h2 : (vs.zip zss).map (·.2) = zss := List.map_snd_zip (by rw [h.len]; exact Nat.le_refl _)
  refine ⟨vs.zip zss, h1, h2, fun q hq => ?_, ?_⟩
  · obtain ⟨i, hi, rfl⟩ := List.getElem_of_mem hq
    rw [List.length_zip] at hi
    exact h.row i _ _ (by rw [List.getElem_zip]; exact List.getElem?_eq_getElem (by omega)) (by rw [List.getElem_zip]; exact List.getElem?_eq_getElem (by omega))
  · have := h.away
    rw [← h1, List.pairwise_map] at this
    exact this
theorem RowPrs.sub {w : World} {B : Nat} {xs ys : List Pr} (h : RowPrs w B xs) (hs : ys.Sublist xs) : RowPrs w B ys := ⟨fun q hq => h.row q (hs.subset hq), h.away.sublist hs⟩
theorem RowPrs.perm {w : World} {B : Nat} {xs ys : List Pr} (h : RowPrs w B xs) (hp : ys.Perm xs) : RowPrs w B ys :=
  ⟨fun q hq => h.row q (hp.subset hq), (hp.pairwise_iff (fun {_ _} h => h.symm)).2 h.away⟩
theorem RowPrs.keepI {w w' : World} {B : Nat} {xs : List Pr} (h : RowPrs w B xs) (hk : KeepI w w') : RowPrs w' B xs := ⟨fun q hq => (h.row q hq).keepI hk, h.away⟩

/-! the sort -/
structure El (w : World) (B : Nat) where
  q : Pr
  row : Ints w B q.1 q.2
  perm : isP q.2 = true
def El.enc {w : World} {B : Nat} (x : El w B) : Value := x.q.1
def El.cf {w : World} {B : Nat} (x y : El w B) : Int := cmpV x.q.2 y.q.2
theorem els {w : World} {B : Nat} : ∀ xs : List Pr, (∀ q ∈ xs, Ints w B q.1 q.2 ∧ isP q.2 = true) → ∃ ds : List (El w B), ds.map (·.q) = xs
  | [], _ => ⟨[], rfl⟩
  | q :: xs, h => by
    obtain ⟨ds, hd⟩ := els xs fun q hq => h q (by simp [hq])
    exact ⟨⟨q, (h q (by simp)).1, (h q (by simp)).2⟩ :: ds, by rw [List.map_cons, hd]⟩
theorem El.one {w : World} {B : Nat} : OneCell (El.enc (w := w) (B := B)) := fun x => by
  obtain ⟨A, c, h⟩ := x.row.slice
  unfold El.enc
  rw [h]; rfl
theorem El.swo {w : World} {B : Nat} : Sort.SWO (ltOf (El.cf (w := w) (B := B))) where
  irrefl x := by unfold ltOf El.cf; rw [cmpV_befL]; exact befL_irrefl _
  trans x y z h1 h2 := by unfold ltOf El.cf at *; rw [cmpV_befL] at *; exact befL_trans h1 h2
  ntrans x y z h1 h2 := by
    unfold ltOf El.cf at *
    rw [cmpV_befL] at *
    cases h3 : befL x.q.2 z.q.2 with
    | false => rfl
    | true =>
      have h4 := befL_le_lt h1 h3
      rw [h2] at h4; cases h4
theorem take_put {α : Type} [Inhabited α] (enc : α → Value) (cur : Array Value) (d : Array α) (h : d.size ≤ cur.size) : (Sort.putCells enc 0 d cur).toList.take d.size = d.toList.map enc := by
  apply List.ext_getElem?
  intro j
  by_cases hj : j < d.size
  · rw [List.getElem?_take_of_lt hj, Array.getElem?_toList]
    simp [Sort.putCells, hj, show j < cur.size by omega]
  · rw [List.getElem?_take_eq_none (by omega), List.getElem?_eq_none (by simp; omega)]
theorem heap_put {α : Type} [Inhabited α] (enc : α → Value) {w : World} {g m : Nat} {os : Array Obj} {cur : Array Value} {e : TypeId} {fr : Nat × Nat} (d : Array α) (hb : w.heap[g]? = some (.cells cur e fr)) :
    (sortWorld enc w g 0 m d os).heap[g]? = some (.cells (Sort.putCells enc 0 d cur) e fr) := by
  have hg : g < w.heap.size := (Array.getElem?_eq_some_iff.1 hb).1
  unfold sortWorld
  rw [Sort.heap_grow_old _ _ (by simpa using hg)]
  simp [Sort.putRow, Sort.mapBlock, Sort.ahead, Array.getElem?_modify, hb, Sort.onCells]
theorem heap_far {α : Type} [Inhabited α] (enc : α → Value) {w : World} {g m : Nat} {os : Array Obj} (d : Array α) {i : Nat} (hi : i < w.heap.size) (hne : g ≠ i) : (sortWorld enc w g 0 m d os).heap[i]? = w.heap[i]? := by
  unfold sortWorld
  rw [Sort.heap_grow_old _ _ (by simpa using hi)]
  simp [Sort.putRow, Sort.mapBlock, Sort.ahead, Array.getElem?_modify, hne]
theorem size_sorted {α : Type} [Inhabited α] (enc : α → Value) (w : World) (g m : Nat) (os : Array Obj) (d : Array α) : w.heap.size ≤ (sortWorld enc w g 0 m d os).heap.size := by unfold sortWorld; simp
theorem grown_sorted {α : Type} [Inhabited α] (enc : α → Value) (w : World) (g m : Nat) (os : Array Obj) (d : Array α) : w.grownBy (sortWorld enc w g 0 m d os) (some g) :=
  ⟨rfl, rfl, rfl, size_sorted enc w g m os d, fun _ hk hne => heap_far enc d hk fun e => hne (by rw [e])⟩
theorem own_sorted {α : Type} [Inhabited α] (enc : α → Value) {w : World} {B g n cap m : Nat} {e : TypeId} {os : Array Obj} {xs : List Value} (d : Array α) (hd : d.size = n) (h : w.ownsRow B e 1 (.slice (some ⟨g, 0, none⟩) n cap) n xs) :
    (sortWorld enc w g 0 m d os).ownsRow B e 1 (.slice (some ⟨g, 0, none⟩) n cap) n (d.toList.map enc) := by
  refine ⟨by simp [hd], ?_⟩
  rcases h.2 with ⟨hv, _⟩ | ⟨g', cap', cur, hv, hb, hg, hnc, hc, hsz, ht⟩
  · cases hv
  · injection hv with h1 h2 h3
    injection h1 with h1
    injection h1 with h1
    subst h1; subst h3
    exact .inr ⟨g, cap, _, rfl, hb, heap_put enc d hg, hnc, hc, by simpa [Sort.putCells] using hsz, by rw [Nat.mul_one, ← hd]; exact take_put enc cur d (by omega)⟩
theorem holds_own {α : Type} [Inhabited α] (enc : α → Value) {w : World} {B g n cap : Nat} {e : TypeId} (ds : List α) (h : w.ownsRow B e 1 (.slice (some ⟨g, 0, none⟩) n cap) n (ds.map enc)) : Sort.Holds enc w g 0 ds.toArray := by
  have hl : ds.length = n := by simpa using h.1
  intro j hj
  have hj' : j < ds.length := by simpa using hj
  refine ⟨?_, by rw [Nat.zero_add]; exact h.frozenAt j⟩
  rw [Nat.zero_add, h.cellAt j (by omega)]
  simp [hj']

/-- A row of rows, sorted: the same rows, in order. -/
def Sorted (w : World) (B g n cap : Nat) (xs : List Pr) (e : Ending) (w' : World) : Prop :=
  e = .returned (.tuple #[]) ∧ ∃ ys : List Pr, ys.Perm xs ∧ (∀ (i j : Nat) (x y : Pr), i < j → ys[i]? = some x → ys[j]? = some y → befL y.2 x.2 = false) ∧
    w'.ownsRow B 36 1 (.slice (some ⟨g, 0, none⟩) n cap) n (ys.map (·.1)) ∧ w.grownBy w' (some g)
theorem sort_any (w : World) (B g n cap : Nat) (xs : List Pr) (hown : w.ownsRow B 36 1 (.slice (some ⟨g, 0, none⟩) n cap) n (xs.map (·.1))) (hx : RowPrs w B xs) (hP : ∀ q ∈ xs, isP q.2 = true) (hn : n ≤ 1048576) :
    Calls Tryz.prog 103 #[.slice (some ⟨g, 0, none⟩) n cap, .func (.func 104) #[] #[]] w (Sorted w B g n cap xs) := by
  have hl : xs.length = n := by simpa using hown.1
  cases xs with
  | nil =>
    obtain rfl : n = 0 := by simpa using hl.symm
    refine (Tryz.slices_SortFunc_none (α := Unit) _ _ _ w).mono ?_
    rintro e w' ⟨rfl, rfl⟩
    exact ⟨rfl, [], List.Perm.refl _, fun i j x y _ h => by simp at h, hown, World.grownBy.refl _ _⟩
  | cons q xs =>
    obtain ⟨ds, hds⟩ := els (q :: xs) fun p hp => ⟨hx.row p hp, hP p hp⟩
    have hq := hx.row q (by simp)
    have hqP := hP q (by simp)
    letI : Inhabited (El w B) := ⟨⟨q, hq, hqP⟩⟩
    have henc : ds.map El.enc = (q :: xs).map (·.1) := by rw [← hds, List.map_map]; rfl
    have hdl : ds.length = n := by rw [← hl, ← hds, List.length_map]
    have hg := (hown.lt g rfl).2
    have eg : ∀ args w, (callFunc 104 args).run Tryz.prog w = .ok (.enter 104 args) w := enters_of Tryz.func104 (by kernel_rfl) rfl
    have hcmp : CmpLays1 Tryz.prog 104 #[] (El.enc (w := w) (B := B)) El.cf g 0 ds.toArray.size w := fun m os dk hs x y => by
      have hk : KeepI w (sortWorld El.enc w g 0 m dk os) := by
        have hgr := grown_sorted (El.enc (w := w) (B := B)) w g m os dk
        exact KeepI.of_grown hown hgr
      obtain ⟨A1, c1, h1⟩ := x.row.slice
      obtain ⟨A2, c2, h2⟩ := y.row.slice
      have i1 := x.row.keepI hk
      have i2 := y.row.keepI hk
      show Calls _ _ #[x.q.1, y.q.1] _ _
      rw [h1] at i1 ⊢
      rw [h2] at i2 ⊢
      exact comparePerms_any A1 A2 _ c1 _ _ c2 _ x.q.2 y.q.2 _ (i1.argP x.perm) (i2.argP y.perm)
    have hcon := Tryz.slices_SortFunc (El.enc (w := w) (B := B)) El.one El.cf El.swo 104 #[] g 0 cap ds.toArray w eg hcmp (holds_own El.enc ds (by rw [henc]; exact hown)) hg (by simp; omega)
    rw [show ds.toArray.size = n by simpa using hdl] at hcon
    refine hcon.mono ?_
    rintro e w' ⟨rfl, d', m, os, hp, hs, rfl⟩
    obtain ⟨p1, _, p3⟩ := hp
    have hd' : d'.size = n := by rw [p1]; simpa using hdl
    have hperm : d'.toList.Perm ds := by
      have h1 : d'.extract 0 n = d' := by rw [← hd']; simp
      have h2 : ds.toArray.extract 0 n = ds.toArray := by rw [← hdl]; simp
      rw [h1, h2] at p3
      simpa using p3
    refine ⟨rfl, d'.toList.map (·.q), by rw [← hds]; exact hperm.map _, fun i j x y hij hi hj => ?_, ?_, grown_sorted _ _ _ _ _ _⟩
    · rw [List.getElem?_map] at hi hj
      have hjn : j < n := by
        cases hq : d'.toList[j]? with
        | none => rw [hq] at hj; cases hj
        | some u => have := (List.getElem?_eq_some_iff.1 hq).1; simpa [hd'] using this
      have := hs i j (Nat.zero_le _) hij hjn
      unfold ltOf El.cf at this
      rw [cmpV_befL] at this
      rw [getElem!_pos d' i (by omega), getElem!_pos d' j (by omega)] at this
      rw [List.getElem?_eq_getElem (by simp; omega)] at hi hj
      simp at hi hj
      subst hi; subst hj
      exact this
    · rw [List.map_map]
      exact own_sorted El.enc d' hd' hown
end Go.Proofs.YtoiipedomgefaaaGreatDoor


/-
  slices.CompactFunc over rows of rows, under slices.Equal.
-/

namespace Go.Proofs.YtoiipedomgefaaaGreatDoor
set_option maxRecDepth 100000
open Go.RowKit

/-! plain -/
theorem keepN_le {α : Type} {f : α → List Int} (xs : List α) (k : Nat) : (keepN f xs k).length ≤ k := by
  have h := (keepN_sub (f := f) xs k).length_le
  rw [List.length_take] at h
  omega
/-- The cells in the midst of the work: what was kept, then what stood there. -/
def midV (xs : List Pr) (j : Nat) : List Value := (keepN (·.2) xs j).map (·.1) ++ (xs.map (·.1)).drop (keepN (·.2) xs j).length
theorem midV_len {xs : List Pr} {j : Nat} (h : j ≤ xs.length) : (midV xs j).length = xs.length := by
  have := keepN_le (f := fun q : Pr => q.2) xs j
  unfold midV
  rw [List.length_append, List.length_drop, List.length_map, List.length_map]
  omega
theorem midV_at {xs : List Pr} {j i : Nat} {q : Pr} (h : (keepN (·.2) xs j).length ≤ i) (hq : xs[i]? = some q) : (midV xs j)[i]? = some q.1 := by
  unfold midV
  rw [List.getElem?_append_right (by rw [List.length_map]; exact h), List.length_map, List.getElem?_drop, show (keepN (·.2) xs j).length + (i - (keepN (·.2) xs j).length) = i by omega, List.getElem?_map, hq]
  rfl
theorem midV_same {xs : List Pr} {k : Nat} {x y : Pr} (h : xs[k]? = some x) (hk : 0 < k) (hy : xs[k - 1]? = some y) (he : y.2 = x.2) : midV xs (k + 1) = midV xs k := by
  unfold midV
  rw [keepN_same (f := fun q : Pr => q.2) h hk hy he]
theorem midV_new {xs : List Pr} {k : Nat} {x y : Pr} (h : xs[k]? = some x) (hy : xs[k - 1]? = some y) (he : y.2 ≠ x.2) : midV xs (k + 1) = (midV xs k).set (keepN (·.2) xs k).length x.1 := by
  have hk : k < xs.length := (List.getElem?_eq_some_iff.1 h).1
  have hle := keepN_le (f := fun q : Pr => q.2) xs k
  unfold midV
  rw [keepN_new (f := fun q : Pr => q.2) h hy he, List.map_append, List.length_append, List.length_singleton, List.map_singleton]
  rw [List.set_append_right _ _ (by rw [List.length_map]; exact Nat.le_refl _), List.length_map, Nat.sub_self]
  rw [List.drop_eq_getElem_cons (show (keepN (fun q : Pr => q.2) xs k).length < (xs.map (·.1)).length by rw [List.length_map]; omega), List.set_cons_zero]
  simp
theorem keepN_all {xs : List Pr} {k : Nat} {x y : Pr} (h : keepN (·.2) xs k = xs.take k) (hx : xs[k]? = some x) (hy : xs[k - 1]? = some y) (he : y.2 ≠ x.2) : keepN (·.2) xs (k + 1) = xs.take (k + 1) := by
  rw [keepN_new (f := fun q : Pr => q.2) hx hy he, h, List.take_add_one, hx]
  rfl
theorem keepN_first {xs : List Pr} (h : 0 < xs.length) : keepN (·.2) xs 1 = xs.take 1 := by
  rw [keepN_one (List.getElem?_eq_getElem h), List.take_add_one, List.getElem?_eq_getElem h]
  rfl
theorem midV_take {xs : List Pr} {k : Nat} (h : keepN (·.2) xs k = xs.take k) : midV xs k = xs.map (·.1) := by
  unfold midV
  rw [h, List.length_take]
  by_cases hk : k ≤ xs.length
  · rw [Nat.min_eq_left hk, List.map_take, List.take_append_drop]
  · rw [Nat.min_eq_right (by omega), List.take_of_length_le (by omega), List.drop_of_length_le (by rw [List.length_map]; exact Nat.le_refl _), List.append_nil]

/-! memory -/
theorem own_cells {B g n cap : Nat} {e : TypeId} : ∀ (vs : List Value) (o : Nat) (w : World) (xs : List Value), w.ownsRow B e 1 (.slice (some ⟨g, 0, none⟩) n cap) n xs →
    ∃ ys, (w.setCells g o vs).ownsRow B e 1 (.slice (some ⟨g, 0, none⟩) n cap) n ys ∧ ys.take o = xs.take o ∧ w.grownBy (w.setCells g o vs) (some g)
  | [], o, w, xs, h => ⟨xs, h, rfl, World.grownBy.refl _ _⟩
  | v :: vs, o, w, xs, h => by
    have h1 := h.stored o v
    obtain ⟨ys, h2, h3, h4⟩ := own_cells vs (o + 1) _ _ h1.1
    refine ⟨ys, h2, ?_, grown_then h1.2 h4⟩
    have := congrArg (List.take o) h3
    rw [List.take_take, List.take_take, Nat.min_eq_left (by omega)] at this
    rw [this, List.take_set_of_le (Nat.le_refl _)]
theorem Arg.drewN {w : World} {B n c : Nat} {A : Option Addr} {zs : List Int} (h : Arg w B A n c zs) (k : Nat) : Arg (w.drewN k) B A n c zs := ⟨h.reads.drewN k, h.under, h.le, h.cap, h.small, h.nil⟩
theorem decide_same {p q : List Int} (h : decide (p = q) = true) : q = p := (of_decide_eq_true h).symm
theorem decide_diff {p q : List Int} (h : decide (p = q) = false) : q ≠ p := fun e => of_decide_eq_false h e.symm
/-- Where a row stands in the midst of CompactFunc. -/
structure Mid (w wr : World) (B g n cap : Nat) (xs : List Pr) (j : Nat) : Prop where
  own : wr.ownsRow B 36 1 (.slice (some ⟨g, 0, none⟩) n cap) n (midV xs j)
  grown : w.grownBy wr (some g)
theorem Mid.cell {w wr : World} {B g n cap j i : Nat} {xs : List Pr} {q : Pr} (h : Mid w wr B g n cap xs j) (hi : (keepN (·.2) xs j).length ≤ i) (hn : i < n) (hq : xs[i]? = some q) : wr.cell? ⟨g, i, none⟩ = some q.1 := by
  rw [h.own.cellAt i (by omega)]
  exact midV_at hi hq
theorem Mid.drewN {w wr : World} {B g n cap j : Nat} {xs : List Pr} (h : Mid w wr B g n cap xs j) (k : Nat) : Mid w (wr.drewN k) B g n cap xs j := ⟨own_below h.own ((Drew.refl wr).more k |>.below _), grown_then h.grown (grown_of_below ((Drew.refl wr).more k |>.below _) _)⟩

def Compacted (w : World) (B g cap : Nat) (xs : List Pr) (e : Ending) (w' : World) : Prop :=
  e = .returned (.slice (some ⟨g, 0, none⟩) (keepN (·.2) xs xs.length).length cap) ∧ w'.ownsRow B 36 1 (.slice (some ⟨g, 0, none⟩) (keepN (·.2) xs xs.length).length cap) (keepN (·.2) xs xs.length).length ((keepN (·.2) xs xs.length).map (·.1)) ∧ w.grownBy w' (some g)

set_option maxHeartbeats 1600000 in
theorem compact_any (w : World) (B g n cap : Nat) (xs : List Pr) (hown : w.ownsRow B 36 1 (.slice (some ⟨g, 0, none⟩) n cap) n (xs.map (·.1))) (hx : RowPrs w B xs) (hP : ∀ q ∈ xs, isP q.2 = true) (hn : n ≤ 1048576) (hnc : n ≤ cap) :
    Calls Tryz.prog 105 #[.slice (some ⟨g, 0, none⟩) n cap, .func (.func 106) #[] #[]] w (Compacted w B g cap xs) := by
  have hl : xs.length = n := by simpa using hown.1
  by_cases h2 : n < 2
  · have hk : keepN (·.2) xs xs.length = xs := by
      rw [hl]
      by_cases h0 : n = 0
      · subst h0
        obtain rfl := List.eq_nil_of_length_eq_zero hl
        rfl
      · obtain rfl : n = 1 := by omega
        rw [keepN_first (by omega), List.take_of_length_le (by omega)]
    have hfin : Compacted w B g cap xs (.returned (.slice (some ⟨g, 0, none⟩) n cap)) w := by
      unfold Compacted
      rw [hk, hl]
      exact ⟨rfl, hown, World.grownBy.refl _ _⟩
    clear hk hown hx hP
    go_enter Tryz.func105, Tryz.ntmps105
    go_wp2
    go_ret
    exact hfin
  · have HL := hide hl
    have HX := hide hx
    have HP := hide hP
    have hstart : Mid w w B g n cap xs 1 := ⟨by rw [midV_take (keepN_first (by omega))]; exact hown, World.grownBy.refl _ _⟩
    have HOWN := hide hown
    clear hl hx hP hown
    go_enter Tryz.func105, Tryz.ntmps105
    go_wp2
    go_loopw [5] (fun i wr => ∃ k : Nat, 1 ≤ k ∧ k ≤ n ∧ i = .int .i64 k ∧ Mid w wr B g n cap xs k ∧ Hid (keepN (·.2) xs k = xs.take k)) (fun i _ => n - (intOf i).toNat)
    case atStart => exact ⟨1, Nat.le_refl _, by omega, rfl, hstart, by exact keepN_first (by rw [unhide HL]; omega)⟩
    case round =>
      obtain ⟨k, hk1, hk, rfl, hM, hKeep⟩ := hrel
      clear hstart
      by_cases hlt : k < n
      · obtain ⟨j, rfl⟩ : ∃ j, k = j + 1 := ⟨k - 1, by omega⟩
        have hkl := keepN_le (f := fun q : Pr => q.2) xs (j + 1)
        have hkj : (keepN (·.2) xs (j + 1)).length = j + 1 := by rw [unhide hKeep, List.length_take, unhide HL]; omega
        have hqx : xs[j + 1]? = some (xs[j + 1]'(by rw [unhide HL]; exact hlt)) := List.getElem?_eq_getElem _
        have hqy : xs[j]? = some (xs[j]'(by rw [unhide HL]; omega)) := List.getElem?_eq_getElem _
        generalize xs[j + 1]'(by rw [unhide HL]; exact hlt) = x at hqx
        generalize xs[j]'(by rw [unhide HL]; omega) = y at hqy
        obtain ⟨vx, px⟩ := x
        obtain ⟨vy, py⟩ := y
        have hmv := midV_take (unhide hKeep)
        have hcx : wr.cell? ⟨g, j + 1, none⟩ = some vx := by rw [hM.own.cellAt (j + 1) (by omega), hmv, List.getElem?_map, hqx]; rfl
        have hcy : wr.cell? ⟨g, j, none⟩ = some vy := by rw [hM.own.cellAt j (by omega), hmv, List.getElem?_map, hqy]; rfl
        have hkI : KeepI w wr := by
          have h0 := KeepI.of_grown (w' := wr) (v := .slice (some ⟨g, 0, none⟩) n cap) (unhide HOWN) hM.grown
          exact h0
        have ix : Ints wr B vx px := ((unhide HX).row _ (List.mem_of_getElem? hqx)).keepI hkI
        have iy : Ints wr B vy py := ((unhide HX).row _ (List.mem_of_getElem? hqy)).keepI hkI
        have hxP : isP px = true := unhide HP _ (List.mem_of_getElem? hqx)
        have hyP : isP py = true := unhide HP _ (List.mem_of_getElem? hqy)
        obtain ⟨A1, c1, rfl⟩ := ix.slice
        obtain ⟨A2, c2, rfl⟩ := iy.slice
        obtain ⟨b, hb⟩ : ∃ b, decide (px = py) = b := ⟨_, rfl⟩
        have HE := hide (fun k => eqsl_any A1 A2 _ c1 _ _ c2 _ px py b hb (wr.drewN k) ((ix.argP hxP).drewN k) ((iy.argP hyP).drewN k))
        have HM := hide hM
        have HC := hide (And.intro hqx hqy)
        have HKJ := hide hkj
        have HMV := hide hmv
        clear hM hmv hkI ix iy hxP hyP hkl hkj hqx hqy
        have hbd0 : (0 : Int) ≤ (j : Int) + 1 := by omega
        have hbd1 : (j : Int) + 1 < (n : Int) := by omega
        have hbd2 : (j : Int) < (n : Int) := by omega
        have hwj : IntKind.i64.wrap (j : Int) = (j : Int) := by rw [IntKind.wrap_i64]; omega
        cases b with
        | false =>
          have hnext := hide (keepN_all (unhide hKeep) (unhide HC).1 (unhide HC).2 (decide_diff hb))
          clear hb hKeep
          go_wp2
          go_quiet ((go_at_call 106; exact Calls.quiet_of (unhide HE _)))
          go_wp2
          go_roundw
          case rel => exact ⟨j + 1 + 1, by omega, by omega, by go_num, ⟨by rw [(midV_take (unhide hnext)).trans (unhide HMV).symm]; exact ((unhide HM).drewN nq).own, ((unhide HM).drewN _).grown⟩, hnext⟩
          case measure => simp [intOf]; omega
        | true =>
          have hsm := decide_same hb
          have hkn := keepN_same (f := fun q : Pr => q.2) (unhide HC).1 (by omega) (unhide HC).2 hsm
          have hmn := midV_same (unhide HC).1 (by omega) (unhide HC).2 hsm
          have HK2 := hide (show (keepN (·.2) xs (j + 1 + 1)).length = j + 1 from (congrArg List.length hkn).trans (unhide HKJ))
          have HM2 := hide (fun k => (show Mid w (wr.drewN k) B g n cap xs (j + 1 + 1) from ⟨by rw [hmn]; exact ((unhide HM).drewN k).own, ((unhide HM).drewN k).grown⟩))
          have hcne : ¬ cap = j + 1 := by omega
          clear hb hKeep hsm hkn hmn HM HMV
          go_wp2
          go_quiet ((go_at_call 106; exact Calls.quiet_of (unhide HE _)))
          go_wp2
          obtain ⟨W, hW⟩ : ∃ W, W = wr.drewN nq := ⟨_, rfl⟩
          have HM3 : Mid w W B g n cap xs (j + 1 + 1) := by rw [hW]; exact unhide HM2 nq
          rw [← hW]
          clear HM2 HE HC hcx hcy hW
          rw [show ((j + 1 : Nat) : Int) = (j : Int) + 1 by omega]
          go_loopw [5, 7] (fun kv iv wr2 => ∃ k2 m : Nat, 1 ≤ k2 ∧ j + 1 + k2 ≤ n ∧ m < j + 1 + k2 ∧ kv = .int .i64 m ∧ iv = .int .i64 k2 ∧ Mid w wr2 B g n cap xs (j + 1 + k2) ∧ Hid ((keepN (·.2) xs (j + 1 + k2)).length = m)) (fun _ iv _ => n - (intOf iv).toNat)
          case atStart => exact ⟨1, j + 1, Nat.le_refl _, by omega, by omega, by go_num, by go_num, HM3, HK2⟩
          case round =>
            obtain ⟨k2, m, hk21, hk2n, hmk, rfl, rfl, hM, hm⟩ := hrel
            clear HM3 HK2
            by_cases hlt2 : j + 1 + k2 < n
            · obtain ⟨i, rfl⟩ : ∃ i, k2 = i + 1 := ⟨k2 - 1, by omega⟩
              obtain ⟨q, hq⟩ : ∃ q, q = j + 1 + i := ⟨_, rfl⟩
              have hq1 : j + 1 + (i + 1) = q + 1 := by omega
              rw [hq1] at hM hm
              have hqx : xs[q + 1]? = some (xs[q + 1]'(by rw [unhide HL]; omega)) := List.getElem?_eq_getElem _
              have hqy : xs[q]? = some (xs[q]'(by rw [unhide HL]; omega)) := List.getElem?_eq_getElem _
              generalize xs[q + 1]'(by rw [unhide HL]; omega) = x at hqx
              generalize xs[q]'(by rw [unhide HL]; omega) = y at hqy
              obtain ⟨vx, px⟩ := x
              obtain ⟨vy, py⟩ := y
              have hcx := hM.cell (by rw [unhide hm]; omega) (by omega) hqx
              have hcy := hM.cell (by rw [unhide hm]; omega) (by omega) hqy
              rw [show q + 1 = j + 1 + (i + 1) by omega] at hcx
              rw [hq] at hcy
              have hkI : KeepI w wr := KeepI.of_grown (w' := wr) (v := .slice (some ⟨g, 0, none⟩) n cap) (unhide HOWN) hM.grown
              have ix : Ints wr B vx px := ((unhide HX).row _ (List.mem_of_getElem? hqx)).keepI hkI
              have iy : Ints wr B vy py := ((unhide HX).row _ (List.mem_of_getElem? hqy)).keepI hkI
              have hxP : isP px = true := unhide HP _ (List.mem_of_getElem? hqx)
              have hyP : isP py = true := unhide HP _ (List.mem_of_getElem? hqy)
              obtain ⟨A1, c1, rfl⟩ := ix.slice
              obtain ⟨A2, c2, rfl⟩ := iy.slice
              obtain ⟨b, hb⟩ : ∃ b, decide (px = py) = b := ⟨_, rfl⟩
              have HE := hide (fun k => eqsl_any A1 A2 _ c1 _ _ c2 _ px py b hb (wr.drewN k) ((ix.argP hxP).drewN k) ((iy.argP hyP).drewN k))
              have HM := hide hM
              have HC := hide (And.intro hqx hqy)
              have HQ2 : Hid (j + 1 + (i + 1 + 1) = q + 1 + 1) := (by omega : j + 1 + (i + 1 + 1) = q + 1 + 1)
              have HQ := hide hq
              clear hM hkI ix iy hxP hyP hqx hqy hq hq1
              have hbi0 : (0 : Int) ≤ (i : Int) + 1 := by omega
              have hbi1 : (i : Int) + 1 < ((n - (j + 1) : Nat) : Int) := by omega
              have hbi2 : (i : Int) < ((n - (j + 1) : Nat) : Int) := by omega
              have hwi : IntKind.i64.wrap (i : Int) = (i : Int) := by rw [IntKind.wrap_i64]; omega
              cases b with
              | true =>
                have hsm := decide_same hb
                have hkn := keepN_same (f := fun q : Pr => q.2) (unhide HC).1 (by omega) (unhide HC).2 hsm
                have hmn := midV_same (unhide HC).1 (by omega) (unhide HC).2 hsm
                have HK2 := hide ((congrArg List.length hkn).trans (unhide hm))
                have HM2 := hide (fun k => (show Mid w (wr.drewN k) B g n cap xs (q + 1 + 1) from ⟨by rw [hmn]; exact ((unhide HM).drewN k).own, ((unhide HM).drewN k).grown⟩))
                clear hb hsm hkn hmn HM hm
                go_wp2
                go_quiet ((go_at_call 106; exact Calls.quiet_of (unhide HE _)))
                go_wp2
                go_roundw
                case rel => exact ⟨i + 1 + 1, m, by omega, by omega, by omega, rfl, by go_num, by rw [unhide HQ2]; exact unhide HM2 _, by rw [unhide HQ2]; exact HK2⟩
                case measure => simp [intOf]; omega
              | false =>
                have hmn := midV_new (unhide HC).1 (unhide HC).2 (decide_diff hb)
                have hkn := keepN_new (f := fun q : Pr => q.2) (unhide HC).1 (unhide HC).2 (decide_diff hb)
                have HK2 : Hid ((keepN (·.2) xs (q + 1 + 1)).length = m + 1) := hide (by
                  have := congrArg List.length hkn
                  rw [List.length_append, List.length_singleton, unhide hm] at this
                  exact this)
                have hmn2 : n - m ≠ 0 := by omega
                obtain ⟨old, hold⟩ : ∃ old, wr.cell? ⟨g, m, none⟩ = some old := ⟨_, by rw [(unhide HM).own.cellAt m (by omega)]; exact List.getElem?_eq_getElem (by rw [midV_len (by rw [unhide HL]; have := unhide HQ; omega), unhide HL]; omega)⟩
                have hfz := (unhide HM).own.frozenAt m
                have HM2 := hide (fun k => (show Mid w ((wr.drewN k).setCell ⟨g, m, none⟩ (.slice A1 px.length c1)) B g n cap xs (q + 1 + 1) from ⟨by
                  rw [hmn, unhide hm]
                  exact (((unhide HM).drewN k).own.stored m _).1, grown_then ((unhide HM).drewN k).grown (((unhide HM).drewN k).own.stored m _).2⟩))
                have hbm0 : (m : Int) < (n : Int) := by omega
                clear hb hkn hmn HM hm
                go_wp2
                go_quiet ((go_at_call 106; exact Calls.quiet_of (unhide HE _)))
                go_wp2
                go_roundw
                case rel => exact ⟨i + 1 + 1, m + 1, by omega, by omega, by omega, by go_num, by go_num, by rw [unhide HQ2]; exact unhide HM2 _, by rw [unhide HQ2]; exact HK2⟩
                case measure => simp [intOf]; omega
            · have hend : j + 1 + k2 = n := by omega
              rw [hend] at hM hm
              have hmn : m < n := by omega
              have hmc : ¬ cap = m := by omega
              have hbm0 : (m : Int) ≤ (cap : Int) := by omega
              have hbm1 : (m : Int) ≤ (n : Int) := by omega
              have hcl : ∀ ty, (Builtin.clear_ #[24] ty #[.slice (some ⟨g, m, none⟩) (n - m) (cap - m)]).run Tryz.prog wr = .ok (.tuple #[]) (wr.setCells g m (List.replicate (n - m) (.slice none 0 0))) :=
                fun ty => Lib.run_clear_slice wr _ _ ty _ Tryz.underlying24 Tryz.zeroValue36 rfl rfl g m _ _ (by omega) (fun i hi => by rw [hM.own.cellAt (m + i) (by omega), List.getElem?_eq_getElem (by rw [midV_len (by rw [unhide HL]; exact Nat.le_refl _), unhide HL]; omega)]; rfl) (fun i _ => hM.own.frozenAt (m + i))
              obtain ⟨ys, o1, o2, o3⟩ := own_cells (List.replicate (n - m) (.slice none 0 0)) m wr _ hM.own
              have hfin : Compacted w B g cap xs (.returned (.slice (some ⟨g, 0, none⟩) m cap)) (wr.setCells g m (List.replicate (n - m) (.slice none 0 0))) := by
                have h := own_cut o1 (show m ≤ n by omega)
                have h4 : ys.take m = (keepN (·.2) xs n).map (·.1) := by
                  rw [o2]
                  unfold midV
                  rw [List.take_append_of_le_length (by rw [List.length_map, unhide hm]; exact Nat.le_refl _), List.take_of_length_le (by rw [List.length_map, unhide hm]; exact Nat.le_refl _)]
                rw [h4] at h
                unfold Compacted
                rw [unhide HL, unhide hm]
                exact ⟨rfl, h, grown_then hM.grown o3⟩
              clear hM hm o1 o2 o3 HKJ
              go_wp2
              go_ret
              exact hfin
      · obtain rfl : n = k := by omega
        have hfin : Compacted w B g cap xs (.returned (.slice (some ⟨g, 0, none⟩) n cap)) wr := by
          have hk := unhide hKeep
          have hle := unhide HL
          have h := hM.own
          rw [midV_take hk] at h
          unfold Compacted
          rw [hle, hk, List.take_of_length_le (by omega), hle]
          exact ⟨rfl, h, hM.grown⟩
        clear hM hKeep
        go_wp2
        go_ret
        exact hfin
end Go.Proofs.YtoiipedomgefaaaGreatDoor


/-
  PLAIN: what slices.DeleteFunc leaves; the first place at which a test holds. Nothing here speaks of the program.
-/

namespace Go.Proofs.YtoiipedomgefaaaGreatDoor
set_option maxRecDepth 100000
open Go.RowKit

def kpt (f : List Int → Bool) (xs : List Pr) (j : Nat) : List Pr := (xs.take j).filter fun q => !f q.2
def midD (f : List Int → Bool) (xs : List Pr) (j : Nat) : List Value := (kpt f xs j).map (·.1) ++ (xs.map (·.1)).drop (kpt f xs j).length
theorem kpt_le (f : List Int → Bool) (xs : List Pr) (j : Nat) : (kpt f xs j).length ≤ j := by
  unfold kpt
  exact Nat.le_trans (List.length_filter_le _ _) (by rw [List.length_take]; omega)
theorem kpt_len (f : List Int → Bool) (xs : List Pr) (j : Nat) : (kpt f xs j).length ≤ xs.length := by
  unfold kpt
  exact Nat.le_trans (List.length_filter_le _ _) (by rw [List.length_take]; omega)
theorem kpt_out {f : List Int → Bool} {xs : List Pr} {k : Nat} {x : Pr} (h : xs[k]? = some x) (hf : f x.2 = true) : kpt f xs (k + 1) = kpt f xs k := by
  unfold kpt
  rw [List.take_add_one, h, List.filter_append]
  simp [hf]
theorem kpt_in {f : List Int → Bool} {xs : List Pr} {k : Nat} {x : Pr} (h : xs[k]? = some x) (hf : f x.2 = false) : kpt f xs (k + 1) = kpt f xs k ++ [x] := by
  unfold kpt
  rw [List.take_add_one, h, List.filter_append]
  simp [hf]
theorem kpt_first {f : List Int → Bool} {xs : List Pr} {k : Nat} (h : ∀ q ∈ xs.take k, f q.2 = false) : kpt f xs k = xs.take k := by
  unfold kpt
  rw [List.filter_eq_self]
  intro q hq
  rw [h q hq]; rfl
theorem kpt_all (f : List Int → Bool) (xs : List Pr) : (kpt f xs xs.length).map (·.2) = (xs.map (·.2)).filter fun z => !f z := by
  unfold kpt
  rw [List.take_length, List.filter_map]
  rfl
theorem kpt_sub (f : List Int → Bool) (xs : List Pr) (j : Nat) : (kpt f xs j).Sublist xs := by
  unfold kpt
  exact List.filter_sublist.trans (List.take_sublist _ _)
theorem midD_len {f : List Int → Bool} {xs : List Pr} {j : Nat} : (midD f xs j).length = xs.length := by
  have := kpt_len f xs j
  unfold midD
  rw [List.length_append, List.length_drop, List.length_map, List.length_map]
  omega
theorem midD_at {f : List Int → Bool} {xs : List Pr} {j i : Nat} {q : Pr} (h : (kpt f xs j).length ≤ i) (hq : xs[i]? = some q) : (midD f xs j)[i]? = some q.1 := by
  unfold midD
  rw [List.getElem?_append_right (by rw [List.length_map]; exact h), List.length_map, List.getElem?_drop, show (kpt f xs j).length + (i - (kpt f xs j).length) = i by omega, List.getElem?_map, hq]
  rfl
theorem midD_out {f : List Int → Bool} {xs : List Pr} {k : Nat} {x : Pr} (h : xs[k]? = some x) (hf : f x.2 = true) : midD f xs (k + 1) = midD f xs k := by
  unfold midD
  rw [kpt_out h hf]
theorem midD_in {f : List Int → Bool} {xs : List Pr} {k : Nat} {x : Pr} (h : xs[k]? = some x) (hf : f x.2 = false) : midD f xs (k + 1) = (midD f xs k).set (kpt f xs k).length x.1 := by
  have hk : k < xs.length := (List.getElem?_eq_some_iff.1 h).1
  have hle := kpt_le f xs k
  unfold midD
  rw [kpt_in h hf, List.map_append, List.length_append, List.length_singleton, List.map_singleton]
  rw [List.set_append_right _ _ (by rw [List.length_map]; exact Nat.le_refl _), List.length_map, Nat.sub_self]
  rw [List.drop_eq_getElem_cons (show (kpt f xs k).length < (xs.map (·.1)).length by rw [List.length_map]; omega), List.set_cons_zero]
  simp
theorem midD_first {f : List Int → Bool} {xs : List Pr} {k : Nat} (hk : k ≤ xs.length) (h : ∀ q ∈ xs.take k, f q.2 = false) : midD f xs k = xs.map (·.1) := by
  unfold midD
  rw [kpt_first h, List.length_take, Nat.min_eq_left hk, List.map_take, List.take_append_drop]
theorem midD_zero (f : List Int → Bool) (xs : List Pr) : midD f xs 0 = xs.map (·.1) := midD_first (Nat.zero_le _) (fun q hq => by simp at hq)
/-- Where a row stands in the midst of DeleteFunc. -/
structure MidD (w wr : World) (B g n cap : Nat) (f : List Int → Bool) (xs : List Pr) (j : Nat) : Prop where
  own : wr.ownsRow B 36 1 (.slice (some ⟨g, 0, none⟩) n cap) n (midD f xs j)
  grown : w.grownBy wr (some g)
theorem MidD.cell {w wr : World} {B g n cap j i : Nat} {f : List Int → Bool} {xs : List Pr} {q : Pr} (h : MidD w wr B g n cap f xs j) (hi : (kpt f xs j).length ≤ i) (hn : i < n) (hq : xs[i]? = some q) : wr.cell? ⟨g, i, none⟩ = some q.1 := by
  rw [h.own.cellAt i (by omega)]
  exact midD_at hi hq
theorem MidD.below {w wr w2 : World} {B g n cap j : Nat} {f : List Int → Bool} {xs : List Pr} (h : MidD w wr B g n cap f xs j) (hb : Below wr.heap.size wr w2) : MidD w w2 B g n cap f xs j := ⟨own_below h.own hb, grown_then h.grown (grown_of_below hb _)⟩
def Deleted (w : World) (B g cap : Nat) (f : List Int → Bool) (xs : List Pr) (e : Ending) (w' : World) : Prop :=
  e = .returned (.slice (some ⟨g, 0, none⟩) (kpt f xs xs.length).length cap) ∧ w'.ownsRow B 36 1 (.slice (some ⟨g, 0, none⟩) (kpt f xs xs.length).length cap) (kpt f xs xs.length).length ((kpt f xs xs.length).map (·.1)) ∧ w.grownBy w' (some g)
/-- The first place at which f holds, or -1. -/
def FirstAt (w : World) (f : List Int → Bool) (zss : List (List Int)) (e : Ending) (w' : World) : Prop :=
  ∃ x : Int, e = .returned (.int .i64 x) ∧ ((x = -1 ∧ ∀ z ∈ zss, f z = false) ∨ ∃ (k : Nat) (z : List Int), x = (k : Int) ∧ zss[k]? = some z ∧ f z = true ∧ ∀ y ∈ zss.take k, f y = false) ∧ Below w.heap.size w w'
theorem no_step {f : List Int → Bool} {zss : List (List Int)} {k : Nat} {z : List Int} (h : zss[k]? = some z) (hf : f z = false) (hk : ∀ y ∈ zss.take k, f y = false) : ∀ y ∈ zss.take (k + 1), f y = false := fun y hy => by
  rw [List.take_add_one, h] at hy
  rcases List.mem_append.1 hy with hy | hy
  · exact hk y hy
  · simp at hy; subst hy; exact hf
end Go.Proofs.YtoiipedomgefaaaGreatDoor


/-
  slices.IndexFunc, ContainsFunc and DeleteFunc over rows of rows, for each closure of chapter 12. (Written by wip/tools/mkidx.py.)
-/

namespace Go.Proofs.YtoiipedomgefaaaGreatDoor
set_option maxRecDepth 100000
open Go.RowKit

set_option maxHeartbeats 800000 in
theorem idxHS_any (bx : Nat) (A : Option Addr) (n c B : Nat) (zss : List (List Int)) (f : List Int → Bool) (w : World) (hS : IntsS w B (.slice A n c) zss) (hn : n ≤ 1048576)
    (HP : Hid (∀ (w1 : World), Below w.heap.size w w1 → ∀ (A1 : Option Addr) (c1 : Nat) (z : List Int), z ∈ zss → Ints w1 B (.slice A1 z.length c1) z → Calls Tryz.prog 124 #[.slice A1 z.length c1, .pointer (some ⟨bx, 0, none⟩)] w1 (GivesB w1 (f z)))) :
    Calls Tryz.prog 110 #[.slice A n c, .func (.func 124) #[] #[.pointer (some ⟨bx, 0, none⟩)]] w (FirstAt w f zss) := by
  have hl := hS.len
  have HS := hide hS
  have HL := hide hl
  have hb0 := Below.refl w.heap.size w
  clear hS hl
  go_enter Tryz.func110, Tryz.ntmps110
  go_wp2
  go_loopw [5, 8] (fun _ i wr => ∃ k : Nat, k ≤ n ∧ i = .int .i64 k ∧ Below w.heap.size w wr ∧ Hid (∀ y ∈ zss.take k, f y = false)) (fun _ i _ => n - (intOf i).toNat)
  case atStart => exact ⟨0, Nat.zero_le _, rfl, hb0, fun y hy => by simp at hy⟩
  case round =>
    obtain ⟨k, hk, rfl, hb, hno⟩ := hrel
    clear hb0
    by_cases hlt : k < n
    · have hSr := (unhide HS).below hb
      obtain ⟨ad, A1, c1, z, rfl, hzk, hcell, hI⟩ := hSr.at_ hlt
      obtain ⟨b, hbf⟩ : ∃ b, f z = b := ⟨_, rfl⟩
      have H1 := hide (unhide HP wr hb A1 c1 z (List.mem_of_getElem? hzk) hI)
      rw [hbf] at H1
      obtain ⟨lz, hlz⟩ : ∃ l, l = z.length := ⟨_, rfl⟩
      rw [← hlz] at hcell H1
      cases b with
      | true =>
        have HE := hide (⟨hzk, hbf⟩ : _ ∧ _)
        clear hSr hI hzk hbf hlz
        go_wp2_with fail
        refine (unhide H1).mono ?_
        rintro e w2 ⟨rfl, d2⟩
        have hb2 := below_after hb d2
        clear H1 d2 hb
        go_wp2
        go_ret
        exact ⟨(k : Int), rfl, .inr ⟨k, z, rfl, (unhide HE).1, (unhide HE).2, unhide hno⟩, hb2⟩
      | false =>
        have hno2 := hide (no_step hzk hbf (unhide hno))
        clear hSr hI hzk hbf hno hlz
        go_wp2_with fail
        refine (unhide H1).mono ?_
        rintro e w2 ⟨rfl, d2⟩
        have hb2 := below_after hb d2
        clear H1 d2 hb
        go_wp2
        go_roundw
        case rel => exact ⟨k + 1, by omega, by go_num, hb2, hno2⟩
        case measure => simp [intOf]; omega
    · obtain rfl : n = k := by omega
      have hno2 := hide (show ∀ y ∈ zss, f y = false by
        have h := unhide hno
        rwa [List.take_of_length_le (by rw [unhide HL]; exact Nat.le_refl _)] at h)
      clear hno
      go_wp2
      go_ret
      exact ⟨-1, rfl, .inl ⟨rfl, unhide hno2⟩, hb⟩
theorem conHS_any (bx : Nat) (A : Option Addr) (n c B : Nat) (zss : List (List Int)) (f : List Int → Bool) (w : World) (hS : IntsS w B (.slice A n c) zss) (hn : n ≤ 1048576)
    (HP : Hid (∀ (w1 : World), Below w.heap.size w w1 → ∀ (A1 : Option Addr) (c1 : Nat) (z : List Int), z ∈ zss → Ints w1 B (.slice A1 z.length c1) z → Calls Tryz.prog 124 #[.slice A1 z.length c1, .pointer (some ⟨bx, 0, none⟩)] w1 (GivesB w1 (f z)))) :
    Calls Tryz.prog 65 #[.slice A n c, .func (.func 124) #[] #[.pointer (some ⟨bx, 0, none⟩)]] w (GivesB w (zss.any f)) := by
  have H1 := hide (idxHS_any bx A n c B zss f w hS hn HP)
  clear hS HP
  go_enter Tryz.func65, Tryz.ntmps65
  go_wp2_with fail
  refine (unhide H1).mono ?_
  rintro e w1 ⟨x, rfl, hx, d1⟩
  have HX := hide (show decide (0 ≤ x) = zss.any f by
    rcases hx with ⟨rfl, h⟩ | ⟨k, z, rfl, hz, hf, _⟩
    · symm
      rw [show decide ((0 : Int) ≤ -1) = false from rfl, List.any_eq_false]
      exact fun z hz => by rw [h z hz]; simp
    · symm
      rw [decide_eq_true (by omega), List.any_eq_true]
      exact ⟨z, List.mem_of_getElem? hz, hf⟩)
  clear H1 hx
  go_wp2
  go_ret
  exact ⟨by rw [← unhide HX]; rfl, d1⟩
set_option maxHeartbeats 800000 in
theorem idxMB_any (A : Option Addr) (n c B : Nat) (zss : List (List Int)) (f : List Int → Bool) (w : World) (hS : IntsS w B (.slice A n c) zss) (hn : n ≤ 1048576)
    (HP : Hid (∀ (w1 : World), Below w.heap.size w w1 → ∀ (A1 : Option Addr) (c1 : Nat) (z : List Int), z ∈ zss → Ints w1 B (.slice A1 z.length c1) z → Calls Tryz.prog 85 #[.slice A1 z.length c1] w1 (GivesB w1 (f z)))) :
    Calls Tryz.prog 110 #[.slice A n c, .func (.func 85) #[] #[]] w (FirstAt w f zss) := by
  have hl := hS.len
  have HS := hide hS
  have HL := hide hl
  have hb0 := Below.refl w.heap.size w
  clear hS hl
  go_enter Tryz.func110, Tryz.ntmps110
  go_wp2
  go_loopw [5, 8] (fun _ i wr => ∃ k : Nat, k ≤ n ∧ i = .int .i64 k ∧ Below w.heap.size w wr ∧ Hid (∀ y ∈ zss.take k, f y = false)) (fun _ i _ => n - (intOf i).toNat)
  case atStart => exact ⟨0, Nat.zero_le _, rfl, hb0, fun y hy => by simp at hy⟩
  case round =>
    obtain ⟨k, hk, rfl, hb, hno⟩ := hrel
    clear hb0
    by_cases hlt : k < n
    · have hSr := (unhide HS).below hb
      obtain ⟨ad, A1, c1, z, rfl, hzk, hcell, hI⟩ := hSr.at_ hlt
      obtain ⟨b, hbf⟩ : ∃ b, f z = b := ⟨_, rfl⟩
      have H1 := hide (unhide HP wr hb A1 c1 z (List.mem_of_getElem? hzk) hI)
      rw [hbf] at H1
      obtain ⟨lz, hlz⟩ : ∃ l, l = z.length := ⟨_, rfl⟩
      rw [← hlz] at hcell H1
      cases b with
      | true =>
        have HE := hide (⟨hzk, hbf⟩ : _ ∧ _)
        clear hSr hI hzk hbf hlz
        go_wp2_with fail
        refine (unhide H1).mono ?_
        rintro e w2 ⟨rfl, d2⟩
        have hb2 := below_after hb d2
        clear H1 d2 hb
        go_wp2
        go_ret
        exact ⟨(k : Int), rfl, .inr ⟨k, z, rfl, (unhide HE).1, (unhide HE).2, unhide hno⟩, hb2⟩
      | false =>
        have hno2 := hide (no_step hzk hbf (unhide hno))
        clear hSr hI hzk hbf hno hlz
        go_wp2_with fail
        refine (unhide H1).mono ?_
        rintro e w2 ⟨rfl, d2⟩
        have hb2 := below_after hb d2
        clear H1 d2 hb
        go_wp2
        go_roundw
        case rel => exact ⟨k + 1, by omega, by go_num, hb2, hno2⟩
        case measure => simp [intOf]; omega
    · obtain rfl : n = k := by omega
      have hno2 := hide (show ∀ y ∈ zss, f y = false by
        have h := unhide hno
        rwa [List.take_of_length_le (by rw [unhide HL]; exact Nat.le_refl _)] at h)
      clear hno
      go_wp2
      go_ret
      exact ⟨-1, rfl, .inl ⟨rfl, unhide hno2⟩, hb⟩
theorem conMB_any (A : Option Addr) (n c B : Nat) (zss : List (List Int)) (f : List Int → Bool) (w : World) (hS : IntsS w B (.slice A n c) zss) (hn : n ≤ 1048576)
    (HP : Hid (∀ (w1 : World), Below w.heap.size w w1 → ∀ (A1 : Option Addr) (c1 : Nat) (z : List Int), z ∈ zss → Ints w1 B (.slice A1 z.length c1) z → Calls Tryz.prog 85 #[.slice A1 z.length c1] w1 (GivesB w1 (f z)))) :
    Calls Tryz.prog 65 #[.slice A n c, .func (.func 85) #[] #[]] w (GivesB w (zss.any f)) := by
  have H1 := hide (idxMB_any A n c B zss f w hS hn HP)
  clear hS HP
  go_enter Tryz.func65, Tryz.ntmps65
  go_wp2_with fail
  refine (unhide H1).mono ?_
  rintro e w1 ⟨x, rfl, hx, d1⟩
  have HX := hide (show decide (0 ≤ x) = zss.any f by
    rcases hx with ⟨rfl, h⟩ | ⟨k, z, rfl, hz, hf, _⟩
    · symm
      rw [show decide ((0 : Int) ≤ -1) = false from rfl, List.any_eq_false]
      exact fun z hz => by rw [h z hz]; simp
    · symm
      rw [decide_eq_true (by omega), List.any_eq_true]
      exact ⟨z, List.mem_of_getElem? hz, hf⟩)
  clear H1 hx
  go_wp2
  go_ret
  exact ⟨by rw [← unhide HX]; rfl, d1⟩
set_option maxHeartbeats 800000 in
theorem idxNP_any (A : Option Addr) (n c B : Nat) (zss : List (List Int)) (f : List Int → Bool) (w : World) (hS : IntsS w B (.slice A n c) zss) (hn : n ≤ 1048576)
    (HP : Hid (∀ (w1 : World), Below w.heap.size w w1 → ∀ (A1 : Option Addr) (c1 : Nat) (z : List Int), z ∈ zss → Ints w1 B (.slice A1 z.length c1) z → Calls Tryz.prog 86 #[.slice A1 z.length c1] w1 (GivesB w1 (f z)))) :
    Calls Tryz.prog 110 #[.slice A n c, .func (.func 86) #[] #[]] w (FirstAt w f zss) := by
  have hl := hS.len
  have HS := hide hS
  have HL := hide hl
  have hb0 := Below.refl w.heap.size w
  clear hS hl
  go_enter Tryz.func110, Tryz.ntmps110
  go_wp2
  go_loopw [5, 8] (fun _ i wr => ∃ k : Nat, k ≤ n ∧ i = .int .i64 k ∧ Below w.heap.size w wr ∧ Hid (∀ y ∈ zss.take k, f y = false)) (fun _ i _ => n - (intOf i).toNat)
  case atStart => exact ⟨0, Nat.zero_le _, rfl, hb0, fun y hy => by simp at hy⟩
  case round =>
    obtain ⟨k, hk, rfl, hb, hno⟩ := hrel
    clear hb0
    by_cases hlt : k < n
    · have hSr := (unhide HS).below hb
      obtain ⟨ad, A1, c1, z, rfl, hzk, hcell, hI⟩ := hSr.at_ hlt
      obtain ⟨b, hbf⟩ : ∃ b, f z = b := ⟨_, rfl⟩
      have H1 := hide (unhide HP wr hb A1 c1 z (List.mem_of_getElem? hzk) hI)
      rw [hbf] at H1
      obtain ⟨lz, hlz⟩ : ∃ l, l = z.length := ⟨_, rfl⟩
      rw [← hlz] at hcell H1
      cases b with
      | true =>
        have HE := hide (⟨hzk, hbf⟩ : _ ∧ _)
        clear hSr hI hzk hbf hlz
        go_wp2_with fail
        refine (unhide H1).mono ?_
        rintro e w2 ⟨rfl, d2⟩
        have hb2 := below_after hb d2
        clear H1 d2 hb
        go_wp2
        go_ret
        exact ⟨(k : Int), rfl, .inr ⟨k, z, rfl, (unhide HE).1, (unhide HE).2, unhide hno⟩, hb2⟩
      | false =>
        have hno2 := hide (no_step hzk hbf (unhide hno))
        clear hSr hI hzk hbf hno hlz
        go_wp2_with fail
        refine (unhide H1).mono ?_
        rintro e w2 ⟨rfl, d2⟩
        have hb2 := below_after hb d2
        clear H1 d2 hb
        go_wp2
        go_roundw
        case rel => exact ⟨k + 1, by omega, by go_num, hb2, hno2⟩
        case measure => simp [intOf]; omega
    · obtain rfl : n = k := by omega
      have hno2 := hide (show ∀ y ∈ zss, f y = false by
        have h := unhide hno
        rwa [List.take_of_length_le (by rw [unhide HL]; exact Nat.le_refl _)] at h)
      clear hno
      go_wp2
      go_ret
      exact ⟨-1, rfl, .inl ⟨rfl, unhide hno2⟩, hb⟩
theorem conNP_any (A : Option Addr) (n c B : Nat) (zss : List (List Int)) (f : List Int → Bool) (w : World) (hS : IntsS w B (.slice A n c) zss) (hn : n ≤ 1048576)
    (HP : Hid (∀ (w1 : World), Below w.heap.size w w1 → ∀ (A1 : Option Addr) (c1 : Nat) (z : List Int), z ∈ zss → Ints w1 B (.slice A1 z.length c1) z → Calls Tryz.prog 86 #[.slice A1 z.length c1] w1 (GivesB w1 (f z)))) :
    Calls Tryz.prog 65 #[.slice A n c, .func (.func 86) #[] #[]] w (GivesB w (zss.any f)) := by
  have H1 := hide (idxNP_any A n c B zss f w hS hn HP)
  clear hS HP
  go_enter Tryz.func65, Tryz.ntmps65
  go_wp2_with fail
  refine (unhide H1).mono ?_
  rintro e w1 ⟨x, rfl, hx, d1⟩
  have HX := hide (show decide (0 ≤ x) = zss.any f by
    rcases hx with ⟨rfl, h⟩ | ⟨k, z, rfl, hz, hf, _⟩
    · symm
      rw [show decide ((0 : Int) ≤ -1) = false from rfl, List.any_eq_false]
      exact fun z hz => by rw [h z hz]; simp
    · symm
      rw [decide_eq_true (by omega), List.any_eq_true]
      exact ⟨z, List.mem_of_getElem? hz, hf⟩)
  clear H1 hx
  go_wp2
  go_ret
  exact ⟨by rw [← unhide HX]; rfl, d1⟩
set_option maxHeartbeats 800000 in
theorem idxBU_any (bx : Nat) (A : Option Addr) (n c B : Nat) (zss : List (List Int)) (f : List Int → Bool) (w : World) (hS : IntsS w B (.slice A n c) zss) (hn : n ≤ 1048576)
    (HP : Hid (∀ (w1 : World), Below w.heap.size w w1 → ∀ (A1 : Option Addr) (c1 : Nat) (z : List Int), z ∈ zss → Ints w1 B (.slice A1 z.length c1) z → Calls Tryz.prog 97 #[.slice A1 z.length c1, .pointer (some ⟨bx, 0, none⟩)] w1 (GivesB w1 (f z)))) :
    Calls Tryz.prog 110 #[.slice A n c, .func (.func 97) #[] #[.pointer (some ⟨bx, 0, none⟩)]] w (FirstAt w f zss) := by
  have hl := hS.len
  have HS := hide hS
  have HL := hide hl
  have hb0 := Below.refl w.heap.size w
  clear hS hl
  go_enter Tryz.func110, Tryz.ntmps110
  go_wp2
  go_loopw [5, 8] (fun _ i wr => ∃ k : Nat, k ≤ n ∧ i = .int .i64 k ∧ Below w.heap.size w wr ∧ Hid (∀ y ∈ zss.take k, f y = false)) (fun _ i _ => n - (intOf i).toNat)
  case atStart => exact ⟨0, Nat.zero_le _, rfl, hb0, fun y hy => by simp at hy⟩
  case round =>
    obtain ⟨k, hk, rfl, hb, hno⟩ := hrel
    clear hb0
    by_cases hlt : k < n
    · have hSr := (unhide HS).below hb
      obtain ⟨ad, A1, c1, z, rfl, hzk, hcell, hI⟩ := hSr.at_ hlt
      obtain ⟨b, hbf⟩ : ∃ b, f z = b := ⟨_, rfl⟩
      have H1 := hide (unhide HP wr hb A1 c1 z (List.mem_of_getElem? hzk) hI)
      rw [hbf] at H1
      obtain ⟨lz, hlz⟩ : ∃ l, l = z.length := ⟨_, rfl⟩
      rw [← hlz] at hcell H1
      cases b with
      | true =>
        have HE := hide (⟨hzk, hbf⟩ : _ ∧ _)
        clear hSr hI hzk hbf hlz
        go_wp2_with fail
        refine (unhide H1).mono ?_
        rintro e w2 ⟨rfl, d2⟩
        have hb2 := below_after hb d2
        clear H1 d2 hb
        go_wp2
        go_ret
        exact ⟨(k : Int), rfl, .inr ⟨k, z, rfl, (unhide HE).1, (unhide HE).2, unhide hno⟩, hb2⟩
      | false =>
        have hno2 := hide (no_step hzk hbf (unhide hno))
        clear hSr hI hzk hbf hno hlz
        go_wp2_with fail
        refine (unhide H1).mono ?_
        rintro e w2 ⟨rfl, d2⟩
        have hb2 := below_after hb d2
        clear H1 d2 hb
        go_wp2
        go_roundw
        case rel => exact ⟨k + 1, by omega, by go_num, hb2, hno2⟩
        case measure => simp [intOf]; omega
    · obtain rfl : n = k := by omega
      have hno2 := hide (show ∀ y ∈ zss, f y = false by
        have h := unhide hno
        rwa [List.take_of_length_le (by rw [unhide HL]; exact Nat.le_refl _)] at h)
      clear hno
      go_wp2
      go_ret
      exact ⟨-1, rfl, .inl ⟨rfl, unhide hno2⟩, hb⟩
set_option maxHeartbeats 1600000 in
theorem delBU_any (bx : Nat) (w : World) (B g n cap : Nat) (xs : List Pr) (f : List Int → Bool) (hown : w.ownsRow B 36 1 (.slice (some ⟨g, 0, none⟩) n cap) n (xs.map (·.1))) (hx : RowPrs w B xs) (hn : n ≤ 1048576) (hnc : n ≤ cap)
    (HP : Hid (∀ (w1 : World), w.grownBy w1 (some g) → ∀ (A1 : Option Addr) (c1 : Nat) (z : List Int), z ∈ xs.map (·.2) → Ints w1 B (.slice A1 z.length c1) z → Calls Tryz.prog 97 #[.slice A1 z.length c1, .pointer (some ⟨bx, 0, none⟩)] w1 (GivesB w1 (f z)))) :
    Calls Tryz.prog 95 #[.slice (some ⟨g, 0, none⟩) n cap, .func (.func 97) #[] #[.pointer (some ⟨bx, 0, none⟩)]] w (Deleted w B g cap f xs) := by
  have hl : xs.length = n := by simpa using hown.1
  have hSS : IntsS w B (.slice (some ⟨g, 0, none⟩) n cap) (xs.map (·.2)) := ⟨xs.map (·.1), by rw [List.length_map, hl]; exact hown, hx.inner⟩
  have H1 := hide (idxBU_any bx (some ⟨g, 0, none⟩) n cap B (xs.map (·.2)) f w hSS hn (hide fun w1 hb => unhide HP w1 (grown_of_below hb _)))
  have HL := hide hl
  have HX := hide hx
  have HOWN := hide hown
  clear hl hSS hx hown
  go_enter Tryz.func95, Tryz.ntmps95
  go_wp2_with fail
  refine (unhide H1).mono ?_
  rintro e w1 ⟨x, rfl, hx, d1⟩
  clear H1
  rcases hx with ⟨rfl, hno⟩ | ⟨i, z, rfl, hz, hf, hno⟩
  · have hfin : Deleted w B g cap f xs (.returned (.slice (some ⟨g, 0, none⟩) n cap)) w1 := by
      have hk : kpt f xs xs.length = xs := by
        rw [kpt_first (fun q hq => hno q.2 (List.mem_map.2 ⟨q, by rwa [List.take_length] at hq, rfl⟩)), List.take_length]
      unfold Deleted
      rw [hk, unhide HL]
      exact ⟨rfl, own_below (unhide HOWN) d1, grown_of_below d1 _⟩
    clear hno d1
    go_wp2
    go_ret
    exact hfin
  · have hin : i < n := by
      have := (List.getElem?_eq_some_iff.1 hz).1
      rw [List.length_map, unhide HL] at this
      exact this
    have hno2 : ∀ q ∈ xs.take i, f q.2 = false := fun q hq => hno q.2 (by rw [← List.map_take]; exact List.mem_map.2 ⟨q, hq, rfl⟩)
    obtain ⟨q0, hq0, hq0f⟩ : ∃ q, xs[i]? = some q ∧ f q.2 = true := by
      rw [List.getElem?_map] at hz
      cases hq : xs[i]? with
      | none => rw [hq] at hz; cases hz
      | some q => rw [hq] at hz; cases hz; exact ⟨q, rfl, hf⟩
    have hM0 : MidD w w1 B g n cap f xs (i + 1) := ⟨by rw [midD_out hq0 hq0f, midD_first (by rw [unhide HL]; omega) hno2]; exact own_below (unhide HOWN) d1, grown_of_below d1 _⟩
    have hK0 : Hid ((kpt f xs (i + 1)).length = i) := hide (by rw [kpt_out hq0 hq0f, kpt_first hno2, List.length_take, unhide HL]; omega)
    have hine : ((i : Int) == -1) = false := by rw [beq_eq_false_iff_ne]; omega
    clear hz hf hno hno2 hq0 hq0f d1
    go_wp2
    go_loopw [5, 6, 7] (fun mv jv _ wr => ∃ j m : Nat, i + 1 ≤ j ∧ j ≤ n ∧ m < j ∧ mv = .int .i64 m ∧ jv = .int .i64 j ∧ MidD w wr B g n cap f xs j ∧ Hid ((kpt f xs j).length = m)) (fun _ jv _ _ => n - (intOf jv).toNat)
    case atStart => exact ⟨i + 1, i, Nat.le_refl _, by omega, by omega, rfl, by go_num, hM0, hK0⟩
    case round =>
      obtain ⟨j, m, hj0, hjn, hmj, rfl, rfl, hM, hm⟩ := hrel
      clear hM0 hK0
      by_cases hlt : j < n
      · have hqx : xs[j]? = some (xs[j]'(by rw [unhide HL]; exact hlt)) := List.getElem?_eq_getElem _
        generalize xs[j]'(by rw [unhide HL]; exact hlt) = x at hqx
        obtain ⟨vx, px⟩ := x
        have hcx := hM.cell (by rw [unhide hm]; omega) hlt hqx
        have hkI : KeepI w wr := by
          have h0 := KeepI.of_grown (w' := wr) (v := .slice (some ⟨g, 0, none⟩) n cap) (unhide HOWN) hM.grown
          exact h0
        have ix : Ints wr B vx px := ((unhide HX).row _ (List.mem_of_getElem? hqx)).keepI hkI
        obtain ⟨A1, c1, rfl⟩ := ix.slice
        obtain ⟨b, hb⟩ : ∃ b, f px = b := ⟨_, rfl⟩
        have HE := hide (unhide HP wr hM.grown A1 c1 px (List.mem_map.2 ⟨_, List.mem_of_getElem? hqx, rfl⟩) ix)
        rw [hb] at HE
        have HM := hide hM
        have HC := hide hqx
        obtain ⟨lz, hlz⟩ : ∃ l, l = px.length := ⟨_, rfl⟩
        have HC2 := hide hlz
        rw [← hlz] at hcx HE
        clear hM hkI ix hqx hlz
        cases b with
        | true =>
          have hkn := kpt_out (unhide HC) hb
          have hmn := midD_out (unhide HC) hb
          have HK2 := hide (show (kpt f xs (j + 1)).length = m by rw [hkn]; exact unhide hm)
          have HM2 := hide (fun (w2 : World) (d : Below wr.heap.size wr w2) => (show MidD w w2 B g n cap f xs (j + 1) from ⟨by rw [hmn]; exact ((unhide HM).below d).own, ((unhide HM).below d).grown⟩))
          clear hb hkn hmn HM hm HC HC2
          go_wp2_with fail
          refine (unhide HE).mono ?_
          rintro e w2 ⟨rfl, d2⟩
          have hM2 := unhide HM2 w2 d2
          clear HE HM2 hcx d2
          go_wp2
          go_roundw
          case rel => exact ⟨j + 1, m, by omega, by omega, by omega, rfl, by go_num, hM2, HK2⟩
          case measure => simp [intOf]; omega
        | false =>
          have hkn := kpt_in (unhide HC) hb
          have hmn := midD_in (unhide HC) hb
          have HK2 := hide (show (kpt f xs (j + 1)).length = m + 1 by rw [hkn, List.length_append, List.length_singleton, unhide hm])
          have HM2 := hide (fun (w2 : World) (d : Below wr.heap.size wr w2) => (⟨⟨by
              rw [hmn, unhide hm, ← unhide HC2]
              exact (((unhide HM).below d).own.stored m _).1, grown_then ((unhide HM).below d).grown (((unhide HM).below d).own.stored m _).2⟩, ((unhide HM).below d).own.frozenAt m, by
              rw [((unhide HM).below d).own.cellAt m (by omega)]
              exact ⟨_, List.getElem?_eq_getElem (by rw [midD_len, unhide HL]; omega)⟩⟩ : MidD w (w2.setCell ⟨g, m, none⟩ (.slice A1 lz c1)) B g n cap f xs (j + 1) ∧ w2.frozen? ⟨g, m, none⟩ = false ∧ ∃ old, w2.cell? ⟨g, m, none⟩ = some old))
          have hbm0 : (m : Int) < (n : Int) := by omega
          clear hb hkn hmn HM hm HC HC2
          go_wp2_with fail
          refine (unhide HE).mono ?_
          rintro e w2 ⟨rfl, d2⟩
          obtain ⟨hM2, hfz, old, hold⟩ := unhide HM2 w2 d2
          have HM3 := hide hM2
          clear HE HM2 hcx d2 hM2
          go_wp2
          go_roundw
          case rel => exact ⟨j + 1, m + 1, by omega, by omega, by omega, by go_num, by go_num, unhide HM3, HK2⟩
          case measure => simp [intOf]; omega
      · have hend : j = n := by omega
        subst hend
        have hmn : m < j := hmj
        have hmc : ¬ cap = m := by omega
        have hbm0 : (m : Int) ≤ (cap : Int) := by omega
        have hbm1 : (m : Int) ≤ (j : Int) := by omega
        have hcl : ∀ ty, (Builtin.clear_ #[24] ty #[.slice (some ⟨g, m, none⟩) (j - m) (cap - m)]).run Tryz.prog wr = .ok (.tuple #[]) (wr.setCells g m (List.replicate (j - m) (.slice none 0 0))) :=
          fun ty => Lib.run_clear_slice wr _ _ ty _ Tryz.underlying24 Tryz.zeroValue36 rfl rfl g m _ _ (by omega) (fun i hi => by rw [hM.own.cellAt (m + i) (by omega), List.getElem?_eq_getElem (by rw [midD_len, unhide HL]; omega)]; rfl) (fun i _ => hM.own.frozenAt (m + i))
        obtain ⟨ys, o1, o2, o3⟩ := own_cells (List.replicate (j - m) (.slice none 0 0)) m wr _ hM.own
        have hfin : Deleted w B g cap f xs (.returned (.slice (some ⟨g, 0, none⟩) m cap)) (wr.setCells g m (List.replicate (j - m) (.slice none 0 0))) := by
          have h := own_cut o1 (show m ≤ j by omega)
          have h4 : ys.take m = (kpt f xs j).map (·.1) := by
            rw [o2]
            unfold midD
            rw [List.take_append_of_le_length (by rw [List.length_map, unhide hm]; exact Nat.le_refl _), List.take_of_length_le (by rw [List.length_map, unhide hm]; exact Nat.le_refl _)]
          rw [h4] at h
          unfold Deleted
          rw [unhide HL, unhide hm]
          exact ⟨rfl, h, grown_then hM.grown o3⟩
        clear hM hm o1 o2 o3
        go_wp2
        go_ret
        exact hfin
/-- The same over a list of rows. -/
theorem delsBU_any (bx : Nat) (A : Option Addr) (n c B : Nat) (zss : List (List Int)) (f : List Int → Bool) (w : World) (hS : IntsS w B (.slice A n c) zss) (hn : n ≤ 1048576) (h0 : 0 < n)
    (HP : Hid (∀ (w1 : World) (g : Nat), (Value.slice A n c).ownBlock = some g → B ≤ g → w.grownBy w1 (some g) → ∀ (A1 : Option Addr) (c1 : Nat) (z : List Int), z ∈ zss → Ints w1 B (.slice A1 z.length c1) z → Calls Tryz.prog 97 #[.slice A1 z.length c1, .pointer (some ⟨bx, 0, none⟩)] w1 (GivesB w1 (f z)))) :
    Calls Tryz.prog 95 #[.slice A n c, .func (.func 97) #[] #[.pointer (some ⟨bx, 0, none⟩)]] w fun e w' => ∃ A' c', e = .returned (.slice A' (zss.filter fun z => !f z).length c') ∧ IntsS w' B (.slice A' (zss.filter fun z => !f z).length c') (zss.filter fun z => !f z) ∧ ∃ g, B ≤ g ∧ w.grownBy w' (some g) := by
  have hl := hS.len
  obtain ⟨vs, h1, h2⟩ := hS
  rw [hl] at h1
  obtain ⟨g, c', hv, hg, hnc⟩ := own_first h1 h0
  injection hv with e1 _ e3
  subst e1 e3
  obtain ⟨xs, rfl, rfl, hx⟩ := h2.prs
  refine (delBU_any bx w B g n c xs f h1 hx hn hnc (hide fun w1 hgr => unhide HP w1 g rfl hg hgr)).mono ?_
  rintro e w' ⟨rfl, h3, h4⟩
  have hk := KeepI.of_grown h1 h4
  have hkl : (kpt f xs xs.length).length = ((xs.map (·.2)).filter fun z => !f z).length := by rw [← kpt_all, List.length_map]
  rw [hkl] at h3
  refine ⟨_, _, by rw [hkl], ⟨_, h3, ?_⟩, g, hg, h4⟩
  have h5 := ((hx.sub (kpt_sub f xs xs.length)).keepI hk).inner
  rwa [kpt_all] at h5
end Go.Proofs.YtoiipedomgefaaaGreatDoor


/-
  A RANGE OVER A FUNCTION WHOSE ITERATOR TELLS THE ROUND WHAT THE HANDED VALUE POINTS TO.
-/

namespace Go.Proofs.YtoiipedomgefaaaGreatDoor
set_option maxRecDepth 100000
open Go.RowKit

variable {F : Fence} {n : Nat} {P : Program}
/-- The iterator hands x over in a world V that it has come to from U, where the last round ended: 'Kn U x V' holds; of a round that goes on it asks Kp. -/
def Tells {α : Type} (F : Fence) (n : Nat) (P : Program) (gf : Nat) (lb : Array Value) (en : α → Array Value) (Kn : World → α → World → Prop) (Kp : World → World → Prop) (S Sp : List α → Prop) (N : Nat) (w : World) : Prop :=
  ∀ (l : Nat) (J Jx : List α → World → Prop) (W : World), Below w.heap.size w W → AbidesFrom W.heap.size J → AbidesFrom W.heap.size Jx →
    (∀ pre x U V, J pre U → Below U.heap.size U V → Kn U x V → pre.length < N → YieldAt F (n - 1) P l (en x) V fun e V' => (e = .returned (.bool true) ∧ J (pre ++ [x]) V' ∧ Kp V V') ∨ (e = .returned (.bool false) ∧ Jx (pre ++ [x]) V')) →
    J [] W → CallsIn F n P gf (#[.func (.yield l) #[] #[]] ++ lb) W fun e V => (∃ v, e = .returned v) ∧ ((∃ xs, S xs ∧ J xs V) ∨ ∃ pre, Sp pre ∧ Jx pre V)

/-- The two blocks of the loop's own book-keeping, from block D on. -/
structure Desk (D : Nat) (r : Loop) (W : World) : Prop where
  rec_ : W.heap[D + 1]? = some (.loop r)
  marks : W.heap[D]? = some (.deferred (some []))
theorem Desk.lt {D : Nat} {r : Loop} {W : World} (h : Desk D r W) : D + 1 < W.heap.size := (Array.getElem?_eq_some_iff.1 h.rec_).1
theorem Desk.walked {D : Nat} {r : Loop} {W W' : World} {row : Option Nat} (h : Desk D r W) (hg : W.grownBy W' row) (hr : ∀ k, row = some k → ∃ o : Obj, W.heap[k]? = some o ∧ o.isWalk = true) : Desk D r W' :=
  ⟨(grownBy_keeps hg hr h.rec_ rfl).trans h.rec_, (grownBy_keeps hg hr h.marks rfl).trans h.marks⟩
theorem Desk.kept {D : Nat} {r : Loop} {W W' : World} (h : Desk D r W) (hk : KeepsFrom D W W') : Desk D r W' := ⟨hk.same _ _ (by omega) h.rec_ rfl, hk.same _ _ (Nat.le_refl _) h.marks rfl⟩
theorem Desk.later {D : Nat} {r : Loop} {W W' : World} (h : Desk D r W) (hb : Below W.heap.size W W') : Desk D r W' := ⟨(hb.block _ h.lt).trans h.rec_, (hb.block _ (by have := h.lt; omega)).trans h.marks⟩
/-- The same object put into both worlds. -/
theorem below_both {U V : World} {l : Nat} (h : Below U.heap.size U V) (hl : l < U.heap.size) (o : Obj) : Below (U.putObj l o).heap.size (U.putObj l o) (V.putObj l o) := by
  have hsU := (grownBy_putObj' U l o).size
  have hsz : (U.putObj l o).heap.size = U.heap.size := by unfold World.putObj; simp
  have hsz' : (V.putObj l o).heap.size = V.heap.size := by unfold World.putObj; simp
  refine ⟨h.os, h.tape, h.output, by rw [hsz, hsz']; exact h.size, fun i hi => ?_⟩
  rw [hsz] at hi
  by_cases e : i = l
  · subst e
    rw [World.putObj_heap_same hl, World.putObj_heap_same (Nat.lt_of_lt_of_le hl h.size)]
  · rw [World.putObj_heap_other e, World.putObj_heap_other e]
    exact h.block i hi
theorem Desk.turn {D : Nat} {r : Loop} {W : World} (h : Desk D r W) (r' : Loop) : Desk D r' (W.putObj (D + 1) (.loop r')) := ⟨World.putObj_heap_same h.lt, (World.putObj_heap_other (by omega)).trans h.marks⟩
theorem Desk.new (w : World) (r : Loop) : Desk w.heap.size r ((w.alloc (.deferred (some []))).alloc (.loop r)) := by
  refine ⟨?_, (Below.heap_alloc _ _ _ (by simp)).trans (World.alloc_heap_new w _)⟩
  have := World.alloc_heap_new (w.alloc (.deferred (some []))) (.loop r)
  rwa [World.size_alloc] at this
/-- What speaks of cells abides the turn of the record. -/
theorem own_turn {β : Type} {D : Nat} {I : β → World → Prop} (hI : OwnFrom D I) {s : β} {r r' : Loop} {W : World} (h : I s W) (hd : Desk D r W) : I s (W.putObj (D + 1) (.loop r')) := hI.putObj _ h (by omega) hd.rec_ rfl
theorem walks_own {β : Type} {D B : Nat} {I : β → World → Prop} (hI : OwnFrom D I) (hB : D ≤ B) {s : β} {W W' : World} {row : Option Nat} (h : I s W) (hg : W.grownBy W' row) (hr : ∀ k, row = some k → B ≤ k ∧ ∃ o : Obj, W.heap[k]? = some o ∧ o.isWalk = true) : I s W' :=
  hI s W W' row h hg fun k e => by
    obtain ⟨h1, o, h2, h3⟩ := hr k e
    exact ⟨by omega, o, h2, Obj.not_cells_of_walk h3⟩

set_option maxHeartbeats 1600000 in
theorem range_tells {α : Type} {g : Operand} {ps : Array Tmp} {assign body : Code} {Q : Exit → Act → World → Prop} {a : Act} {w : World}
    (hro : F.round = none) (h1 : 1 ≤ n) {gf : Nat} {lb : Array Value} (hg : a.eval g = .func (.func gf) #[] lb) (hFg : F.fn gf) (eg : ∀ args w, (callFunc gf args).run P w = .ok (.enter gf args) w)
    {en : α → Array Value} {Kn : World → α → World → Prop} {Kp : World → World → Prop} {S Sp : List α → Prop} {N : Nat} {w0 : World} (hseq : Tells F (n - 1) P gf lb en Kn Kp S Sp N w0) (hb0 : Below w0.heap.size w0 w)
    (hKt : ∀ {A B C : World}, Kp A B → Kp B C → Kp A C) (hKb : ∀ (W : World) (r r' : Loop), Desk w.heap.size r W → Kp W (W.putObj (w.heap.size + 1) (.loop r')))
    (hps : ∀ x, (en x).size = ps.size) (hKn : ∀ (U V : World) (x : α) (r r' : Loop), Desk w.heap.size r U → Desk w.heap.size r V → Kn U x V → Kn (U.putObj (w.heap.size + 1) (.loop r')) x (V.putObj (w.heap.size + 1) (.loop r')))
    (I : List α → World → Prop) (Ix : Code → List α → World → Prop) (hI : OwnFrom w.heap.size I) (hIx : ∀ c, OwnFrom w.heap.size (Ix c)) (h0 : I [] w) (a₁ : α → Act)
    (hassign : ∀ (l : Nat) (x : α) (W : World) (K : Act → World → Prop), K (a₁ x) W →
      assign.wpIn (F.inRound l) (n - 1 - 1) P (Exit.then K (fun _ _ _ => False)) { tmps := (ps.zip (en x)).foldl (fun t (p, v) => t.setIfInBounds p v) a.tmps, defers := [] } W)
    (hbody : ∀ (l : Nat) (pre : List α) (x : α) (U W : World), I pre U → Below U.heap.size U W → Kn U x W → pre.length < N → w.heap.size + 2 ≤ U.heap.size → body.wpIn (F.inRound l) (n - 1 - 1) P (ownPostG w.heap.size Kp I Ix (pre ++ [x]) W) (a₁ x) W)
    (hdone : ∀ (xs : List α) (W : World), S xs → I xs W → W.heap[w.heap.size]? = some (.deferred (some [])) → Q .normal { a with defers := { target := .collected w.heap.size, args := #[] } :: a.defers } W)
    (hstop : ∀ (c : Code) (pre : List α) (W : World), Sp pre → Ix c pre W → W.heap[w.heap.size]? = some (.deferred (some [])) → c.wpIn F n P Q { a with defers := { target := .collected w.heap.size, args := #[] } :: a.defers } W) :
    (Code.rangeFunc g ps assign body).wpIn F n P Q a w := by
  refine wpIn_rangeFunc fun fn hfn => ?_
  rw [hro]
  obtain ⟨R, hR⟩ : ∃ R : LoopState → Option Code → Loop, R = fun st pe => { state := st, pending := pe, fn, tmps := a.tmps, params := ps, assign, body, defers := w.heap.size } := ⟨_, rfl⟩
  have hd0 := Desk.new w (R .ready none)
  have hI0 : I [] ((w.alloc (.deferred (some []))).alloc (.loop (R .ready none))) := hI.alloc _ (hI.alloc _ h0)
  have hbel : Below w0.heap.size w0 ((w.alloc (.deferred (some []))).alloc (.loop (R .ready none))) := hb0.trans ((((Below.refl _ w).alloc (Nat.le_refl _) _).alloc (by simp) _).mono hb0.size)
  have hrun0 : (Instr.enterLoop fn a.tmps ps assign body none).run P w = .ok (w.heap.size + 1, [{ target := .collected w.heap.size, args := #[] }]) ((w.alloc (.deferred (some []))).alloc (.loop (R .ready none))) := by rw [hR]; exact run_enterLoop_outer _ _ _ _ _
  have hsz1 : w.heap.size ≤ ((w.alloc (.deferred (some []))).alloc (.loop (R .ready none))).heap.size := by simp; omega
  obtain ⟨W1, hW1⟩ : ∃ W1, W1 = (w.alloc (.deferred (some []))).alloc (.loop (R .ready none)) := ⟨_, rfl⟩
  rw [← hW1] at hd0 hI0 hbel hrun0 hsz1
  clear hW1
  refine ⟨w.heap.size + 1, [{ target := .collected w.heap.size, args := #[] }], W1, { target := .fn (.func gf) lb, args := #[.func (.yield (w.heap.size + 1)) #[] #[]] }, W1, gf,
    #[.func (.yield (w.heap.size + 1)) #[] #[]] ++ lb, W1, hrun0, ?_, ?_, ?_, fun _ => h1, ?_⟩
  · simp only [resolve, hg]
    simp [go_sem]
  · intro f' hf'
    simp [Target.leads] at hf'
    subst hf'
    exact hFg
  · simp [invoke, go_sem, eg]
  · refine (hseq (w.heap.size + 1) (fun pre W => I pre W ∧ Desk w.heap.size (R .ready none) W) (fun pre W => ∃ c, Ix c pre W ∧ Desk w.heap.size (R .done (some c)) W) W1 hbel
      (fun s X Y row hs hgr hr => ⟨walks_own hI hsz1 hs.1 hgr hr, hs.2.walked hgr fun k e => (hr k e).2⟩)
      (fun s X Y row hs hgr hr => by obtain ⟨c, hc, hd⟩ := hs; exact ⟨c, walks_own (hIx c) hsz1 hc hgr hr, hd.walked hgr fun k e => (hr k e).2⟩)
      ?_ ⟨hI0, hd0⟩).mono ?_
    · rintro pre x U V ⟨hi, hdU⟩ hbU hkn hlen
      have hd := hdU.later hbU
      have hy := run_yield (P := P) (args := en x) hd.rec_ (by rw [hR]; exact hps x)
      rw [hR] at hy
      refine ⟨fn, _, assign, body, hy, roundIn_of_wpIn hfn (hassign _ x V _ ⟨_, run_beginRound hd.rec_ (by rw [hR]), ?_⟩)⟩
      obtain ⟨r1, hr1⟩ : ∃ r1 : Loop, r1 = { R .ready none with state := .busy } := ⟨_, rfl⟩
      rw [← hr1]
      have hd1 := hd.turn r1
      have hk1 := hKb V _ r1 hd
      have hlt := (hdU.turn r1).lt
      refine wpIn_mono (hbody _ pre x _ _ (own_turn hI hi hdU) (below_both hbU hdU.lt _) (hKn _ _ _ _ r1 hdU hd hkn) hlen (by omega)) ?_
      -- the end of a round
      have fin : ∀ (c : Option Code) (V' : World), KeepsFrom w.heap.size (V.putObj (w.heap.size + 1) (.loop r1)) V' → Desk w.heap.size r1 V' ∧
          (Instr.endRound (w.heap.size + 1) c).run P V' = .ok (.bool c.isNone) (V'.putObj (w.heap.size + 1) (.loop (R (if c.isNone then .ready else .done) c))) := fun c V' hk => by
        have hd2 := hd1.kept hk
        refine ⟨hd2, ?_⟩
        have := run_endRound (P := P) c hd2.rec_
        rw [hr1] at this
        rw [this, hR]
      rintro e a3 V3 hp
      cases e with
      | normal =>
        obtain ⟨hd3, hrun⟩ := fin none V3 hp.1
        exact ⟨_, _, hrun, .inl ⟨rfl, ⟨own_turn hI hp.2.2 hd3, hd3.turn _⟩, hKt (hKt hk1 hp.2.1) (hKb _ _ _ hd3)⟩⟩
      | ret =>
        obtain ⟨hd3, hrun⟩ := fin (some .ret) V3 hp.1
        exact ⟨_, _, hrun, .inr ⟨rfl, .ret, own_turn (hIx _) hp.2 hd3, hd3.turn _⟩⟩
      | exit id =>
        obtain ⟨hd3, hrun⟩ := fin (some (.exit id)) V3 hp.1
        exact ⟨_, _, hrun, .inr ⟨rfl, .exit id, own_turn (hIx _) hp.2 hd3, hd3.turn _⟩⟩
      | goto t =>
        obtain ⟨hd3, hrun⟩ := fin (some (.goto t)) V3 hp.1
        exact ⟨_, _, hrun, .inr ⟨rfl, .goto t, own_turn (hIx _) hp.2 hd3, hd3.turn _⟩⟩
      | panic _ => exact hp.elim
      | outgrown => exact hp.elim
    · rintro e V ⟨⟨v, rfl⟩, hend⟩
      rcases hend with ⟨xs, hS, hi, hd⟩ | ⟨pre, hSp, c, hi, hd⟩
      · have hrun := run_endLoop (P := P) hd.rec_ (by rw [hR]; simp)
        rw [hR] at hrun
        exact ⟨none, _, hrun, hdone xs _ hS (own_turn hI hi hd) (hd.turn _).marks⟩
      · have hrun := run_endLoop (P := P) hd.rec_ (by rw [hR]; simp)
        rw [hR] at hrun
        exact ⟨some c, _, hrun, hstop c pre _ hSp (own_turn (hIx c) hi hd) (hd.turn _).marks⟩

/-! what a round keeps: rows -/
/-- Blocks of cells from block D on that hold no rows of rows lie as they lay. -/
structure RowsFrom (D : Nat) (W W' : World) : Prop where
  size : W.heap.size ≤ W'.heap.size
  same : ∀ (k : Nat) (cur : Array Value) (e : TypeId) (fr : Nat × Nat), D ≤ k → W.heap[k]? = some (.cells cur e fr) → e ≠ 36 → W'.heap[k]? = some (.cells cur e fr)
theorem RowsFrom.refl (D : Nat) (W : World) : RowsFrom D W W := ⟨Nat.le_refl _, fun _ _ _ _ _ h _ => h⟩
theorem RowsFrom.trans {D : Nat} {X Y Z : World} (h : RowsFrom D X Y) (k : RowsFrom D Y Z) : RowsFrom D X Z := ⟨Nat.le_trans h.size k.size, fun i cur e fr hi hk he => k.same i cur e fr hi (h.same i cur e fr hi hk he) he⟩
theorem RowsFrom.of_keepI {D : Nat} {W W' : World} (h : KeepI W W') : RowsFrom D W W' := ⟨h.size, fun k cur e fr _ hk he => (h.block k cur e fr hk he).trans hk⟩
theorem RowsFrom.of_below {D : Nat} {W W' : World} (h : Below W.heap.size W W') : RowsFrom D W W' := .of_keepI (.of_below h)
/-- A step that turns one block alone: it lies below D, or it holds no cells. -/
theorem RowsFrom.of_grownBy {D : Nat} {W W' : World} {row : Option Nat} (hg : W.grownBy W' row) (hr : ∀ k, row = some k → k < D ∨ ∃ o : Obj, W.heap[k]? = some o ∧ o.isCells = false) : RowsFrom D W W' :=
  ⟨hg.size, fun k cur e fr hk hc _ => (hg.block k (Array.getElem?_eq_some_iff.1 hc).1 fun e => by
    rcases hr k e.symm with h | ⟨o, ho, h⟩
    · omega
    · rw [hc] at ho; cases ho; cases h).trans hc⟩
theorem RowsFrom.turn {D B : Nat} {r : Loop} {W : World} (h : Desk B r W) (r' : Loop) : RowsFrom D W (W.putObj (B + 1) (.loop r')) := .of_grownBy (grownBy_putObj' W _ _) fun k e => by cases e; exact .inr ⟨_, h.rec_, rfl⟩
theorem RowsFrom.stored {D b : Nat} (W : World) (hb : b < D) (v : Value) : RowsFrom D W (W.setCell ⟨b, 0, none⟩ v) := .of_grownBy (grownBy_setCell' W b v) fun k e => by cases e; exact .inl hb
theorem Ints.rows {D : Nat} {W W' : World} {v : Value} {zs : List Int} (h : Ints W D v zs) (hk : RowsFrom D W W') : Ints W' D v zs := by
  refine ⟨h.1, ?_⟩
  rcases h.2 with h0 | ⟨g, cap, cur, e, hv, hb, hc, h1, h2, h3⟩
  · exact .inl h0
  · exact .inr ⟨g, cap, cur, e, hv, hb, hk.same g cur e _ hb hc h3, h1, h2, h3⟩
/-- A row speaks of cells alone. -/
theorem ints_own (D B : Nat) : OwnFrom D (fun (x : Value × List Int) W => Ints W B x.1 x.2) := fun x X Y row h hg hr => by
  refine ⟨h.1, ?_⟩
  rcases h.2 with h0 | ⟨g, cap, cur, e, hv, hb, hc, rest⟩
  · exact .inl h0
  · refine .inr ⟨g, cap, cur, e, hv, hb, (hg.block g (Array.getElem?_eq_some_iff.1 hc).1 fun e' => ?_).trans hc, rest⟩
    obtain ⟨_, o, ho, hcl⟩ := hr g e'.symm
    rw [hc] at ho; cases ho; cases hcl
/-- A row that was made since the last round: what range_tells asks of Kn. -/
theorem kn_row (D : Nat) (U V : World) (x : Value × List Int) (r r' : Loop) (_ : Desk D r U) (hd : Desk D r V) (h : Ints V U.heap.size x.1 x.2) : Ints (V.putObj (D + 1) (.loop r')) (U.putObj (D + 1) (.loop r')).heap.size x.1 x.2 := by
  have hsz : (U.putObj (D + 1) (.loop r')).heap.size = U.heap.size := by unfold World.putObj; simp
  rw [hsz]
  exact own_turn (ints_own D U.heap.size) (s := x) h hd
theorem intsS_own (D B : Nat) {β : Type} (v : Value) (f : β → List (List Int)) : OwnFrom D (fun (s : β) W => IntsS W B v (f s)) := fun s X Y row h hg hr => by
  obtain ⟨vs, h1, h2⟩ := h
  have hne : ∀ (u : Value) (zs : List Int), Ints X B u zs → Ints Y B u zs := fun u zs hu => ints_own D B (u, zs) X Y row hu hg hr
  refine ⟨vs, ?_, ⟨h2.len, fun i u zs hu hz => hne u zs (h2.row i u zs hu hz), h2.away⟩⟩
  refine h1.kept hg ?_
  rcases h1.2 with hn | ⟨g, cap, cur, hv, hb, hc, rest⟩
  · rw [hn.1]; exact .inl rfl
  · rw [hv]
    refine .inr fun e => ?_
    obtain ⟨_, o, ho, hcl⟩ := hr g e.symm
    rw [hc] at ho; cases ho; cases hcl
end Go.Proofs.YtoiipedomgefaaaGreatDoor


/-
  A RANGE OVER A FUNCTION WHOSE ITERATOR HAS BLOCKS OF ITS OWN (a list that is lent, an inner loop's desk): they lie in a zone right behind the loop's desk, and what the loop's body holds lies outside of it.
-/

namespace Go.Proofs.YtoiipedomgefaaaGreatDoor
set_option maxRecDepth 100000
open Go.RowKit

/-- What lies outside of [lo, hi) lies as it lay. -/
structure But (lo hi : Nat) (U V : World) : Prop where
  os : V.os = U.os
  tape : V.tape = U.tape
  output : V.output = U.output
  size : U.heap.size ≤ V.heap.size
  block : ∀ k, k < U.heap.size → k < lo ∨ hi ≤ k → V.heap[k]? = U.heap[k]?
theorem But.refl (lo hi : Nat) (U : World) : But lo hi U U := ⟨rfl, rfl, rfl, Nat.le_refl _, fun _ _ _ => rfl⟩
theorem But.trans {lo hi : Nat} {U V W : World} (h : But lo hi U V) (k : But lo hi V W) : But lo hi U W :=
  ⟨k.os.trans h.os, k.tape.trans h.tape, k.output.trans h.output, Nat.le_trans h.size k.size, fun i hi hz => (k.block i (Nat.lt_of_lt_of_le hi h.size) hz).trans (h.block i hi hz)⟩
theorem But.mono {lo hi lo' hi' : Nat} {U V : World} (h : But lo hi U V) (hl : lo' ≤ lo) (hh : hi ≤ hi') : But lo' hi' U V := ⟨h.os, h.tape, h.output, h.size, fun k hk hz => h.block k hk (by omega)⟩
theorem But.of_below {lo hi : Nat} {U V : World} (h : Below U.heap.size U V) : But lo hi U V := ⟨h.os, h.tape, h.output, h.size, fun k hk _ => h.block k hk⟩
/-- Changes at or behind lo alone, and no block lay behind hi. -/
theorem But.of_below_lo {lo hi : Nat} {U V : World} (h : Below lo U V) (hs : U.heap.size ≤ hi) : But lo hi U V := ⟨h.os, h.tape, h.output, h.size, fun k hk hz => h.block k (by omega)⟩
theorem But.below {lo hi n : Nat} {U V : World} (h : But lo hi U V) (hn : n ≤ lo) (hs : n ≤ U.heap.size) : Below n U V := ⟨h.os, h.tape, h.output, h.size, fun k hk => h.block k (by omega) (by omega)⟩
theorem But.alloc {lo hi : Nat} (U : World) (o : Obj) : But lo hi U (U.alloc o) := .of_below ((Below.refl _ U).alloc (Nat.le_refl _) o)
theorem But.grown {lo hi : Nat} {U V : World} {row : Option Nat} (hg : U.grownBy V row) (hr : ∀ k, row = some k → lo ≤ k ∧ k < hi) : But lo hi U V :=
  ⟨hg.os, hg.tape, hg.output, hg.size, fun k hk hz => hg.block k hk fun e => by have := hr k e.symm; omega⟩
theorem But.putObj {lo hi : Nat} (U : World) {k : Nat} (h1 : lo ≤ k) (h2 : k < hi) (o : Obj) : But lo hi U (U.putObj k o) := .grown (grownBy_putObj' U k o) fun j e => by cases e; exact ⟨h1, h2⟩
theorem But.setCell {lo hi : Nat} (U : World) {b : Nat} (h1 : lo ≤ b) (h2 : b < hi) (v : Value) : But lo hi U (U.setCell ⟨b, 0, none⟩ v) := .grown (grownBy_setCell' U b v) fun j e => by cases e; exact ⟨h1, h2⟩
theorem Desk.but {D lo hi : Nat} {r : Loop} {U V : World} (h : Desk D r U) (hb : But lo hi U V) (hz : D + 2 ≤ lo ∨ hi ≤ D) : Desk D r V :=
  ⟨(hb.block _ h.lt (by omega)).trans h.rec_, (hb.block _ (by have := h.lt; omega) (by omega)).trans h.marks⟩
theorem Boxed.but {W W' : World} {lo hi b : Nat} {t : TypeId} {v : Value} (h : Boxed W b t v) (hb : But lo hi W W') (hz : b < lo ∨ hi ≤ b) : Boxed W' b t v := (hb.block b h.lt hz).trans h
theorem Ints.but {W W' : World} {lo hi B : Nat} {v : Value} {zs : List Int} (h : Ints W B v zs) (hb : But lo hi W W') (hB : hi ≤ B) : Ints W' B v zs := by
  refine ⟨h.1, ?_⟩
  rcases h.2 with h0 | ⟨g, cap, cur, e, hv, hg, hc, rest⟩
  · exact .inl h0
  · exact .inr ⟨g, cap, cur, e, hv, hg, (hb.block g (Array.getElem?_eq_some_iff.1 hc).1 (by omega)).trans hc, rest⟩
theorem IntsS.but {W W' : World} {lo hi B : Nat} {v : Value} {zss : List (List Int)} (h : IntsS W B v zss) (hb : But lo hi W W') (hB : hi ≤ B) : IntsS W' B v zss := by
  obtain ⟨vs, h1, h2⟩ := h
  refine ⟨vs, ⟨h1.1, ?_⟩, ⟨h2.len, fun i u zs hu hz => (h2.row i u zs hu hz).but hb hB, h2.away⟩⟩
  rcases h1.2 with hn | ⟨g, cap, cur, hv, hg, hc, rest⟩
  · exact .inl hn
  · exact .inr ⟨g, cap, cur, hv, hg, (hb.block g (Array.getElem?_eq_some_iff.1 hc).1 (by omega)).trans hc, rest⟩

/-- The blocks of which P speaks lie as they lay. -/
structure Keep (P : Nat → Prop) (U V : World) : Prop where
  size : U.heap.size ≤ V.heap.size
  block : ∀ k, k < U.heap.size → P k → V.heap[k]? = U.heap[k]?
theorem Keep.refl (P : Nat → Prop) (U : World) : Keep P U U := ⟨Nat.le_refl _, fun _ _ _ => rfl⟩
theorem Keep.trans {P : Nat → Prop} {U V W : World} (h : Keep P U V) (k : Keep P V W) : Keep P U W := ⟨Nat.le_trans h.size k.size, fun i hi hp => (k.block i (Nat.lt_of_lt_of_le hi h.size) hp).trans (h.block i hi hp)⟩
theorem Keep.mono {P Q : Nat → Prop} {U V : World} (h : Keep P U V) (hq : ∀ k, Q k → P k) : Keep Q U V := ⟨h.size, fun k hk hp => h.block k hk (hq k hp)⟩
theorem Keep.of_below {P : Nat → Prop} {U V : World} (h : Below U.heap.size U V) : Keep P U V := ⟨h.size, fun k hk _ => h.block k hk⟩
theorem Keep.of_but {P : Nat → Prop} {lo hi : Nat} {U V : World} (h : But lo hi U V) (hp : ∀ k, P k → k < lo ∨ hi ≤ k) : Keep P U V := ⟨h.size, fun k hk h1 => h.block k hk (hp k h1)⟩
theorem Keep.putObj {P : Nat → Prop} (U : World) {b : Nat} (h : ¬ P b) (o : Obj) : Keep P U (U.putObj b o) := .of_but (.putObj U (Nat.le_refl b) (Nat.lt_succ_self b) o) fun k hk => by
  by_cases e : k = b
  · subst e; exact absurd hk h
  · omega
theorem Keep.setCell {P : Nat → Prop} (U : World) {b : Nat} (h : ¬ P b) (v : Value) : Keep P U (U.setCell ⟨b, 0, none⟩ v) := .of_but (.setCell U (Nat.le_refl b) (Nat.lt_succ_self b) v) fun k hk => by
  by_cases e : k = b
  · subst e; exact absurd hk h
  · omega
theorem Keep.desk {P : Nat → Prop} {D : Nat} {r : Loop} {U V : World} (h : Keep P U V) (hd : Desk D r U) (h1 : P D) (h2 : P (D + 1)) : Desk D r V :=
  ⟨(h.block _ hd.lt h2).trans hd.rec_, (h.block _ (by have := hd.lt; omega) h1).trans hd.marks⟩
theorem Keep.boxed {P : Nat → Prop} {b : Nat} {t : TypeId} {v : Value} {U V : World} (h : Keep P U V) (hd : Boxed U b t v) (h1 : P b) : Boxed V b t v := (h.block b hd.lt h1).trans hd

variable {F : Fence} {n : Nat} {P : Program}
/-- The iterator, whose own blocks are the z ones behind the loop's desk, hands x over in a world V that it has come to from U by new blocks alone; 'Kn U x V' holds; of a round that goes on it asks Kp. -/
def TellsZ {α : Type} (F : Fence) (n : Nat) (P : Program) (gf : Nat) (lb : Array Value) (z : Nat) (en : α → Array Value) (Kn : World → α → World → Prop) (Kp : World → World → Prop) (S Sp : List α → Prop) (N : Nat) (w : World) : Prop :=
  ∀ (l : Nat) (J Jx : List α → World → Prop) (W : World), Below w.heap.size w W → W.heap.size = w.heap.size + 2 →
    (∀ pre U V, J pre U → But (w.heap.size + 2) (w.heap.size + 2 + z) U V → J pre V) → (∀ pre U V, Jx pre U → But (w.heap.size + 2) (w.heap.size + 2 + z) U V → Jx pre V) →
    (∀ pre x U V, J pre U → w.heap.size + 2 + z ≤ U.heap.size → Below U.heap.size U V → Kn U x V → pre.length < N → YieldAt F (n - 1) P l (en x) V fun e V' => (e = .returned (.bool true) ∧ J (pre ++ [x]) V' ∧ Kp V V') ∨ (e = .returned (.bool false) ∧ Jx (pre ++ [x]) V' ∧ Kp V V')) →
    J [] W → CallsIn F n P gf (#[.func (.yield l) #[] #[]] ++ lb) W fun e V => (∃ v, e = .returned v) ∧ ((∃ xs, S xs ∧ J xs V) ∨ ∃ pre, Sp pre ∧ Jx pre V)

/-- The body's word at its ways out. -/
def postZ {α : Type} (D : Nat) (Kp : World → World → Prop) (I : List α → World → Prop) (Ix : Code → List α → World → Prop) (xs : List α) (W : World) : Exit → Act → World → Prop
  | .normal, _, W' => (∀ r, Desk D r W → Desk D r W') ∧ Kp W W' ∧ I xs W'
  | .ret, _, W' => (∀ r, Desk D r W → Desk D r W') ∧ Kp W W' ∧ Ix .ret xs W'
  | .exit id, _, W' => (∀ r, Desk D r W → Desk D r W') ∧ Kp W W' ∧ Ix (.exit id) xs W'
  | .goto t, _, W' => (∀ r, Desk D r W → Desk D r W') ∧ Kp W W' ∧ Ix (.goto t) xs W'
  | .panic _, _, _ => False
  | .outgrown, _, _ => False

set_option maxHeartbeats 1600000 in
theorem range_zone {α : Type} {g : Operand} {ps : Array Tmp} {assign body : Code} {Q : Exit → Act → World → Prop} {a : Act} {w : World}
    (hro : F.round = none) (h1 : 1 ≤ n) {gf : Nat} {lb : Array Value} (hg : a.eval g = .func (.func gf) #[] lb) (hFg : F.fn gf) (eg : ∀ args w, (callFunc gf args).run P w = .ok (.enter gf args) w)
    {z : Nat} {en : α → Array Value} {Kn : World → α → World → Prop} {Kp : World → World → Prop} {S Sp : List α → Prop} {N : Nat} (hseq : TellsZ F (n - 1) P gf lb z en Kn Kp S Sp N w)
    (hKt : ∀ {A B C : World}, Kp A B → Kp B C → Kp A C) (hKb : ∀ (W : World) (r r' : Loop), Desk w.heap.size r W → Kp W (W.putObj (w.heap.size + 1) (.loop r')))
    (hps : ∀ x, (en x).size = ps.size) (hKn : ∀ (U V : World) (x : α) (r r' : Loop), Desk w.heap.size r U → Desk w.heap.size r V → Kn U x V → Kn (U.putObj (w.heap.size + 1) (.loop r')) x (V.putObj (w.heap.size + 1) (.loop r')))
    (I : List α → World → Prop) (Ix : Code → List α → World → Prop) (hI : ∀ pre U V, I pre U → But w.heap.size (w.heap.size + 2 + z) U V → I pre V) (hIx : ∀ c pre U V, Ix c pre U → But w.heap.size (w.heap.size + 2 + z) U V → Ix c pre V) (h0 : I [] w) (a₁ : α → Act)
    (hassign : ∀ (l : Nat) (x : α) (W : World) (K : Act → World → Prop), K (a₁ x) W →
      assign.wpIn (F.inRound l) (n - 1 - 1) P (Exit.then K (fun _ _ _ => False)) { tmps := (ps.zip (en x)).foldl (fun t (p, v) => t.setIfInBounds p v) a.tmps, defers := [] } W)
    (hbody : ∀ (l : Nat) (pre : List α) (x : α) (U W : World), I pre U → w.heap.size + 2 + z ≤ U.heap.size → Below U.heap.size U W → Kn U x W → pre.length < N → body.wpIn (F.inRound l) (n - 1 - 1) P (postZ w.heap.size Kp I Ix (pre ++ [x]) W) (a₁ x) W)
    (hdone : ∀ (xs : List α) (W : World), S xs → I xs W → W.heap[w.heap.size]? = some (.deferred (some [])) → Q .normal { a with defers := { target := .collected w.heap.size, args := #[] } :: a.defers } W)
    (hstop : ∀ (c : Code) (pre : List α) (W : World), Sp pre → Ix c pre W → W.heap[w.heap.size]? = some (.deferred (some [])) → c.wpIn F n P Q { a with defers := { target := .collected w.heap.size, args := #[] } :: a.defers } W) :
    (Code.rangeFunc g ps assign body).wpIn F n P Q a w := by
  refine wpIn_rangeFunc fun fn hfn => ?_
  rw [hro]
  obtain ⟨R, hR⟩ : ∃ R : LoopState → Option Code → Loop, R = fun st pe => { state := st, pending := pe, fn, tmps := a.tmps, params := ps, assign, body, defers := w.heap.size } := ⟨_, rfl⟩
  have hd0 := Desk.new w (R .ready none)
  have hI0 : I [] ((w.alloc (.deferred (some []))).alloc (.loop (R .ready none))) := hI _ _ _ h0 ((But.alloc _ _).trans (But.alloc _ _))
  have hbel : Below w.heap.size w ((w.alloc (.deferred (some []))).alloc (.loop (R .ready none))) := (((Below.refl _ w).alloc (Nat.le_refl _) _).alloc (by simp) _)
  have hrun0 : (Instr.enterLoop fn a.tmps ps assign body none).run P w = .ok (w.heap.size + 1, [{ target := .collected w.heap.size, args := #[] }]) ((w.alloc (.deferred (some []))).alloc (.loop (R .ready none))) := by rw [hR]; exact run_enterLoop_outer _ _ _ _ _
  have hsz1 : ((w.alloc (.deferred (some []))).alloc (.loop (R .ready none))).heap.size = w.heap.size + 2 := by simp
  obtain ⟨W1, hW1⟩ : ∃ W1, W1 = (w.alloc (.deferred (some []))).alloc (.loop (R .ready none)) := ⟨_, rfl⟩
  rw [← hW1] at hd0 hI0 hbel hrun0 hsz1
  clear hW1
  have hturn : ∀ (W : World) (r' : Loop), But w.heap.size (w.heap.size + 2 + z) W (W.putObj (w.heap.size + 1) (.loop r')) := fun W r' => But.putObj W (by omega) (by omega) _
  refine ⟨w.heap.size + 1, [{ target := .collected w.heap.size, args := #[] }], W1, { target := .fn (.func gf) lb, args := #[.func (.yield (w.heap.size + 1)) #[] #[]] }, W1, gf,
    #[.func (.yield (w.heap.size + 1)) #[] #[]] ++ lb, W1, hrun0, ?_, ?_, ?_, fun _ => h1, ?_⟩
  · simp only [resolve, hg]
    simp [go_sem]
  · intro f' hf'
    simp [Target.leads] at hf'
    subst hf'
    exact hFg
  · simp [invoke, go_sem, eg]
  · refine (hseq (w.heap.size + 1) (fun pre W => I pre W ∧ Desk w.heap.size (R .ready none) W) (fun pre W => ∃ c, Ix c pre W ∧ Desk w.heap.size (R .done (some c)) W) W1 hbel hsz1
      (fun pre U V hs hb => ⟨hI _ _ _ hs.1 (hb.mono (by omega) (Nat.le_refl _)), hs.2.but hb (.inl (Nat.le_refl _))⟩)
      (fun pre U V hs hb => by obtain ⟨c, hc, hd⟩ := hs; exact ⟨c, hIx _ _ _ _ hc (hb.mono (by omega) (Nat.le_refl _)), hd.but hb (.inl (Nat.le_refl _))⟩)
      ?_ ⟨hI0, hd0⟩).mono ?_
    · rintro pre x U V ⟨hi, hdU⟩ hzU hbU hkn hlen
      have hd := hdU.later hbU
      have hy := run_yield (P := P) (args := en x) hd.rec_ (by rw [hR]; exact hps x)
      rw [hR] at hy
      refine ⟨fn, _, assign, body, hy, roundIn_of_wpIn hfn (hassign _ x V _ ⟨_, run_beginRound hd.rec_ (by rw [hR]), ?_⟩)⟩
      obtain ⟨r1, hr1⟩ : ∃ r1 : Loop, r1 = { R .ready none with state := .busy } := ⟨_, rfl⟩
      rw [← hr1]
      have hd1 := hd.turn r1
      have hk1 := hKb V _ r1 hd
      have hlt := (hdU.turn r1).lt
      have hszp : (U.putObj (w.heap.size + 1) (.loop r1)).heap.size = U.heap.size := by unfold World.putObj; simp
      refine wpIn_mono (hbody _ pre x _ _ (hI _ _ _ hi (hturn _ _)) (by omega) (below_both hbU hdU.lt _) (hKn _ _ _ _ r1 hdU hd hkn) hlen) ?_
      have fin : ∀ (c : Option Code) (V' : World), (∀ r, Desk w.heap.size r (V.putObj (w.heap.size + 1) (.loop r1)) → Desk w.heap.size r V') → Desk w.heap.size r1 V' ∧
          (Instr.endRound (w.heap.size + 1) c).run P V' = .ok (.bool c.isNone) (V'.putObj (w.heap.size + 1) (.loop (R (if c.isNone then .ready else .done) c))) := fun c V' hk => by
        have hd2 := hk _ hd1
        refine ⟨hd2, ?_⟩
        have := run_endRound (P := P) c hd2.rec_
        rw [hr1] at this
        rw [this, hR]
      rintro e a3 V3 hp
      cases e with
      | normal =>
        obtain ⟨hd3, hrun⟩ := fin none V3 hp.1
        exact ⟨_, _, hrun, .inl ⟨rfl, ⟨hI _ _ _ hp.2.2 (hturn _ _), hd3.turn _⟩, hKt (hKt hk1 hp.2.1) (hKb _ _ _ hd3)⟩⟩
      | ret =>
        obtain ⟨hd3, hrun⟩ := fin (some .ret) V3 hp.1
        exact ⟨_, _, hrun, .inr ⟨rfl, ⟨.ret, hIx _ _ _ _ hp.2.2 (hturn _ _), hd3.turn _⟩, hKt (hKt hk1 hp.2.1) (hKb _ _ _ hd3)⟩⟩
      | exit id =>
        obtain ⟨hd3, hrun⟩ := fin (some (.exit id)) V3 hp.1
        exact ⟨_, _, hrun, .inr ⟨rfl, ⟨.exit id, hIx _ _ _ _ hp.2.2 (hturn _ _), hd3.turn _⟩, hKt (hKt hk1 hp.2.1) (hKb _ _ _ hd3)⟩⟩
      | goto t =>
        obtain ⟨hd3, hrun⟩ := fin (some (.goto t)) V3 hp.1
        exact ⟨_, _, hrun, .inr ⟨rfl, ⟨.goto t, hIx _ _ _ _ hp.2.2 (hturn _ _), hd3.turn _⟩, hKt (hKt hk1 hp.2.1) (hKb _ _ _ hd3)⟩⟩
      | panic _ => exact hp.elim
      | outgrown => exact hp.elim
    · rintro e V ⟨⟨v, rfl⟩, hend⟩
      rcases hend with ⟨xs, hS, hi, hd⟩ | ⟨pre, hSp, c, hi, hd⟩
      · have hrun := run_endLoop (P := P) hd.rec_ (by rw [hR]; simp)
        rw [hR] at hrun
        exact ⟨none, _, hrun, hdone xs _ hS (hI _ _ _ hi (hturn _ _)) (hd.turn _).marks⟩
      · have hrun := run_endLoop (P := P) hd.rec_ (by rw [hR]; simp)
        rw [hR] at hrun
        exact ⟨some c, _, hrun, hstop c pre _ hSp (hIx _ _ _ _ hi (hturn _ _)) (hd.turn _).marks⟩
end Go.Proofs.YtoiipedomgefaaaGreatDoor


/-
  A region that draws its order, in a round of a range over a function; a call of yield at any depth of the wide fence.
-/

namespace Go.Proofs.YtoiipedomgefaaaGreatDoor
set_option maxRecDepth 100000
open Go.RowKit Go.Shelf

/-- No operation defers. -/
def plainOps (ops : Array Oper) : Bool := ops.toList.all fun o => match o.op with | .defer _ => false | _ => true
theorem plainOps_at {ops : Array Oper} (h : plainOps ops = true) {i : Nat} {o : Oper} (ho : ops[i]? = some o) : ∀ c, o.op ≠ .defer c := by
  unfold plainOps at h
  rw [List.all_eq_true] at h
  intro c e
  have h1 := h o (List.mem_of_getElem? (by rw [Array.getElem?_toList]; exact ho))
  rw [e] at h1
  cases h1
theorem operIn_round {F : Fence} {n : Nat} {P : Program} {o : Oper} (l : Nat) (hr : F.round = none) (hd : ∀ c, o.op ≠ .defer c) {a : Act} {w : World} {K : Act → World → Prop} {Q : Exit → Act → World → Prop} (h : o.wpIn F n P a w K Q) : o.wpIn (F.inRound l) n P a w K Q := by
  unfold Oper.wpIn at *
  refine ⟨h.1, ?_⟩
  have h2 := h.2
  rw [hr, Oper.semAt_none] at h2
  rw [Fence.inRound_round, Oper.semAt_eq _ _ _ hd]
  exact h2
theorem opsIn_round {F : Fence} {n : Nat} {P : Program} {ops : Array Oper} {Q : Exit → Act → World → Prop} (l : Nat) (hr : F.round = none) (hd : plainOps ops = true) : ∀ (is : List Nat) (a : Act) (w : World), wpOpsIn F n P ops Q is a w → wpOpsIn (F.inRound l) n P ops Q is a w
  | [], _, _, h => h
  | i :: rest, a, w, h => by
    unfold wpOpsIn at h ⊢
    cases ho : ops[i]? with
    | none => rw [ho] at h; exact opsIn_round l hr hd rest a w h
    | some o =>
      rw [ho] at h
      dsimp only at h ⊢
      split
      · rename_i hw
        rw [if_pos hw] at h
        exact operIn_round l hr (plainOps_at hd ho) (Oper.wpIn_mono (fun a w k => opsIn_round l hr hd rest a w k) h)
      · rename_i hw
        rw [if_neg hw] at h
        exact ⟨h.1, opsIn_round l hr hd rest _ w h.2⟩
/-- A region without a defer statement is walked in a round as outside of one. -/
theorem region_round {F : Fence} {n : Nat} {P : Program} {id : Nat} {ops : Array Oper} {Q : Exit → Act → World → Prop} {a : Act} {w : World} (l : Nat) (hr : F.round = none) (hd : plainOps ops = true) (hm : P.follows .mixedOrders = true)
    (h : wpAnyIn F n P .any ops Q ops.size (Array.replicate ops.size false) a { w with drawn := w.drawn + 1 }) : (Code.region id ops true).wpIn (F.inRound l) n P Q a w :=
  wpIn_region_draw fun t => by
    simp only [Region.schedule, hm, Bool.true_or, if_true]
    exact opsIn_round l hr hd _ a _ (wpAnyIn_sound ops.size t _ a _ h)

theorem round_any {F : Fence} (hd : F.depth = none) {m m' : Nat} {P : Program} {l : Nat} {args : Array Value} {W : World} {R : Ending → World → Prop} (h : YieldAt F m P l args W R) : YieldAt F m' P l args W R := by
  obtain ⟨fn, tmps, assign, body, hy, hR⟩ := h
  exact ⟨fn, tmps, assign, body, hy, hR.1, fun c cs _ => hR.2 c cs (by unfold Fence.room; rw [hd]; intro d h; cases h)⟩
end Go.Proofs.YtoiipedomgefaaaGreatDoor
