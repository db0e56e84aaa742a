/-
  Words and contracts that the laws lean on, bundled: IdxA, End, IntsA, SumAll, Join, Joins, OrdA, MkbA, ConS.
-/
import Derived.Test.YtoiipedomgefaaaDoorB8
import Derived.Test.YtoiipedomgefaaaDoorB7
import Derived.Lib.SliceRun
import Derived.Test.YtoiipedomgefaaaDoorRows
import Derived.ProofKit
import Derived.OpenShut
import Derived.Carry
import Derived.SliceStrings
import Derived.Test.YtoiipedomgefaaaDoorB2
import Derived.Test.YtoiipedomgefaaaDoorB4
import Derived.LaidMore
import Derived.Test.YtoiipedomgefaaaDoorB1
import Derived.Test.YtoiipedomgefaaaDoorB3
import Derived.Deep.RegionHeld3
import Derived.Test.YtoiipedomgefaaaDoorB9
import Derived.Lib.AppendZeros

/-
  slices.IndexFunc and ContainsFunc over rows that are read place by place, for each closure of chapter 13. (Written by wip/tools/mkidxa.py.)
-/

namespace Go.Proofs.YtoiipedomgefaaaDoor
set_option maxRecDepth 100000
open Go.RowKit

set_option maxHeartbeats 800000 in
theorem idxaMB_any (A : Option Addr) (n c : Nat) (zss : List (List Int)) (f : List Int → Bool) (w : World) (hS : AtS w A n zss) (hn : n ≤ 1048576)
    (HP : Hid (∀ (w1 : World), Below w.heap.size w w1 → ∀ (A1 : Option Addr) (c1 : Nat) (z : List Int), z ∈ zss → Arg w1 w1.heap.size A1 z.length c1 z → Calls Tryd.prog 63 #[.slice A1 z.length c1] w1 (GivesB w1 (f z)))) :
    Calls Tryd.prog 68 #[.slice A n c, .func (.func 63) #[] #[]] w (FirstAt w f zss) := by
  have hl := hS.1
  have HS := hide hS
  have HL := hide hl
  have hb0 := Below.refl w.heap.size w
  clear hS hl
  go_enter Tryd.func68, Tryd.ntmps68
  go_wp2
  go_loopw [5, 8] (fun _ i wr => ∃ k : Nat, k ≤ n ∧ i = .int .i64 k ∧ Below w.heap.size w wr ∧ Hid (∀ y ∈ zss.take k, f y = false)) (fun _ i _ => n - (intOf i).toNat)
  case atStart => exact ⟨0, Nat.zero_le _, rfl, hb0, fun y hy => by simp at hy⟩
  case round =>
    obtain ⟨k, hk, rfl, hb, hno⟩ := hrel
    clear hb0
    by_cases hlt : k < n
    · obtain ⟨ad, A1, c1, z, rfl, hzk, hcell, hI⟩ := (unhide HS).2 wr hb k hlt
      obtain ⟨b, hbf⟩ : ∃ b, f z = b := ⟨_, rfl⟩
      have H1 := hide (unhide HP wr hb A1 c1 z (List.mem_of_getElem? hzk) hI)
      rw [hbf] at H1
      obtain ⟨lz, hlz⟩ : ∃ l, l = z.length := ⟨_, rfl⟩
      rw [← hlz] at hcell H1
      cases b with
      | true =>
        have HE := hide (⟨hzk, hbf⟩ : _ ∧ _)
        clear hI hzk hbf hlz
        go_wp2_with fail
        refine (unhide H1).mono ?_
        rintro e w2 ⟨rfl, d2⟩
        have hb2 := below_after hb d2
        clear H1 d2 hb
        go_wp2
        go_ret
        exact ⟨(k : Int), rfl, .inr ⟨k, z, rfl, (unhide HE).1, (unhide HE).2, unhide hno⟩, hb2⟩
      | false =>
        have hno2 := hide (no_step hzk hbf (unhide hno))
        clear hI hzk hbf hno hlz
        go_wp2_with fail
        refine (unhide H1).mono ?_
        rintro e w2 ⟨rfl, d2⟩
        have hb2 := below_after hb d2
        clear H1 d2 hb
        go_wp2
        go_roundw
        case rel => exact ⟨k + 1, by omega, by go_num, hb2, hno2⟩
        case measure => simp [intOf]; omega
    · obtain rfl : n = k := by omega
      have hno2 := hide (show ∀ y ∈ zss, f y = false by
        have h := unhide hno
        rwa [List.take_of_length_le (by rw [unhide HL]; exact Nat.le_refl _)] at h)
      clear hno
      go_wp2
      go_ret
      exact ⟨-1, rfl, .inl ⟨rfl, unhide hno2⟩, hb⟩
theorem conaMB_any (A : Option Addr) (n c : Nat) (zss : List (List Int)) (f : List Int → Bool) (w : World) (hS : AtS w A n zss) (hn : n ≤ 1048576)
    (HP : Hid (∀ (w1 : World), Below w.heap.size w w1 → ∀ (A1 : Option Addr) (c1 : Nat) (z : List Int), z ∈ zss → Arg w1 w1.heap.size A1 z.length c1 z → Calls Tryd.prog 63 #[.slice A1 z.length c1] w1 (GivesB w1 (f z)))) :
    Calls Tryd.prog 49 #[.slice A n c, .func (.func 63) #[] #[]] w (GivesB w (zss.any f)) := by
  have H1 := hide (idxaMB_any A n c zss f w hS hn HP)
  clear hS HP
  go_enter Tryd.func49, Tryd.ntmps49
  go_wp2_with fail
  refine (unhide H1).mono ?_
  rintro e w1 ⟨x, rfl, hx, d1⟩
  have HX := hide (show decide (0 ≤ x) = zss.any f by
    rcases hx with ⟨rfl, h⟩ | ⟨k, z, rfl, hz, hf, _⟩
    · symm
      rw [show decide ((0 : Int) ≤ -1) = false from rfl, List.any_eq_false]
      exact fun z hz => by rw [h z hz]; simp
    · symm
      rw [decide_eq_true (by omega), List.any_eq_true]
      exact ⟨z, List.mem_of_getElem? hz, hf⟩)
  clear H1 hx
  go_wp2
  go_ret
  exact ⟨by rw [← unhide HX]; rfl, d1⟩
set_option maxHeartbeats 800000 in
theorem idxaIB_any (bx : Nat) (A : Option Addr) (n c : Nat) (zss : List (List Int)) (f : List Int → Bool) (w : World) (hS : AtS w A n zss) (hn : n ≤ 1048576)
    (HP : Hid (∀ (w1 : World), Below w.heap.size w w1 → ∀ (A1 : Option Addr) (c1 : Nat) (z : List Int), z ∈ zss → Arg w1 w1.heap.size A1 z.length c1 z → Calls Tryd.prog 69 #[.slice A1 z.length c1, .pointer (some ⟨bx, 0, none⟩)] w1 (GivesB w1 (f z)))) :
    Calls Tryd.prog 68 #[.slice A n c, .func (.func 69) #[] #[.pointer (some ⟨bx, 0, none⟩)]] w (FirstAt w f zss) := by
  have hl := hS.1
  have HS := hide hS
  have HL := hide hl
  have hb0 := Below.refl w.heap.size w
  clear hS hl
  go_enter Tryd.func68, Tryd.ntmps68
  go_wp2
  go_loopw [5, 8] (fun _ i wr => ∃ k : Nat, k ≤ n ∧ i = .int .i64 k ∧ Below w.heap.size w wr ∧ Hid (∀ y ∈ zss.take k, f y = false)) (fun _ i _ => n - (intOf i).toNat)
  case atStart => exact ⟨0, Nat.zero_le _, rfl, hb0, fun y hy => by simp at hy⟩
  case round =>
    obtain ⟨k, hk, rfl, hb, hno⟩ := hrel
    clear hb0
    by_cases hlt : k < n
    · obtain ⟨ad, A1, c1, z, rfl, hzk, hcell, hI⟩ := (unhide HS).2 wr hb k hlt
      obtain ⟨b, hbf⟩ : ∃ b, f z = b := ⟨_, rfl⟩
      have H1 := hide (unhide HP wr hb A1 c1 z (List.mem_of_getElem? hzk) hI)
      rw [hbf] at H1
      obtain ⟨lz, hlz⟩ : ∃ l, l = z.length := ⟨_, rfl⟩
      rw [← hlz] at hcell H1
      cases b with
      | true =>
        have HE := hide (⟨hzk, hbf⟩ : _ ∧ _)
        clear hI hzk hbf hlz
        go_wp2_with fail
        refine (unhide H1).mono ?_
        rintro e w2 ⟨rfl, d2⟩
        have hb2 := below_after hb d2
        clear H1 d2 hb
        go_wp2
        go_ret
        exact ⟨(k : Int), rfl, .inr ⟨k, z, rfl, (unhide HE).1, (unhide HE).2, unhide hno⟩, hb2⟩
      | false =>
        have hno2 := hide (no_step hzk hbf (unhide hno))
        clear hI hzk hbf hno hlz
        go_wp2_with fail
        refine (unhide H1).mono ?_
        rintro e w2 ⟨rfl, d2⟩
        have hb2 := below_after hb d2
        clear H1 d2 hb
        go_wp2
        go_roundw
        case rel => exact ⟨k + 1, by omega, by go_num, hb2, hno2⟩
        case measure => simp [intOf]; omega
    · obtain rfl : n = k := by omega
      have hno2 := hide (show ∀ y ∈ zss, f y = false by
        have h := unhide hno
        rwa [List.take_of_length_le (by rw [unhide HL]; exact Nat.le_refl _)] at h)
      clear hno
      go_wp2
      go_ret
      exact ⟨-1, rfl, .inl ⟨rfl, unhide hno2⟩, hb⟩
set_option maxHeartbeats 800000 in
theorem idxaIS_any (A : Option Addr) (n c : Nat) (zss : List (List Int)) (f : List Int → Bool) (w : World) (hS : AtS w A n zss) (hn : n ≤ 1048576)
    (HP : Hid (∀ (w1 : World), Below w.heap.size w w1 → ∀ (A1 : Option Addr) (c1 : Nat) (z : List Int), z ∈ zss → Arg w1 w1.heap.size A1 z.length c1 z → Calls Tryd.prog 50 #[.slice A1 z.length c1] w1 (GivesB w1 (f z)))) :
    Calls Tryd.prog 68 #[.slice A n c, .func (.func 50) #[] #[]] w (FirstAt w f zss) := by
  have hl := hS.1
  have HS := hide hS
  have HL := hide hl
  have hb0 := Below.refl w.heap.size w
  clear hS hl
  go_enter Tryd.func68, Tryd.ntmps68
  go_wp2
  go_loopw [5, 8] (fun _ i wr => ∃ k : Nat, k ≤ n ∧ i = .int .i64 k ∧ Below w.heap.size w wr ∧ Hid (∀ y ∈ zss.take k, f y = false)) (fun _ i _ => n - (intOf i).toNat)
  case atStart => exact ⟨0, Nat.zero_le _, rfl, hb0, fun y hy => by simp at hy⟩
  case round =>
    obtain ⟨k, hk, rfl, hb, hno⟩ := hrel
    clear hb0
    by_cases hlt : k < n
    · obtain ⟨ad, A1, c1, z, rfl, hzk, hcell, hI⟩ := (unhide HS).2 wr hb k hlt
      obtain ⟨b, hbf⟩ : ∃ b, f z = b := ⟨_, rfl⟩
      have H1 := hide (unhide HP wr hb A1 c1 z (List.mem_of_getElem? hzk) hI)
      rw [hbf] at H1
      obtain ⟨lz, hlz⟩ : ∃ l, l = z.length := ⟨_, rfl⟩
      rw [← hlz] at hcell H1
      cases b with
      | true =>
        have HE := hide (⟨hzk, hbf⟩ : _ ∧ _)
        clear hI hzk hbf hlz
        go_wp2_with fail
        refine (unhide H1).mono ?_
        rintro e w2 ⟨rfl, d2⟩
        have hb2 := below_after hb d2
        clear H1 d2 hb
        go_wp2
        go_ret
        exact ⟨(k : Int), rfl, .inr ⟨k, z, rfl, (unhide HE).1, (unhide HE).2, unhide hno⟩, hb2⟩
      | false =>
        have hno2 := hide (no_step hzk hbf (unhide hno))
        clear hI hzk hbf hno hlz
        go_wp2_with fail
        refine (unhide H1).mono ?_
        rintro e w2 ⟨rfl, d2⟩
        have hb2 := below_after hb d2
        clear H1 d2 hb
        go_wp2
        go_roundw
        case rel => exact ⟨k + 1, by omega, by go_num, hb2, hno2⟩
        case measure => simp [intOf]; omega
    · obtain rfl : n = k := by omega
      have hno2 := hide (show ∀ y ∈ zss, f y = false by
        have h := unhide hno
        rwa [List.take_of_length_le (by rw [unhide HL]; exact Nat.le_refl _)] at h)
      clear hno
      go_wp2
      go_ret
      exact ⟨-1, rfl, .inl ⟨rfl, unhide hno2⟩, hb⟩
theorem conaIS_any (A : Option Addr) (n c : Nat) (zss : List (List Int)) (f : List Int → Bool) (w : World) (hS : AtS w A n zss) (hn : n ≤ 1048576)
    (HP : Hid (∀ (w1 : World), Below w.heap.size w w1 → ∀ (A1 : Option Addr) (c1 : Nat) (z : List Int), z ∈ zss → Arg w1 w1.heap.size A1 z.length c1 z → Calls Tryd.prog 50 #[.slice A1 z.length c1] w1 (GivesB w1 (f z)))) :
    Calls Tryd.prog 49 #[.slice A n c, .func (.func 50) #[] #[]] w (GivesB w (zss.any f)) := by
  have H1 := hide (idxaIS_any A n c zss f w hS hn HP)
  clear hS HP
  go_enter Tryd.func49, Tryd.ntmps49
  go_wp2_with fail
  refine (unhide H1).mono ?_
  rintro e w1 ⟨x, rfl, hx, d1⟩
  have HX := hide (show decide (0 ≤ x) = zss.any f by
    rcases hx with ⟨rfl, h⟩ | ⟨k, z, rfl, hz, hf, _⟩
    · symm
      rw [show decide ((0 : Int) ≤ -1) = false from rfl, List.any_eq_false]
      exact fun z hz => by rw [h z hz]; simp
    · symm
      rw [decide_eq_true (by omega), List.any_eq_true]
      exact ⟨z, List.mem_of_getElem? hz, hf⟩)
  clear H1 hx
  go_wp2
  go_ret
  exact ⟨by rw [← unhide HX]; rfl, d1⟩
set_option maxHeartbeats 800000 in
theorem idxaID_any (A : Option Addr) (n c : Nat) (zss : List (List Int)) (f : List Int → Bool) (w : World) (hS : AtS w A n zss) (hn : n ≤ 1048576)
    (HP : Hid (∀ (w1 : World), Below w.heap.size w w1 → ∀ (A1 : Option Addr) (c1 : Nat) (z : List Int), z ∈ zss → Arg w1 w1.heap.size A1 z.length c1 z → Calls Tryd.prog 51 #[.slice A1 z.length c1] w1 (GivesB w1 (f z)))) :
    Calls Tryd.prog 68 #[.slice A n c, .func (.func 51) #[] #[]] w (FirstAt w f zss) := by
  have hl := hS.1
  have HS := hide hS
  have HL := hide hl
  have hb0 := Below.refl w.heap.size w
  clear hS hl
  go_enter Tryd.func68, Tryd.ntmps68
  go_wp2
  go_loopw [5, 8] (fun _ i wr => ∃ k : Nat, k ≤ n ∧ i = .int .i64 k ∧ Below w.heap.size w wr ∧ Hid (∀ y ∈ zss.take k, f y = false)) (fun _ i _ => n - (intOf i).toNat)
  case atStart => exact ⟨0, Nat.zero_le _, rfl, hb0, fun y hy => by simp at hy⟩
  case round =>
    obtain ⟨k, hk, rfl, hb, hno⟩ := hrel
    clear hb0
    by_cases hlt : k < n
    · obtain ⟨ad, A1, c1, z, rfl, hzk, hcell, hI⟩ := (unhide HS).2 wr hb k hlt
      obtain ⟨b, hbf⟩ : ∃ b, f z = b := ⟨_, rfl⟩
      have H1 := hide (unhide HP wr hb A1 c1 z (List.mem_of_getElem? hzk) hI)
      rw [hbf] at H1
      obtain ⟨lz, hlz⟩ : ∃ l, l = z.length := ⟨_, rfl⟩
      rw [← hlz] at hcell H1
      cases b with
      | true =>
        have HE := hide (⟨hzk, hbf⟩ : _ ∧ _)
        clear hI hzk hbf hlz
        go_wp2_with fail
        refine (unhide H1).mono ?_
        rintro e w2 ⟨rfl, d2⟩
        have hb2 := below_after hb d2
        clear H1 d2 hb
        go_wp2
        go_ret
        exact ⟨(k : Int), rfl, .inr ⟨k, z, rfl, (unhide HE).1, (unhide HE).2, unhide hno⟩, hb2⟩
      | false =>
        have hno2 := hide (no_step hzk hbf (unhide hno))
        clear hI hzk hbf hno hlz
        go_wp2_with fail
        refine (unhide H1).mono ?_
        rintro e w2 ⟨rfl, d2⟩
        have hb2 := below_after hb d2
        clear H1 d2 hb
        go_wp2
        go_roundw
        case rel => exact ⟨k + 1, by omega, by go_num, hb2, hno2⟩
        case measure => simp [intOf]; omega
    · obtain rfl : n = k := by omega
      have hno2 := hide (show ∀ y ∈ zss, f y = false by
        have h := unhide hno
        rwa [List.take_of_length_le (by rw [unhide HL]; exact Nat.le_refl _)] at h)
      clear hno
      go_wp2
      go_ret
      exact ⟨-1, rfl, .inl ⟨rfl, unhide hno2⟩, hb⟩
theorem conaID_any (A : Option Addr) (n c : Nat) (zss : List (List Int)) (f : List Int → Bool) (w : World) (hS : AtS w A n zss) (hn : n ≤ 1048576)
    (HP : Hid (∀ (w1 : World), Below w.heap.size w w1 → ∀ (A1 : Option Addr) (c1 : Nat) (z : List Int), z ∈ zss → Arg w1 w1.heap.size A1 z.length c1 z → Calls Tryd.prog 51 #[.slice A1 z.length c1] w1 (GivesB w1 (f z)))) :
    Calls Tryd.prog 49 #[.slice A n c, .func (.func 51) #[] #[]] w (GivesB w (zss.any f)) := by
  have H1 := hide (idxaID_any A n c zss f w hS hn HP)
  clear hS HP
  go_enter Tryd.func49, Tryd.ntmps49
  go_wp2_with fail
  refine (unhide H1).mono ?_
  rintro e w1 ⟨x, rfl, hx, d1⟩
  have HX := hide (show decide (0 ≤ x) = zss.any f by
    rcases hx with ⟨rfl, h⟩ | ⟨k, z, rfl, hz, hf, _⟩
    · symm
      rw [show decide ((0 : Int) ≤ -1) = false from rfl, List.any_eq_false]
      exact fun z hz => by rw [h z hz]; simp
    · symm
      rw [decide_eq_true (by omega), List.any_eq_true]
      exact ⟨z, List.mem_of_getElem? hz, hf⟩)
  clear H1 hx
  go_wp2
  go_ret
  exact ⟨by rw [← unhide HX]; rfl, d1⟩
set_option maxHeartbeats 800000 in
theorem idxaSC_any (A : Option Addr) (n c : Nat) (zss : List (List Int)) (f : List Int → Bool) (w : World) (hS : AtS w A n zss) (hn : n ≤ 1048576)
    (HP : Hid (∀ (w1 : World), Below w.heap.size w w1 → ∀ (A1 : Option Addr) (c1 : Nat) (z : List Int), z ∈ zss → Arg w1 w1.heap.size A1 z.length c1 z → Calls Tryd.prog 53 #[.slice A1 z.length c1] w1 (GivesB w1 (f z)))) :
    Calls Tryd.prog 68 #[.slice A n c, .func (.func 53) #[] #[]] w (FirstAt w f zss) := by
  have hl := hS.1
  have HS := hide hS
  have HL := hide hl
  have hb0 := Below.refl w.heap.size w
  clear hS hl
  go_enter Tryd.func68, Tryd.ntmps68
  go_wp2
  go_loopw [5, 8] (fun _ i wr => ∃ k : Nat, k ≤ n ∧ i = .int .i64 k ∧ Below w.heap.size w wr ∧ Hid (∀ y ∈ zss.take k, f y = false)) (fun _ i _ => n - (intOf i).toNat)
  case atStart => exact ⟨0, Nat.zero_le _, rfl, hb0, fun y hy => by simp at hy⟩
  case round =>
    obtain ⟨k, hk, rfl, hb, hno⟩ := hrel
    clear hb0
    by_cases hlt : k < n
    · obtain ⟨ad, A1, c1, z, rfl, hzk, hcell, hI⟩ := (unhide HS).2 wr hb k hlt
      obtain ⟨b, hbf⟩ : ∃ b, f z = b := ⟨_, rfl⟩
      have H1 := hide (unhide HP wr hb A1 c1 z (List.mem_of_getElem? hzk) hI)
      rw [hbf] at H1
      obtain ⟨lz, hlz⟩ : ∃ l, l = z.length := ⟨_, rfl⟩
      rw [← hlz] at hcell H1
      cases b with
      | true =>
        have HE := hide (⟨hzk, hbf⟩ : _ ∧ _)
        clear hI hzk hbf hlz
        go_wp2_with fail
        refine (unhide H1).mono ?_
        rintro e w2 ⟨rfl, d2⟩
        have hb2 := below_after hb d2
        clear H1 d2 hb
        go_wp2
        go_ret
        exact ⟨(k : Int), rfl, .inr ⟨k, z, rfl, (unhide HE).1, (unhide HE).2, unhide hno⟩, hb2⟩
      | false =>
        have hno2 := hide (no_step hzk hbf (unhide hno))
        clear hI hzk hbf hno hlz
        go_wp2_with fail
        refine (unhide H1).mono ?_
        rintro e w2 ⟨rfl, d2⟩
        have hb2 := below_after hb d2
        clear H1 d2 hb
        go_wp2
        go_roundw
        case rel => exact ⟨k + 1, by omega, by go_num, hb2, hno2⟩
        case measure => simp [intOf]; omega
    · obtain rfl : n = k := by omega
      have hno2 := hide (show ∀ y ∈ zss, f y = false by
        have h := unhide hno
        rwa [List.take_of_length_le (by rw [unhide HL]; exact Nat.le_refl _)] at h)
      clear hno
      go_wp2
      go_ret
      exact ⟨-1, rfl, .inl ⟨rfl, unhide hno2⟩, hb⟩
theorem conaSC_any (A : Option Addr) (n c : Nat) (zss : List (List Int)) (f : List Int → Bool) (w : World) (hS : AtS w A n zss) (hn : n ≤ 1048576)
    (HP : Hid (∀ (w1 : World), Below w.heap.size w w1 → ∀ (A1 : Option Addr) (c1 : Nat) (z : List Int), z ∈ zss → Arg w1 w1.heap.size A1 z.length c1 z → Calls Tryd.prog 53 #[.slice A1 z.length c1] w1 (GivesB w1 (f z)))) :
    Calls Tryd.prog 49 #[.slice A n c, .func (.func 53) #[] #[]] w (GivesB w (zss.any f)) := by
  have H1 := hide (idxaSC_any A n c zss f w hS hn HP)
  clear hS HP
  go_enter Tryd.func49, Tryd.ntmps49
  go_wp2_with fail
  refine (unhide H1).mono ?_
  rintro e w1 ⟨x, rfl, hx, d1⟩
  have HX := hide (show decide (0 ≤ x) = zss.any f by
    rcases hx with ⟨rfl, h⟩ | ⟨k, z, rfl, hz, hf, _⟩
    · symm
      rw [show decide ((0 : Int) ≤ -1) = false from rfl, List.any_eq_false]
      exact fun z hz => by rw [h z hz]; simp
    · symm
      rw [decide_eq_true (by omega), List.any_eq_true]
      exact ⟨z, List.mem_of_getElem? hz, hf⟩)
  clear H1 hx
  go_wp2
  go_ret
  exact ⟨by rw [← unhide HX]; rfl, d1⟩
end Go.Proofs.YtoiipedomgefaaaDoor


/-
  THE LAST STEP OF A LAW: the walk's answer 'true' and 'nothing below the call's own blocks has turned' give the row's post. One lemma for all laws.
-/

namespace Go.Proofs.YtoiipedomgefaaaDoor
set_option maxRecDepth 100000
open Go.ChangeShapes Go.WideShapes Go.ChangeAt Go.RowKit

theorem trodAll_below {H : Type} {enc : TypeId × Value → H} {P : Program} (hl : laidOutB P = true) {W W' : World} (hb : Below W.heap.size W W') :
    ∀ (ts : List TypeId) (vs : List Value) (ds : List (DataW H)) (ps : List MemPlace), (∀ t ∈ ts, P.readableRec t = true ∧ t < P.types.size) → (∀ x ∈ ps, x.block < W.heap.size) →
      DataW.TrodAll enc P W 0 (fun _ => true) true ts vs ds ps → DataW.TrodAll enc P W' 0 (fun b => decide (b < W.heap.size)) true ts vs ds ps
  | [], vs, ds, ps, _, _, h => by
    obtain ⟨rfl, rfl, rfl⟩ := trodAll_nil h
    exact trodAll_mk0
  | t :: ts, vs, ds, ps, ht, hp, h => by
    obtain ⟨v, vs1, d, ds1, a, b, rfl, rfl, rfl, h1, h2⟩ := trodAll_cons h
    exact ⟨a, b, Below.trod hl (ht t (by simp)).1 (ht t (by simp)).2 h1 hb (fun x hx => hp x (by simp [hx])),
      trodAll_below hl hb ts vs1 ds1 b (fun t' h' => ht t' (by simp [h'])) (fun x hx => hp x (by simp [hx])) h2, rfl⟩

theorem law_end {H : Type} {enc : TypeId × Value → H} {P : Program} {f : Func} {s : ChangeSpec} {W W' : World} {args : Array Value} {ds gs : List (DataW H)} {before : List MemPlace} {tb : TypeId}
    (hl : laidOutB P = true) (hts : ∀ t ∈ f.params.toList, P.readableRec t = true ∧ t < P.types.size) (hb4 : P.underlying tb = some .bool) (hrt : f.resultTypes = #[tb]) (hv : s.vars = [])
    (hW : DataW.Whole enc P f.params.toList s.vars false W args.toList ds gs before)
    (hfn : s.fn H (ds ++ gs) = { results := [.lit (.bool true)], args := ds }) (hbel : Below W.heap.size W W') :
    s.post enc P f false true false false W args (.bool true) W' := by
  have hlt : ∀ x ∈ before, x.block < W.heap.size := fun x hx => by simpa using hW.lt x hx
  have hW' := hW
  obtain ⟨p, q, hA, hV, rfl, _, _⟩ := hW
  rw [hv] at hV
  obtain ⟨rfl, rfl⟩ := trodVars_none hV
  have hargs := trodAll_below hl hbel _ _ _ _ hts (fun x hx => hlt x (by simp [hx])) hA
  refine ⟨ds, [], _, [] ++ [], p, [], hW', ?_, ?_, ?_, hbel.frame _, fun h => by cases h⟩
  · rw [hfn, hrt]; exact trodAll_mk1 (shut_bool hb4 _)
  · rw [hfn]; exact hargs
  · rw [hfn, hv]; rfl

theorem lt_of_row {W : World} {a : Addr} {m j : Nat} (hlt : ∀ x ∈ MemPlace.row a m, x.block < W.heap.size) (hj : j < m) : a.block < W.heap.size :=
  hlt (.cell a.block (a.off + j)) (MemPlace.mem_row.2 ⟨j, hj, rfl⟩)

/-- An argument []string, as 'Reads'. -/
theorem open_strs_reads {H : Type} {enc : TypeId × Value → H} {P : Program} {w : World} {r : Reach} {b0 t e : TypeId} {v : Value} {d : DataW H} {ps : List MemPlace} (ht : P.underlying t = some (.slice e)) (he : P.underlying e = some .string) (hc : P.cellsOf e = 1)
    (hval : Value.okWide P w r b0 t v) (h : DataW.Trod enc P w 0 (fun _ => true) true t v d ps) (hlt : ∀ x ∈ ps, x.block < w.heap.size) :
    ∃ (A : Option Addr) (n c : Nat) (ss : List ByteArray), v = .slice A n c ∧ Reads w w.heap.size A n (ss.map Value.string) ∧ n ≤ maxLen ∧ ∀ s ∈ ss, s.size ≤ maxLen := by
  obtain ⟨a0, len, cap, rfl⟩ := okWide_slice ht hval
  obtain ⟨fuel, hf⟩ := h
  rcases open_strings ht he hc hf with ⟨hcs, hx⟩ | ⟨a, len', cap', ss, hcs, _, hl, hm, hz, hx, hcell, hws⟩
  · simp [Value.cells] at hcs
    obtain ⟨rfl, rfl, rfl⟩ := hcs
    exact ⟨none, 0, 0, [], rfl, Reads.none_, Nat.zero_le _, by simp⟩
  · simp [Value.cells] at hcs
    obtain ⟨rfl, rfl, rfl⟩ := hcs
    simp only [Prod.mk.injEq] at hx
    obtain ⟨rfl, rfl⟩ := hx
    simp only [if_true] at hz
    refine ⟨some a, len, cap, ss.take len, rfl, ⟨by simp; omega, fun hn => ⟨a, rfl, lt_of_row (j := 0) hlt (by omega), fun j u hu => ?_⟩⟩, by omega, fun s hs => hws s (List.mem_of_mem_take hs)⟩
    rw [List.getElem?_map, List.getElem?_take] at hu
    by_cases hj : j < len
    · rw [if_pos hj] at hu
      rw [hcell j (by omega), ← hu, List.getD_eq_getElem?_getD]
      have : ss[j]? = some ss[j] := List.getElem?_eq_getElem (by omega)
      rw [this]; rfl
    · rw [if_neg hj] at hu; cases hu

/-- An argument of integers, as 'Reads'. -/
theorem open_ints_reads {H : Type} {enc : TypeId × Value → H} {P : Program} {w : World} {r : Reach} {b0 t e : TypeId} {ik : IntKind} {v : Value} {d : DataW H} {ps : List MemPlace} (ht : P.underlying t = some (.slice e)) (he : P.underlying e = some (.int ik)) (hc : P.cellsOf e = 1)
    (hval : Value.okWide P w r b0 t v) (h : DataW.Trod enc P w 0 (fun _ => true) true t v d ps) (hlt : ∀ x ∈ ps, x.block < w.heap.size) :
    ∃ (A : Option Addr) (n c : Nat) (zs : List Int), v = .slice A n c ∧ Reads w w.heap.size A n (zs.map (Value.int ik)) ∧ n ≤ maxLen ∧ ∀ z ∈ zs, (Lit.int ik z).wf = true := by
  obtain ⟨a0, len, cap, rfl⟩ := okWide_slice ht hval
  obtain ⟨fuel, hf⟩ := h
  rcases open_ints ht he hc hf with ⟨hcs, hx⟩ | ⟨a, len', cap', zs, hcs, _, hl, hm, hz, hx, hcell, hws⟩
  · simp [Value.cells] at hcs
    obtain ⟨rfl, rfl, rfl⟩ := hcs
    exact ⟨none, 0, 0, [], rfl, Reads.none_, Nat.zero_le _, by simp⟩
  · simp [Value.cells] at hcs
    obtain ⟨rfl, rfl, rfl⟩ := hcs
    simp only [Prod.mk.injEq] at hx
    obtain ⟨rfl, rfl⟩ := hx
    simp only [if_true] at hz
    refine ⟨some a, len, cap, zs.take len, rfl, ⟨by simp; omega, fun hn => ⟨a, rfl, lt_of_row (j := 0) hlt (by omega), fun j u hu => ?_⟩⟩, by omega, fun s hs => hws s (List.mem_of_mem_take hs)⟩
    rw [List.getElem?_map, List.getElem?_take] at hu
    by_cases hj : j < len
    · rw [if_pos hj] at hu
      rw [hcell j (by omega), ← hu, List.getD_eq_getElem?_getD]
      have : zs[j]? = some zs[j] := List.getElem?_eq_getElem (by omega)
      rw [this]; rfl
    · rw [if_neg hj] at hu; cases hu
theorem bytes_of_wf : ∀ (zs : List Int), (∀ z ∈ zs, (Lit.int .u8 z).wf = true) → ∃ bs : List UInt8, zs.map (Value.int .u8) = u8s bs
  | [], _ => ⟨[], rfl⟩
  | z :: r, h => by
    obtain ⟨bs, hb⟩ := bytes_of_wf r (fun y hy => h y (by simp [hy]))
    have hz : 0 ≤ z ∧ z ≤ 255 := by simpa [Lit.wf, IntKind.min, IntKind.max, IntKind.signed, IntKind.bits] using h z (by simp)
    refine ⟨UInt8.ofNat z.toNat :: bs, ?_⟩
    have e : ((UInt8.ofNat z.toNat).toNat : Int) = z := by rw [UInt8.toNat_ofNat']; omega
    simp only [u8s, List.map_cons, e]
    rw [hb]; rfl
theorem open_bytes_reads {H : Type} {enc : TypeId × Value → H} {P : Program} {w : World} {r : Reach} {b0 t e : TypeId} {v : Value} {d : DataW H} {ps : List MemPlace} (ht : P.underlying t = some (.slice e)) (he : P.underlying e = some (.int .u8)) (hc : P.cellsOf e = 1)
    (hval : Value.okWide P w r b0 t v) (h : DataW.Trod enc P w 0 (fun _ => true) true t v d ps) (hlt : ∀ x ∈ ps, x.block < w.heap.size) :
    ∃ (A : Option Addr) (n c : Nat) (bs : List UInt8), v = .slice A n c ∧ Reads w w.heap.size A n (u8s bs) ∧ n ≤ maxLen := by
  obtain ⟨A, n, c, zs, rfl, hr, hn, hw⟩ := open_ints_reads ht he hc hval h hlt
  obtain ⟨bs, hb⟩ := bytes_of_wf zs hw
  exact ⟨A, n, c, bs, rfl, by rw [← hb]; exact hr, hn⟩
theorem cellsByte : Tryd.prog.cellsOf 5 = 1 := by kernel_rfl

theorem laidOut : laidOutB Tryd.prog = true := by kernel_rfl
theorem own : ownKnob Tryd.prog.godebug = none := by kernel_rfl
end Go.Proofs.YtoiipedomgefaaaDoor


/-
  LISTS OF ROWS AS ARGUMENTS: how they read; szIntS, szIntSS, toIntSS by their contracts.
-/

namespace Go.Proofs.YtoiipedomgefaaaDoor
set_option maxRecDepth 100000
open Go.RowKit Go.ChangeShapes Go.WideShapes Go.ChangeAt

/-- The slice value '.slice A n c' holds rows that read as the lists zss, all below block B. -/
structure ReadsS (w : World) (B : Nat) (A : Option Addr) (n : Nat) (zss : List (List Int)) : Prop where
  len : zss.length = n
  rows : 0 < n → ∃ ad, A = some ad ∧ ad.block < B ∧ ∀ (j : Nat) z, zss[j]? = some z → ∃ A' c', w.cell? (ad.add j) = some (.slice A' z.length c') ∧ Reads w B A' z.length (i64s z)
theorem ReadsS.below {w w' : World} {B n : Nat} {A : Option Addr} {zss : List (List Int)} (h : ReadsS w B A n zss) (hb : Below B w w') : ReadsS w' B A n zss :=
  ⟨h.len, fun hn => by
    obtain ⟨ad, e, h1, h2⟩ := h.rows hn
    refine ⟨ad, e, h1, fun j z hz => ?_⟩
    obtain ⟨A', c', h3, h4⟩ := h2 j z hz
    exact ⟨A', c', (hb.cell (by rw [block_of_add]; exact h1)).trans h3, h4.below hb⟩⟩
theorem ReadsS.at_ {w : World} {B n k : Nat} {A : Option Addr} {zss : List (List Int)} (h : ReadsS w B A n zss) (hk : k < n) : ∃ ad A' c' z, A = some ad ∧ zss[k]? = some z ∧ w.cell? (ad.add k) = some (.slice A' z.length c') ∧ Reads w B A' z.length (i64s z) := by
  obtain ⟨ad, e, h1, h2⟩ := h.rows (by omega)
  have hz : zss[k]? = some (zss[k]'(by rw [h.len]; exact hk)) := List.getElem?_eq_getElem _
  obtain ⟨A', c', h3, h4⟩ := h2 k _ hz
  exact ⟨ad, A', c', _, e, hz, h3, h4⟩
theorem list_of {β : Type} {P : Nat → β → Prop} : ∀ n : Nat, (∀ i, i < n → ∃ z, P i z) → ∃ l : List β, l.length = n ∧ ∀ (i : Nat) z, l[i]? = some z → P i z
  | 0, _ => ⟨[], rfl, fun i z h => by simp at h⟩
  | n + 1, h => by
    obtain ⟨l, h1, h2⟩ := list_of n fun i hi => h i (by omega)
    obtain ⟨z, hz⟩ := h n (by omega)
    refine ⟨l ++ [z], by simp [h1], fun i y hy => ?_⟩
    by_cases hi : i < l.length
    · rw [List.getElem?_append_left hi] at hy
      exact h2 i y hy
    · rw [List.getElem?_append_right (by omega)] at hy
      have h0 : i - l.length = 0 := by
        have := (List.getElem?_eq_some_iff.1 hy).1
        simp at this
        omega
      rw [h0] at hy
      simp at hy
      subst hy
      rw [show i = n by omega]
      exact hz
/-- An argument [][]int, as 'ReadsS'. -/
theorem open_intss_reads {H : Type} {enc : TypeId × Value → H} {P : Program} {w : World} {r : Reach} {b0 t e ei : TypeId} {v : Value} {d : DataW H} {ps : List MemPlace} (ht : P.underlying t = some (.slice e)) (he : P.underlying e = some (.slice ei)) (hei : P.underlying ei = some (.int .i64)) (hc : P.cellsOf e = 1) (hci : P.cellsOf ei = 1)
    (hval : Value.okWide P w r b0 t v) (h : DataW.Trod enc P w 0 (fun _ => true) true t v d ps) (hlt : ∀ x ∈ ps, x.block < w.heap.size) :
    ∃ (A : Option Addr) (n c : Nat) (zss : List (List Int)), v = .slice A n c ∧ ReadsS w w.heap.size A n zss ∧ n ≤ maxLen ∧ ∀ z ∈ zss, z.length ≤ maxLen ∧ Small z := by
  obtain ⟨a0, len, cap, rfl⟩ := okWide_slice ht hval
  obtain ⟨fuel, hf⟩ := h
  rcases DataW.trod_slice ht hf with ⟨hcs, hx⟩ | ⟨a, len', cap', elems, rest, m, _, hcs, hx, _, hl, hm, hlen, hel, _, _⟩
  · simp [Value.cells] at hcs
    obtain ⟨rfl, rfl, rfl⟩ := hcs
    exact ⟨none, 0, 0, [], rfl, ⟨rfl, fun h => absurd h (by omega)⟩, Nat.zero_le _, by simp⟩
  · simp [Value.cells] at hcs
    obtain ⟨rfl, rfl, rfl⟩ := hcs
    simp only [Prod.mk.injEq] at hx
    obtain ⟨_, rfl⟩ := hx
    have each : ∀ i, i < len → ∃ z : List Int, (∃ A' c', w.cell? (a.add i) = some (.slice A' z.length c') ∧ Reads w w.heap.size A' z.length (i64s z)) ∧ z.length ≤ maxLen ∧ Small z := by
      intro i hi
      have h1 := hel i hi
      rw [hc, Nat.mul_one, List.getElem?_eq_getElem (by omega), Option.bind_eq_some_iff] at h1
      obtain ⟨cs', hcs', htr⟩ := h1
      have hq : ∀ x ∈ (elems[i]'(by omega)).2, x.block < w.heap.size := fun x hx => hlt x (by
        refine List.mem_append.2 (.inr (List.mem_flatMap.2 ⟨elems[i]'(by omega), List.mem_append.2 (.inl (List.getElem_mem _)), hx⟩))
      )
      rcases open_ints he hei hci htr with ⟨rfl, _⟩ | ⟨a', len'', cap'', zs, rfl, _, hl', hm', hz, hx', hcell, hws⟩
      · exact ⟨[], ⟨none, 0, cell_of_cells?_one hcs', Reads.none_⟩, Nat.zero_le _, fun z hz => by simp at hz⟩
      · simp only [if_true] at hz
        have e1 : (zs.take len'').length = len'' := by rw [List.length_take]; omega
        refine ⟨zs.take len'', ⟨some a', cap'', by rw [e1]; exact cell_of_cells?_one hcs', ?_⟩, by omega, small_of_wf fun z hz => hws z (List.mem_of_mem_take hz)⟩
        refine ⟨by rw [i64_length], fun hn => ⟨a', rfl, ?_, fun j u hu => ?_⟩⟩
        · rw [hx'] at hq
          exact lt_of_row (j := 0) hq (by omega)
        · unfold i64s at hu
          rw [List.getElem?_map, List.getElem?_take] at hu
          by_cases hj : j < len''
          · rw [if_pos hj] at hu
            rw [hcell j (by omega), ← hu, List.getD_eq_getElem?_getD]
            have : zs[j]? = some zs[j] := List.getElem?_eq_getElem (by omega)
            rw [this]; rfl
          · rw [if_neg hj] at hu; cases hu
    obtain ⟨zss, hz1, hz2⟩ := list_of len each
    refine ⟨some a, len, cap, zss, rfl, ⟨hz1, fun hn => ⟨a, rfl, ?_, fun j z hz => (hz2 j z hz).1⟩⟩, by omega, fun z hz => ?_⟩
    · rw [hc] at hlt
      refine lt_of_row (m := (elems.length + rest.length) * 1) (j := 0) (fun x hx => hlt x (List.mem_append.2 (.inl hx))) (by omega)
    · obtain ⟨i, hi, rfl⟩ := List.getElem_of_mem hz
      exact (hz2 i _ (List.getElem?_eq_getElem hi)).2
theorem cellsRow : Tryd.prog.cellsOf 31 = 1 := by kernel_rfl

theorem szi_any (A : Option Addr) (n c : Nat) (L : Int) (hL : 0 ≤ L ∧ L ≤ 1048576) (hn : n ≤ maxLen) (w : World) :
    Calls Tryd.prog 29 #[.slice A n c, .int .i64 L] w fun e w' => e = .returned (.int .i64 (if L < n then -1 else L - n)) ∧ w = w' := by
  unfold maxLen at hn
  obtain ⟨hL1, hL2⟩ := hL
  by_cases hlt : L < n
  · rw [if_pos hlt]
    have h1 : L - (n : Int) < 0 := by omega
    go_enter Tryd.func29, Tryd.ntmps29
    go_wp2
    go_ret
    exact ⟨rfl, rfl⟩
  · rw [if_neg hlt]
    have h1 : ¬ L - (n : Int) < 0 := by omega
    go_enter Tryd.func29, Tryd.ntmps29
    go_wp2
    go_ret
    exact ⟨rfl, rfl⟩
/-- What szIntSS gives: what is left, or -1. -/
def szR (L : Int) (n : Nat) (zss : List (List Int)) : Int := if L < n + tot zss then -1 else L - n - tot zss
set_option maxHeartbeats 400000 in
theorem sziss_any (A : Option Addr) (n c B : Nat) (zss : List (List Int)) (L : Int) (hL : 0 ≤ L ∧ L ≤ 1048576) (w : World) (hr : ReadsS w B A n zss) (hn : n ≤ maxLen) (hz : ∀ z ∈ zss, z.length ≤ maxLen) :
    Calls Tryd.prog 9 #[.slice A n c, .int .i64 L] w fun e w' => e = .returned (.int .i64 (szR L n zss)) ∧ w = w' := by
  obtain ⟨r, hrr⟩ : ∃ r, szR L n zss = r := ⟨_, rfl⟩
  rw [hrr]
  have HR := hide hrr
  have HL := hide hr.len
  have HZ := hide hz
  unfold maxLen at hn
  obtain ⟨hL1, hL2⟩ := hL
  clear hrr hz
  by_cases hlt : L < n
  · obtain rfl : r = -1 := by
      rw [← unhide HR]
      unfold szR
      rw [if_pos (by omega)]
    have h1 : L - (n : Int) < 0 := by omega
    go_enter Tryd.func9, Tryd.ntmps9
    go_wp2
    go_ret
    exact ⟨rfl, rfl⟩
  · have h1 : ¬ L - (n : Int) < 0 := by omega
    go_enter Tryd.func9, Tryd.ntmps9
    go_wp2
    go_loop [1, 5] (fun lv i => ∃ (k : Nat) (l : Int), k ≤ n ∧ i = .int .i64 k ∧ lv = .int .i64 l ∧ 0 ≤ l ∧ l ≤ 1048576 ∧ Hid (l = L - n - tot (zss.take k))) (fun _ i => n - (intOf i).toNat)
    case atStart => exact ⟨0, L - n, Nat.zero_le _, rfl, by go_num, by omega, by omega, by exact (by simp [tot] : L - (n : Int) = L - n - tot (zss.take 0))⟩
    case round =>
      obtain ⟨k, l, hk, rfl, rfl, hl0, hl1, hle⟩ := hrel
      by_cases hlt2 : k < n
      · obtain ⟨ad, A1, c1, z, rfl, hzk, hcell, _⟩ := hr.at_ hlt2
        have hzl := unhide HZ z (List.mem_of_getElem? hzk)
        have hst := tot_step hzk
        have htk := tot_take zss (k + 1)
        have H1 := hide (szi_any A1 z.length c1 l ⟨hl0, hl1⟩ hzl w)
        by_cases hlt3 : l < z.length
        · rw [if_pos hlt3] at H1
          obtain rfl : r = -1 := by
            rw [← unhide HR]
            unfold szR
            have := unhide hle
            rw [if_pos (by omega)]
          clear hzk hzl hst htk hle
          go_wp2_with fail
          refine (unhide H1).mono ?_
          rintro e w' ⟨rfl, rfl⟩
          clear H1
          go_wp2
          go_ret
          exact ⟨rfl, rfl⟩
        · rw [if_neg hlt3] at H1
          have hnext : Hid (l - (z.length : Int) = L - n - tot (zss.take (k + 1))) := hide (by have := unhide hle; omega)
          have h0 : ¬ l - (z.length : Int) < 0 := by omega
          clear hzk hzl hst htk hle
          go_wp2_with fail
          refine (unhide H1).mono ?_
          rintro e w' ⟨rfl, rfl⟩
          clear H1
          go_wp2
          go_round
          case rel => exact ⟨k + 1, _, by omega, by go_num, rfl, by omega, by omega, hnext⟩
          case measure => simp [intOf]; omega
      · obtain rfl : n = k := by omega
        obtain rfl : r = l := by
          rw [← unhide HR]
          have := unhide hle
          rw [List.take_of_length_le (by rw [unhide HL]; exact Nat.le_refl _)] at this
          unfold szR
          rw [if_neg (by omega), this]
        clear hle
        go_wp2
        go_ret
        exact ⟨rfl, rfl⟩
set_option maxHeartbeats 400000 in
theorem toiss_any (A : Option Addr) (n c B : Nat) (zss : List (List Int)) (w : World) (hr : ReadsS w B A n zss) (hB : B ≤ w.heap.size) (hn : n ≤ 1048576) (hz : ∀ z ∈ zss, z.length ≤ 1048576) :
    Calls Tryd.prog 11 #[.slice A n c] w fun e w' => ∃ g, e = .returned (.slice (some ⟨g, 0, none⟩) n n) ∧ IntsS w' w.heap.size (.slice (some ⟨g, 0, none⟩) n n) zss ∧ Below w.heap.size w w' := by
  obtain ⟨i0, hi, hz0, hz1, hz2⟩ := info_parts rowsInfo1
  have HL := hide hr.len
  have HZ := hide hz
  clear hz
  go_enter Tryd.func11, Tryd.ntmps11
  go_wp2_with (first
    | (at_make; refine wpList_make_full _ rfl (.tmp 6) (.tmp 6) 22 rfl w.heap.size 31 i0 (.slice none 0 0) 1 Tryd.underlying22 hi hz0 hz1 _ _ _ _ n rfl rfl (by first | rfl | omega) (by first | rfl | omega) (by rw [hz2]; omega) (by unfold maxLen; omega) (Nat.le_refl _) ?_; intro w1 hown hg))
  have hF := Filled.start (zss := zss) (unhide HL) (Below.refl w.heap.size w) hown hg
  clear hown hg
  obtain ⟨g, hgw⟩ : ∃ g, g = w.heap.size := ⟨_, rfl⟩
  rw [← hgw] at hF ⊢
  clear hgw
  go_loopw [4] (fun i wr => ∃ k : Nat, k ≤ n ∧ i = .int .i64 k ∧ Filled w wr g n zss k) (fun i _ => n - (intOf i).toNat)
  case atStart => exact ⟨0, Nat.zero_le _, rfl, hF⟩
  case round =>
    obtain ⟨k, hk, rfl, hF⟩ := hrel
    by_cases hlt : k < n
    · obtain ⟨ad, A1, c1, z, rfl, hzk, hcell, hR⟩ := (hr.below (hF.below.mono hB)).at_ hlt
      have hzl := unhide HZ z (List.mem_of_getElem? hzk)
      have H1 := hide (toi_any A1 z.length c1 B z wr hR (Nat.le_trans hB hF.below.size) (by omega))
      have HF := hide hF
      have HZK := hide hzk
      clear hzk hR hzl hF
      go_wp2_with fail
      refine (unhide H1).mono ?_
      rintro e w3 ⟨rfl, o3, d3⟩
      obtain ⟨⟨old, hold⟩, hfz⟩ := (unhide HF).old d3 hlt
      have hF2 := (unhide HF).put (unhide HZK) d3 o3
      clear H1 d3 o3 HF HZK
      go_wp2
      go_roundw
      case rel => exact ⟨k + 1, by omega, by go_num, hF2⟩
      case measure => simp [intOf]; omega
    · obtain rfl : n = k := by omega
      obtain ⟨hbw, vs, hown, hin⟩ := hF
      have hfin : IntsS wr w.heap.size (.slice (some ⟨g, 0, none⟩) n n) zss := by
        have h1 := unhide HL
        subst h1
        rw [fillS_all] at hin
        exact ⟨vs, hown, hin⟩
      clear hown hin
      go_wp2
      go_ret
      exact ⟨g, rfl, hfin, hbw⟩
end Go.Proofs.YtoiipedomgefaaaDoor


/-
  impl.sumOfAll: a list of rows that reads, by its contract. (Written by wip/tools/mkall.py.)
-/

namespace Go.Proofs.YtoiipedomgefaaaDoor
set_option maxRecDepth 100000
open Go.RowKit

theorem flat_part {s : Bool} {L : Nat} {zss : List (List Int)} {k : Nat} {z : List Int} (h : zss[k]? = some z) :
    flatAll s L (zss.take (k + 1)) 0 = flatAll s L (zss.take k) 0 ++ z.map (fun v => v + ((if s then L - tot (zss.take k) - z.length else tot (zss.take k) : Nat) : Int)) := by
  rw [take_snoc_r h, flatAll_snoc]
  simp only [Nat.zero_add]
theorem ReadsS.at2 {w wr : World} {B n k : Nat} {A : Option Addr} {zss : List (List Int)} (h : ReadsS w B A n zss) (hb : Below B w wr) (hk : k < n) : ∃ ad A' c' z, A = some ad ∧ zss[k]? = some z ∧ wr.cell? (ad.add k) = some (.slice A' z.length c') ∧ Reads w B A' z.length (i64s z) := by
  obtain ⟨ad, e, h1, h2⟩ := h.rows (by omega)
  have hz : zss[k]? = some (zss[k]'(by rw [h.len]; exact hk)) := List.getElem?_eq_getElem _
  obtain ⟨A', c', h3, h4⟩ := h2 k _ hz
  exact ⟨ad, A', c', _, e, hz, (hb.cell (by rw [block_of_add]; exact h1)).trans h3, h4⟩
theorem flatAll_length (s : Bool) (L : Nat) : ∀ (l : List (List Int)) (n : Nat), (flatAll s L l n).length = tot l
  | [], _ => by simp [flatAll, tot]
  | z :: l, n => by
    rw [flatAll, List.length_append, flatAll_length s L l]
    simp [tot]
theorem map_take_step {z : List Int} {j : Nat} {x r : Int} (h : z[j]? = some x) : (z.take (j + 1)).map (fun v => v + r) = (z.take j).map (fun v => v + r) ++ [x + r] := by rw [take_snoc_i h, List.map_append]; rfl
theorem i64s_app (a b : List Int) : i64s (a ++ b) = i64s a ++ i64s b := by unfold i64s; rw [List.map_append]

end Go.Proofs.YtoiipedomgefaaaDoor


/-
  spec.l4Fit, spec.l4Join, spec.SumOf, spec.SkewSumOf, by their contracts.
-/

namespace Go.Proofs.YtoiipedomgefaaaDoor
set_option maxRecDepth 100000
open Go.RowKit

def bitI (b : Bool) : Int := if b then 1 else 0
theorem bit_any (b : Bool) (w : World) : Calls Tryd.prog 100 #[.bool b] w fun e w' => e = .returned (.int .i64 (bitI b)) ∧ w' = w := by
  cases b with
  | true => exact bit_true w
  | false => exact bit_false w
theorem joinL_at1 {s : Bool} {p q : List Int} {k : Nat} {z : Int} (h : p[k]? = some z) : (joinL s p q)[k]? = some (z + bitI s * (q.length : Int)) := by
  have hk : k < p.length := (List.getElem?_eq_some_iff.1 h).1
  cases s with
  | true =>
    simp only [joinL, if_true, bitI]
    rw [List.getElem?_append_left (by simpa using hk), List.getElem?_map, h, Int.one_mul]; rfl
  | false =>
    simp only [joinL, bitI, Bool.false_eq_true, if_false]
    rw [List.getElem?_append_left hk, h, Int.zero_mul, Int.add_zero]
theorem joinL_at2 {s : Bool} {p q : List Int} {k : Nat} {z : Int} (h : q[k]? = some z) : (joinL s p q)[p.length + k]? = some (z + bitI (!s) * (p.length : Int)) := by
  cases s with
  | true =>
    simp only [joinL, if_true, bitI, Bool.not_true, Bool.false_eq_true, if_false]
    rw [List.getElem?_append_right (by simp), List.length_map, Nat.add_sub_cancel_left, h, Int.zero_mul, Int.add_zero]
  | false =>
    simp only [joinL, bitI, Bool.not_false, if_true, Bool.false_eq_true, if_false]
    rw [List.getElem?_append_right (by omega), Nat.add_sub_cancel_left, List.getElem?_map, h, Int.one_mul]; rfl
theorem bit_le (s : Bool) (n : Nat) : 0 ≤ bitI s * (n : Int) ∧ bitI s * (n : Int) ≤ n := by
  cases s
  · simp [bitI]
  · simp [bitI]

theorem keep_low {B : Nat} {wr w : World} {p : Addr} {v : Value} (h : wr.cell? p = some v) (hp : p.block < B) (hb : Below B wr w) : w.cell? p = some v ∧ Below B wr w := ⟨(hb.cell hp).trans h, hb⟩
end Go.Proofs.YtoiipedomgefaaaDoor


/-
  impl.SumOf, impl.SkewSumOf, impl.JoinParts; spec.JoinParts, by their contracts. (Written by wip/tools/mkjoins.py.)
-/

namespace Go.Proofs.YtoiipedomgefaaaDoor
set_option maxRecDepth 100000
open Go.RowKit

theorem IntsS.readsS {w : World} {B n c : Nat} {A : Option Addr} {zss : List (List Int)} (h : IntsS w B (.slice A n c) zss) : ReadsS w w.heap.size A n zss := by
  refine ⟨h.len, fun hn => ?_⟩
  obtain ⟨ad, A', c', z, e, _⟩ := h.at_ hn
  subst e
  refine ⟨ad, rfl, ?_, fun j z hz => ?_⟩
  · have hl := h.len
    subst hl
    obtain ⟨vs, hown, hin⟩ := h
    obtain ⟨ad', he, hb, _⟩ := (Reads.of_own_at hown).2 hn
    injection he with he
    subst he
    exact hb
  · have hj : j < n := by have := (List.getElem?_eq_some_iff.1 hz).1; have := h.len; omega
    obtain ⟨ad2, A2, c2, z2, e2, hz2, hc, hI⟩ := h.at_ hj
    injection e2 with e2
    subst e2
    rw [hz] at hz2
    injection hz2 with hz2
    subst hz2
    exact ⟨A2, c2, hc, hI.reads⟩
theorem allFit_two (p q : List Int) : allFit [p, q] = fit p q := by simp [allFit, allP, fit, tot]
theorem joins_two (s : Bool) (p q : List Int) : joinsR s [p, q] = joinR s p q := by
  have e : joinAll s [p, q] = joinL s p q := by
    have h0 : joinL s [] p = p := by cases s <;> simp [joinL]
    simp [joinAll, h0]
  unfold joinsR joinR
  rw [allFit_two, e]

end Go.Proofs.YtoiipedomgefaaaDoor


/-
  impl.OrderPerms where its list reads place by place, by its contract.
-/

namespace Go.Proofs.YtoiipedomgefaaaDoor
set_option maxRecDepth 100000
open Go.RowKit

/-- What is in order and has each once is known by what it has. -/
theorem keptA_ord {zss : List (List Int)} {xs ys : List Pr} (hall : allP zss = true) (hx : xs.map (·.2) = zss) (hp : ys.Perm xs) (hs : ∀ (i j : Nat) (x y : Pr), i < j → ys[i]? = some x → ys[j]? = some y → befL y.2 x.2 = false) :
    (keepN (·.2) ys ys.length).map (·.2) = ordR zss := by
  obtain ⟨h1, h2⟩ := keepN_sorted (f := fun q : Pr => q.2) hs ys.length (Nat.le_refl _)
  rw [ordR_yes hall]
  refine asc_unique h1 (ordL_asc _ _) fun z => ?_
  rw [h2 z, ordL_mem, List.take_length, List.take_length, ← hx]
  exact (hp.map _).mem_iff

set_option maxHeartbeats 1600000 in
theorem iorda_any (A : Option Addr) (n c : Nat) (zss : List (List Int)) (w : World) (hS : AtS w A n zss) (hn : n ≤ 1048576) :
    Calls Tryd.prog 46 #[.slice A n c] w (GivesSS w (ordR zss)) := by
  obtain ⟨i0, hi, hz0, hz1, hz2⟩ := info_parts rowsInfo1
  have hl := hS.1
  have HL := hide hl
  clear hl
  go_enter Tryd.func46, Tryd.ntmps46
  go_wp2_with (first
    | (at_make; refine wpList_make_full _ rfl (.tmp 7) (.tmp 7) 22 rfl w.heap.size 31 i0 (.slice none 0 0) 1 Tryd.underlying22 hi hz0 hz1 _ _ _ _ n rfl rfl (by first | rfl | omega) (by first | rfl | omega) (by rw [hz2]; omega) (by unfold maxLen; omega) (Nat.le_refl _) ?_; intro w1 hown hg))
  have hF := Filled.start (zss := zss) (unhide HL) (Below.refl w.heap.size w) hown hg
  clear hown hg
  obtain ⟨g, hgw⟩ : ∃ g, g = w.heap.size := ⟨_, rfl⟩
  rw [← hgw] at hF ⊢
  clear hgw
  go_loopw [4, 5, 11] (fun _ _ i wr => ∃ k : Nat, k ≤ n ∧ i = .int .i64 k ∧ Filled w wr g n zss k ∧ Hid (∀ z ∈ zss.take k, isP z = true)) (fun _ _ i _ => n - (intOf i).toNat)
  case atStart => exact ⟨0, Nat.zero_le _, rfl, hF, fun z hz => by simp at hz⟩
  case round =>
    obtain ⟨k, hk, rfl, hF, hP⟩ := hrel
    by_cases hlt : k < n
    · obtain ⟨ad, A1, c1, z, rfl, hz, hcell, hA⟩ := hS.2 wr hF.below k hlt
      obtain ⟨b, hb⟩ : ∃ b, isP z = b := ⟨_, rfl⟩
      have H1 := hide (iisperm_any A1 z.length c1 wr.heap.size z b hb wr hA.reads hA.under hA.le hA.small)
      cases b with
      | false =>
        have hr := hide (ordR_no (allP_no (List.mem_of_getElem? hz) hb))
        have hb0 := hF.below
        clear hz hb hA hF hP
        go_wp2_with fail
        refine (unhide H1).mono ?_
        rintro e w2 ⟨rfl, hb⟩
        have hb2 := below_after hb0 hb
        clear H1 hb hb0
        go_wp2
        go_ret
        rw [unhide hr]
        exact GivesSS.mk (IntsS.nil _ _) hb2
      | true =>
        have H2 := hide (fun w' (hb' : Below wr.heap.size wr w') => clone_any A1 z.length c1 wr.heap.size z w' (hA.below hb'))
        have HF := hide hF
        have HZ := hide hz
        have hnext : Hid (∀ z ∈ zss.take (k + 1), isP z = true) := hide (fun y hy => by
          rw [List.take_add_one, hz] at hy
          rcases List.mem_append.1 hy with h | h
          · exact unhide hP y h
          · simp at h
            subst h
            exact hb)
        clear hz hb hA hF hP
        go_wp2_with fail
        refine (unhide H1).mono ?_
        rintro e w2 ⟨rfl, hb⟩
        have H3 := hide (unhide H2 w2 hb)
        clear H1 H2
        go_wp2_with fail
        refine (unhide H3).mono ?_
        rintro e w3 ⟨A3, c3, rfl, o3, d3⟩
        have hb3 := below_after hb d3
        obtain ⟨⟨old, hold⟩, hfz⟩ := (unhide HF).old hb3 hlt
        have hF2 := (unhide HF).put (unhide HZ) hb3 (o3.low hb.size)
        clear H3 hb d3 hb3 o3 HF HZ
        go_wp2
        go_roundw
        case rel => exact ⟨k + 1, by omega, by go_num, hF2, hnext⟩
        case measure => simp [intOf]; omega
    · obtain rfl : n = k := by omega
      have hall : allP zss = true := allP_yes fun z hz => unhide hP z (by rw [List.take_of_length_le (by rw [unhide HL]; exact Nat.le_refl _)]; exact hz)
      obtain ⟨hbw, vs, hown, hin⟩ := hF
      rw [← unhide HL, fillS_all] at hin
      obtain ⟨xs, hx1, hx2, hx⟩ := hin.prs
      rw [← hx1] at hown
      have hxP : ∀ q ∈ xs, isP q.2 = true := fun q hq => allP_at hall (by rw [← hx2]; exact List.mem_map_of_mem hq)
      have H1 := hide (sort_any wr w.heap.size g n n xs hown hx hxP hn)
      have HALL := hide hall
      have HX2 := hide hx2
      have HX := hide hx
      have HXP := hide hxP
      have HOWN := hide hown
      clear hP hall hin hx hxP hx1 hx2 hown
      go_wp2_with fail
      refine (unhide H1).mono ?_
      rintro e w2 ⟨rfl, ys, hperm, hsort, hown2, hg2⟩
      have hk2 := KeepI.of_grown (v := .slice (some ⟨g, 0, none⟩) n n) (unhide HOWN) hg2
      have hy : RowPrs w2 w.heap.size ys := ((unhide HX).perm hperm).keepI hk2
      have hyP : ∀ q ∈ ys, isP q.2 = true := fun q hq => unhide HXP q (hperm.subset hq)
      have hbg := ((unhide HOWN).lt g rfl).1
      have hb2 := hbw.grown hg2 hbw.size (fun q hq => by injection hq with hq; omega)
      have H2 := hide (compact_any w2 w.heap.size g n n ys hown2 hy hyP hn (Nat.le_refl _))
      have HORD := hide (keptA_ord (unhide HALL) (unhide HX2) hperm hsort)
      have HY := hide hy
      have HOWN2 := hide hown2
      clear H1 hperm hsort hown2 hg2 hk2 hy hyP hbw
      go_wp2_with fail
      refine (unhide H2).mono ?_
      rintro e w3 ⟨rfl, hown3, hg3⟩
      have hk3 := KeepI.of_grown (v := .slice (some ⟨g, 0, none⟩) n n) (unhide HOWN2) hg3
      have hp3 := ((unhide HY).keepI hk3).sub ((keepN_sub (f := fun q : Pr => q.2) ys ys.length).trans (List.take_sublist _ _))
      have hb3 := hb2.grown hg3 hb2.size (fun q hq => by injection hq with hq; omega)
      have hlen : (ordR zss).length = (keepN (·.2) ys ys.length).length := by rw [← unhide HORD, List.length_map]
      have hfin : IntsS w3 w.heap.size (.slice (some ⟨g, 0, none⟩) (keepN (·.2) ys ys.length).length n) (ordR zss) := by
        refine ⟨(keepN (·.2) ys ys.length).map (·.1), by rw [hlen]; exact hown3, ?_⟩
        rw [← unhide HORD]
        exact hp3.inner
      clear H2 hown3 hg3 hk3 hp3 hlen
      go_wp2
      go_ret
      exact GivesSS.mk hfin hb3

end Go.Proofs.YtoiipedomgefaaaDoor


/-
  impl.MakeBasis where its list reads place by place, by its contract. (Written by wip/tools/mkmkba.py.)
-/

namespace Go.Proofs.YtoiipedomgefaaaDoor
set_option maxRecDepth 100000
open Go.RowKit

set_option maxHeartbeats 1600000 in
theorem imkba_any (A : Option Addr) (n c : Nat) (zss : List (List Int)) (w : World) (hS : AtS w A n zss) (hn : n ≤ 1048576) :
    Calls Tryd.prog 36 #[.slice A n c] w (GivesSSB w (mkR zss) (mkOK zss)) := by
  have H1 := hide (conaMB_any A n c zss badB w hS hn (hide fun w1 d A1 c1 z hz hI => imb1_any A1 z.length c1 _ z w1 hI))
  obtain ⟨b, hb⟩ : ∃ b, zss.any badB = b := ⟨_, rfl⟩
  rw [hb] at H1
  cases b with
  | true =>
    have hno := mkOK_bad hb
    rw [mkR_no hno, hno]
    clear hS hb hno
    go_enter Tryd.func36, Tryd.ntmps36
    go_wp2_with fail
    refine (unhide H1).mono ?_
    rintro e w1 ⟨rfl, d1⟩
    have hI := IntsS.nil w1 w.heap.size
    clear H1
    go_wp2
    go_ret2
    exact GivesSSB.mk false hI d1
  | false =>
    have H2 := hide (fun (w' : World) (d : Below w.heap.size w w') => iorda_any A n c zss w' (hS.below d) hn)
    have HNO := hide (fun (k : Nat) (hk : k ≤ (ordR zss).length) (h : 8 < (mkK (ordR zss) k).length) => mkOK_many hk h)
    have HYES := hide (fun (h : (mkK (ordR zss) (ordR zss).length).length ≤ 8) => (⟨mkOK_good hb h, mkR_yes (mkOK_good hb h)⟩ : mkOK zss = true ∧ mkR zss = mkO zss))
    have HDEF := hide (show mkO zss = mkK (ordR zss) (ordR zss).length from rfl)
    have HPP := hide (fun (j : Nat) (z : List Int) (hz : (ordR zss)[j]? = some z) => ordR_mem (List.mem_of_getElem? hz))
    have HPM := hide (fun (k : Nat) (hk : k ≤ (ordR zss).length) (x : List Int) (hx : x ∈ mkK (ordR zss) k) => ordR_mem (mkK_mem k hk x hx))
    obtain ⟨Z, hZ⟩ : ∃ Z, Z = ordR zss := ⟨_, rfl⟩
    rw [← hZ] at H2 HNO HYES HDEF HPP HPM
    obtain ⟨N, hN⟩ : ∃ N, N = Z.length := ⟨_, rfl⟩
    have hN1 : N ≤ 1048576 := by rw [hN, hZ]; have h1 := ordR_len zss; have h2 := hS.1; omega
    have HN := hide hN
    clear hS hb hZ hN
    go_enter Tryd.func36, Tryd.ntmps36
    go_wp2_with fail
    refine (unhide H1).mono ?_
    rintro e w1 ⟨rfl, d1⟩
    have hst := ownS0 w1 w.heap.size d1.size
    have hbel := d1.alloc d1.size (.cells #[] 31)
    have H3 := hide (unhide H2 _ hbel)
    clear H1 H2 d1
    go_wp2_with fail
    refine (unhide H3).mono ?_
    rintro e w3 ⟨A3, c3, rfl, o3, d3⟩
    have hb3 := below_after hbel d3
    obtain ⟨vs, us0, hsib⟩ := Sib.start hst d3 o3 hbel.size
    obtain ⟨C, hC⟩ : ∃ C, C = (w1.alloc (.cells #[] 31)).heap.size := ⟨_, rfl⟩
    rw [← hC] at hsib
    rw [← unhide HN] at hsib ⊢
    clear hC H3 hst o3 d3 hbel
    go_wp2
    go_loopw [4, 6, 13] (fun ov _ i wr => ∃ (j : Nat) (us : List Value), j ≤ N ∧ i = .int .i64 j ∧ Below w.heap.size w wr ∧ Sib wr w.heap.size C (.slice A3 N c3) vs Z ov us (mkK Z j) j ∧ Hid ((mkK Z j).length ≤ 8)) (fun _ _ i _ => N - (intOf i).toNat)
    case atStart => exact ⟨0, us0, Nat.zero_le _, rfl, hb3, hsib, by exact (by simp [mkK] : (mkK Z 0).length ≤ 8)⟩
    case round =>
      obtain ⟨j, us, hj, rfl, hb, hs, h8⟩ := hrel
      clear hsib hb3
      by_cases hlt : j < N
      · obtain ⟨ad, A6, c6, z, rfl, hz, hvz, hcell, hI⟩ := hs.row rfl hlt
        have hzp := unhide HPP j z hz
        have hso := hs.outS
        obtain ⟨Ao, co, hov⟩ := hso.slice
        subst hov
        have h8' : (mkK Z j).length ≤ 8 := h8
        have H4 := hide (ihs_any A6 Ao z.length c6 _ _ co _ z (mkK Z j) wr (hI.argP hzp) hso hzp (unhide HPM j (by rw [← unhide HN]; omega)) (by omega))
        obtain ⟨b, hbb⟩ : ∃ b, avo (mkK Z j) z = b := ⟨_, rfl⟩
        rw [hbb] at H4
        have HZ := hide (⟨hz, hvz⟩ : _ ∧ _)
        have HS := hide hs
        have HB := hide hb
        have hcl := World.block_lt_of_cell? wr _ hcell
        obtain ⟨lz, hlz⟩ : ∃ l, l = z.length := ⟨_, rfl⟩
        obtain ⟨U, hU⟩ : ∃ U, U = mkK Z j := ⟨_, rfl⟩
        rw [← hU] at h8' H4 HS
        obtain ⟨nu, hnu⟩ : ∃ l, l = U.length := ⟨_, rfl⟩
        rw [← hnu] at h8' H4 HS
        have HNU := hide hnu
        have HU := hide hU
        rw [← hlz] at hcell H4 HZ
        rw [← hU, ← hnu]
        clear hz hvz hzp hI hs hb hso hlz hU hnu h8
        cases b with
        | false =>
          have HE := hide (mkK_no (unhide HZ).1 hbb)
          clear hbb
          go_wp2_with fail
          refine (unhide H4).mono ?_
          rintro e w4 ⟨rfl, d4⟩
          have hb4 := below_after (unhide HB) d4
          have hs4 := ((unhide HS).below d4).skip
          clear H4 HB HS d4 hcell hcl
          rw [unhide HU, ← unhide HE] at hs4
          have H8 := hide (show (mkK Z (j + 1)).length ≤ 8 by rw [unhide HE, ← unhide HU, ← unhide HNU]; exact h8')
          have HS4 := hide hs4
          clear hs4
          go_wp2
          go_roundw
          case rel => exact ⟨j + 1, us, by omega, by go_num, hb4, unhide HS4, H8⟩
          case measure => simp [intOf]; omega
        | true =>
          have HE := hide (mkK_yes (unhide HZ).1 hbb)
          clear hbb
          go_wp2_with fail
          refine (unhide H4).mono ?_
          rintro e w4 ⟨rfl, d4⟩
          have hb4 := below_after (unhide HB) d4
          have hs4 := (unhide HS).below d4
          have hcell4 := (d4.cell hcl).trans hcell
          clear H4 HB HS d4 hcell hcl
          by_cases e8 : nu = 8
          · have hno := hide (unhide HNO (j + 1) (by rw [← unhide HN]; omega) (by rw [unhide HE, List.length_append, ← unhide HU, ← unhide HNU, e8]; simp))
            have hI := IntsS.nil w4 w.heap.size
            have e8' : ((nu : Int) == 8) = true := by rw [e8]; rfl
            clear hs4 hcell4 e8
            go_wp2
            go_ret2
            rw [mkR_no (unhide hno), unhide hno]
            exact GivesSSB.mk false hI hb4
          · have e8' : ((nu : Int) == 8) = false := by rw [beq_eq_false_iff_ne]; omega
            have hul : U.length ≤ 1048576 := by rw [← unhide HNU]; omega
            have H8 := hide (show (mkK Z (j + 1)).length ≤ 8 by rw [unhide HE, List.length_append, ← unhide HU, ← unhide HNU, List.length_singleton]; omega)
            go_wp2_with (first
              | (at_builtin; refine wpList_sift rfl (.tmp 23) (.tmp 25) rfl w.heap.size C w w4 (.slice (some ad) N c3) _ (.slice A6 lz c6) vs us Z U j z rfl rfl rfl hs4 (unhide HZ).2 (unhide HZ).1 hul hb4 (Nat.le_refl _) ?_; intro v5 w5 hs5 hb5))
            rw [unhide HU, ← unhide HE] at hs5
            clear hs4 hb4 hcell4 hul
            go_roundw
            case rel => exact ⟨j + 1, _, by omega, by go_num, hb5, hs5, H8⟩
            case measure => simp [intOf]; omega
      · obtain rfl : N = j := by omega
        have h8' : (mkK Z Z.length).length ≤ 8 := by rw [← unhide HN]; exact h8
        obtain ⟨e1, e2⟩ := unhide HYES h8'
        have hI := hs.outS
        rw [show mkK Z N = mkR zss by rw [e2, unhide HDEF, ← unhide HN]] at hI
        have HI := hide hI
        have HOK := hide e1
        clear hs h8 h8' e1 e2 hI
        go_wp2
        go_ret2
        rw [unhide HOK]
        exact GivesSSB.mk true (unhide HI) hb
end Go.Proofs.YtoiipedomgefaaaDoor


/-
  slices.Grow of nil, slices.Concat of two lists of rows, by their contracts; a joined list of rows.
-/

namespace Go.Proofs.YtoiipedomgefaaaDoor
set_option maxRecDepth 100000
open Go.RowKit

/-- Rows that stand somewhere, joined: read place by place. -/
theorem AtS.joined {w w' : World} {B B1 B2 n c : Nat} {A : Option Addr} {vs us : List Value} {Z U : List (List Int)} (hown : w'.ownsRow B 31 1 (.slice A n c) n (vs ++ us)) (hv : Inner w B1 vs Z) (hu : Inner w B2 us U) (hb : Below w.heap.size w w')
    (hs1 : ∀ z ∈ Z, z.length ≤ 1048576 ∧ Small z) (hs2 : ∀ z ∈ U, z.length ≤ 1048576 ∧ Small z) : AtS w' A n (Z ++ U) := by
  have h1 := hv.len
  have h2 := hu.len
  have h3 : (vs ++ us).length = n := by simpa using hown.1
  rw [List.length_append] at h3
  refine ⟨by rw [List.length_append]; omega, fun wr hb' k hk => ?_⟩
  obtain ⟨ad, u, hA, _, hku, hc⟩ := (Reads.of_own_at (own_below hown hb')).at_ hk
  have hbb := below_after hb hb'
  by_cases hlt : k < vs.length
  · rw [List.getElem?_append_left hlt] at hku
    have hz : Z[k]? = some (Z[k]'(by omega)) := List.getElem?_eq_getElem _
    generalize Z[k]'(by omega) = z at hz
    have hr := (hv.row k u z hku hz).below hbb
    obtain ⟨A', c', rfl⟩ := hr.slice
    have hs := hs1 z (List.mem_of_getElem? hz)
    exact ⟨ad, A', c', z, hA, by rw [List.getElem?_append_left (by omega)]; exact hz, hc, hr.arg hs.1 hr.cap hs.2⟩
  · rw [List.getElem?_append_right (by omega)] at hku
    have hz : U[k - vs.length]? = some (U[k - vs.length]'(by omega)) := List.getElem?_eq_getElem _
    generalize U[k - vs.length]'(by omega) = z at hz
    have hr := (hu.row _ u z hku hz).below hbb
    obtain ⟨A', c', rfl⟩ := hr.slice
    have hs := hs2 z (List.mem_of_getElem? hz)
    exact ⟨ad, A', c', z, hA, by rw [List.getElem?_append_right (by omega), ← h1]; exact hz, hc, hr.arg hs.1 hr.cap hs.2⟩
set_option maxHeartbeats 800000 in
theorem growS_any (m : Nat) (hm : m ≤ 100000) (w : World) :
    Calls Tryd.prog 66 #[.slice none 0 0, .int .i64 m] w fun e w' => ∃ A c, e = .returned (.slice A 0 c) ∧ w'.ownsRow w.heap.size 31 1 (.slice A 0 c) 0 [] ∧ Below w.heap.size w w' := by
  obtain ⟨i0, hi, hz0, hz1, hz2⟩ := info_parts rowsInfo1
  have hn0 : ¬ ((m : Int) < 0) := by omega
  by_cases h0 : m = 0
  · subst h0
    go_enter Tryd.func66, Tryd.ntmps66
    go_wp2
    go_ret
    exact ⟨none, 0, rfl, World.ownsRow_nil _ _ _ _, Below.refl _ _⟩
  · have hpos : 0 < (m : Int) := by omega
    have hwr : IntKind.i64.wrap (m : Int) = (m : Int) := by rw [IntKind.wrap_i64]; omega
    have hrun := Lib.run_append_nil_zeros (P := Tryd.prog) w 22 3 22 31 i0 (.slice none 0 0) .i64 .i64 Tryd.underlying22 Tryd.underlying3 hi hz0 m (by omega) (by omega) (by omega) (by rw [hz2]; omega)
    have hge := grownCap_ge w m 0 31
    have hle := grownCap_le_maxLen w m 0 31 (by unfold maxLen; omega)
    obtain ⟨C, hC⟩ : ∃ C, C = grownCap w m 0 31 := ⟨_, rfl⟩
    rw [← hC] at hrun hge hle
    obtain ⟨cur, hcur⟩ : ∃ cur, cur = Builtin.zeroCells (Value.slice none 0 0).cells m ++ Builtin.zeroCells (Value.slice none 0 0).cells (C - m) := ⟨_, rfl⟩
    have hcs : cur.size = C := by
      rw [hcur, Array.size_append, size_zeroCells, size_zeroCells]
      simp [Value.cells]
      omega
    rw [← hcur] at hrun
    obtain ⟨w3, hw3⟩ : ∃ w3, w3 = w.drew.alloc (.cells cur 31) := ⟨_, rfl⟩
    rw [← hw3] at hrun
    have hown : w3.ownsRow w.heap.size 31 1 (.slice (some ⟨w.heap.size, 0, none⟩) 0 C) 0 [] :=
      ⟨rfl, .inr ⟨w.heap.size, C, cur, rfl, Nat.le_refl _, by rw [hw3]; exact heap_alloc_new w.drew _, Nat.zero_le _, hle, by omega, by simp⟩⟩
    have hb : Below w.heap.size w w3 := by rw [hw3]; exact (below_drew _ w).alloc (Nat.le_refl _) _
    have h0C : (0 : Int) ≤ (C : Int) := by omega
    clear hw3 hC hcur
    go_enter Tryd.func66, Tryd.ntmps66
    go_wp2_with (first
      | (at_builtin; refine Lib.wpList_append_run _ rfl _ _ _ _ rfl _ _ rfl rfl _ _ hrun ?_))
    go_ret
    exact ⟨some ⟨w.heap.size, 0, none⟩, C, rfl, hown, hb⟩
/-- The rows of a list of rows, as an append reads them. -/
def RowsOf (B : Nat) (w : World) (A : Option Addr) (n c : Nat) (vs : List Value) : Prop := w.ownsRow B 31 1 (.slice A n c) n vs ∧ ∀ u ∈ vs, u.oneCell' = true
theorem RowsOf.below {B n c : Nat} {w w' : World} {A : Option Addr} {vs : List Value} (h : RowsOf B w A n c vs) (hb : Below w.heap.size w w') : RowsOf B w' A n c vs := ⟨own_below h.1 hb, h.2⟩
theorem Inner.one {w : World} {B : Nat} {vs : List Value} {Z : List (List Int)} (h : Inner w B vs Z) : ∀ u ∈ vs, u.oneCell' = true := fun u hu => by
  obtain ⟨z, hz⟩ := h.mem hu
  obtain ⟨A, c, rfl⟩ := hz.slice
  rfl
set_option maxHeartbeats 1600000 in
theorem concatS_any (gs : Nat) (A1 A2 : Option Addr) (n1 c1 B1 n2 c2 B2 : Nat) (vs us : List Value) (w : World) (hc0 : w.cell? ⟨gs, 0, none⟩ = some (.slice A1 n1 c1)) (hc1 : w.cell? ⟨gs, 1, none⟩ = some (.slice A2 n2 c2))
    (h1 : RowsOf B1 w A1 n1 c1 vs) (h2 : RowsOf B2 w A2 n2 c2 us) (hn1 : n1 ≤ 10000) (hn2 : n2 ≤ 10000) :
    Calls Tryd.prog 37 #[.slice (some ⟨gs, 0, none⟩) 2 2] w fun e w' => ∃ A c, e = .returned (.slice A (n1 + n2) c) ∧ w'.ownsRow w.heap.size 31 1 (.slice A (n1 + n2) c) (n1 + n2) (vs ++ us) ∧ Below w.heap.size w w' := by
  have hw1 : IntKind.i64.wrap ((0 : Int) + (n1 : Int)) = (n1 : Int) := by rw [IntKind.wrap_i64]; omega
  have hw1' : IntKind.i64.wrap (n1 : Int) = (n1 : Int) := by rw [IntKind.wrap_i64]; omega
  have hw2 : IntKind.i64.wrap ((n1 : Int) + (n2 : Int)) = (n1 : Int) + (n2 : Int) := by rw [IntKind.wrap_i64]; omega
  have hp1 : ¬ ((n1 : Int) < 0) := by omega
  have hp2 : ¬ ((n1 : Int) + (n2 : Int) < 0) := by omega
  have HG := hide (show ∀ w', Calls Tryd.prog 66 #[.slice none 0 0, .int .i64 ((n1 : Int) + (n2 : Int))] w' _ from fun w' => by
    have := growS_any (n1 + n2) (by omega) w'
    rw [Int.natCast_add] at this
    exact this)
  have hl1 := World.block_lt_of_cell? w _ hc0
  have HA := hide (⟨h1, h2⟩ : RowsOf B1 w A1 n1 c1 vs ∧ RowsOf B2 w A2 n2 c2 us)
  clear h1 h2
  go_enter Tryd.func37, Tryd.ntmps37
  go_wp2
  go_loopw [3, 5, 11] (fun s _ i wr => wr = w ∧ ((i = .int .i64 0 ∧ s = .int .i64 0) ∨ (i = .int .i64 1 ∧ s = .int .i64 n1) ∨ (i = .int .i64 2 ∧ s = .int .i64 ((n1 : Int) + (n2 : Int))))) (fun _ _ i _ => 2 - (intOf i).toNat)
  case atStart => exact ⟨rfl, .inl ⟨rfl, rfl⟩⟩
  case round =>
    obtain ⟨hwr, hcase⟩ := hrel
    replace hwr := hwr.symm
    subst hwr
    rcases hcase with ⟨rfl, rfl⟩ | ⟨rfl, rfl⟩ | ⟨rfl, rfl⟩
    · go_wp2
      go_roundw
      case rel => exact ⟨trivial, .inr (.inl ⟨rfl, rfl⟩)⟩
      case measure => simp [intOf]
    · go_wp2
      go_roundw
      case rel => exact ⟨trivial, .inr (.inr ⟨rfl, rfl⟩)⟩
      case measure => simp [intOf]
    · go_wp2_with fail
      refine (unhide HG _).mono ?_
      rintro e w1 ⟨Av, cv, rfl, hown, hb1⟩
      clear HG
      go_wp2
      go_loopw [6, 8, 27] (fun s _ i wr => Below w.heap.size w wr ∧ ((i = .int .i64 0 ∧ wr.ownsRow w.heap.size 31 1 s 0 []) ∨ (i = .int .i64 1 ∧ wr.ownsRow w.heap.size 31 1 s n1 vs) ∨ (i = .int .i64 2 ∧ wr.ownsRow w.heap.size 31 1 s (n1 + n2) (vs ++ us)))) (fun _ _ i _ => 2 - (intOf i).toNat)
      case atStart => exact ⟨hb1, .inl ⟨rfl, hown⟩⟩
      case round =>
        obtain ⟨hb, hcase⟩ := hrel
        have hd0 := (hb.cell (p := ⟨gs, 0, none⟩) hl1).trans hc0
        have hd1 := (hb.cell (p := ⟨gs, 1, none⟩) hl1).trans hc1
        have hA1 := (unhide HA).1.below hb
        have hA2 := (unhide HA).2.below hb
        have hsz := hb.size
        clear hown hb1 hc0 hc1
        rcases hcase with ⟨rfl, hown⟩ | ⟨rfl, hown⟩ | ⟨rfl, hown⟩
        · go_wp2_with (first
            | (at_builtin; refine wpList_append_rows rfl (.tmp 31) (.tmp 32) rfl w.heap.size _ 0 n1 c1 w _ A1 [] vs rfl rfl hown (Reads.of_own_at hA1.1) (own_nil hA1.1) hA1.2 (by omega) (by omega) hb hsz ?_; intro v' w' hown2 hb2 hg2 _))
          go_roundw
          case rel => exact ⟨hb2, .inr (.inl ⟨rfl, by rw [Nat.zero_add, List.nil_append] at hown2; exact hown2⟩)⟩
          case measure => simp [intOf]
        · go_wp2_with (first
            | (at_builtin; refine wpList_append_rows rfl (.tmp 31) (.tmp 32) rfl w.heap.size _ n1 n2 c2 w _ A2 vs us rfl rfl hown (Reads.of_own_at hA2.1) (own_nil hA2.1) hA2.2 (by omega) (by omega) hb hsz ?_; intro v' w' hown2 hb2 hg2 _))
          go_roundw
          case rel => exact ⟨hb2, .inr (.inr ⟨rfl, hown2⟩)⟩
          case measure => simp [intOf]
        · obtain ⟨A9, c9, rfl, _⟩ := Reads.of_own hown
          clear hA1 hA2
          go_wp2
          go_ret
          exact ⟨A9, c9, rfl, hown, hb⟩
end Go.Proofs.YtoiipedomgefaaaDoor
