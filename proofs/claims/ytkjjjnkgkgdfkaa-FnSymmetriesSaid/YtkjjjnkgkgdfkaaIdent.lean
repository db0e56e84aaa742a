
/-
  spec.IdentityPerm and impl.IdentityPerm, by their contracts.
-/
import Derived.Test.YtkjjjnkgkgdfkaaProg
import Derived.Test.YtkjjjnkgkgdfkaaPermF
import Derived.Test.YtkjjjnkgkgdfkaaInts
import Derived.Test.YtkjjjnkgkgdfkaaAsc
namespace Go.Proofs.Ytkjjjnkgkgdfkaa
open Go.RowKit

theorem Ints.of_whole {w : World} {g B n c : Nat} {t : TypeId} (ht : t ≠ 24) {l : List Int} (hg : Whole w g t (arr l)) (hB : B ≤ g) (hn : n ≤ l.length) (hnc : n ≤ c) : Ints w B (.slice (some ⟨g, 0, none⟩) n c) (l.take n) := by
  have hl : (l.take n).length = n := by rw [List.length_take]; omega
  unfold Ints
  rw [hl]
  refine ⟨by rw [i64_length, hl], .inr ⟨g, c, arr l, t, rfl, hB, hg, ⟨hnc, by rw [arr_size]; exact hn⟩, ?_, ht⟩⟩
  unfold arr i64s
  rw [List.map_take]

set_option maxRecDepth 100000 in
set_option maxHeartbeats 400000 in
theorem sid_any (m : Int) (hm : -9223372036854775808 ≤ m ∧ m ≤ 9223372036854775807) (w : World) :
    Calls Try.prog 22 #[.int .i64 m] w (GivesI w (idR m)) := by
  obtain ⟨i0, hi, hz0, hz1, hz2⟩ := info_parts intInfo
  obtain ⟨hm1, hm2⟩ := hm
  have hst := own0 w w.heap.size (Nat.le_refl _)
  have hbel := (Below.refl w.heap.size w).alloc (Nat.le_refl _) (.cells #[] 3)
  by_cases hin : 1 ≤ m ∧ m ≤ 8
  · rw [idR_yes hin.1 hin.2]
    obtain ⟨n, rfl⟩ : ∃ n : Nat, m = (n : Int) := ⟨m.toNat, by omega⟩
    have hn8 : n ≤ 8 := by omega
    clear hin hm1 hm2
    rw [Int.toNat_natCast]
    have h8b : decide ((n : Int) ≤ 8) = true := by simp; omega
    go_enter Try.func22, Try.ntmps22
    go_wp2
    go_loopw [3, 4] (fun v i wr => ∃ k : Nat, k ≤ n ∧ i = .int .i64 ((k : Int) + 1) ∧ Below w.heap.size w wr ∧ wr.ownsRow w.heap.size 3 1 v k (i64s (upTo k))) (fun _ i _ => n + 1 - (intOf i).toNat)
    case atStart => exact ⟨0, Nat.zero_le _, rfl, hbel, hst⟩
    case round =>
      obtain ⟨k, hk, rfl, hbw, hown⟩ := hrel
      clear hst hbel
      by_cases hlt : k < n
      · have hlt' : (k : Int) + 1 ≤ (n : Int) := by omega
        have e : i64s (upTo k) ++ [.int .i64 ((k : Int) + 1)] = i64s (upTo (k + 1)) := by rw [upTo_step]; unfold i64s; simp
        have HE := hide e
        clear e
        go_wp2_with (first
          | (at_builtin; refine wpList_append_one rfl (.tmp 15) (.tmp 17) 24 rfl w.heap.size 3 i0 (.int .i64 0) 8 Try.underlying24 hi hz0 hz1 hz2 rfl w wr _ _ _ rfl hown (.int .i64 ((k : Int) + 1)) rfl rfl rfl (by omega) (by simp only [maxLen]; omega) hbw hbw.size ?_; intro v2 w2 hown2 hb2 hg2; clear hg2))
        rw [unhide HE] at hown2
        clear hown hbw HE
        go_roundw
        case rel => exact ⟨k + 1, by omega, by go_num, hb2, hown2⟩
        case measure => simp [intOf]; omega
      · obtain rfl : n = k := by omega
        have hlt' : ¬ ((n : Int) + 1 ≤ (n : Int)) := by omega
        have hI : Ints wr w.heap.size u3 (upTo n) := Ints.of_own hown
        clear hown
        go_wp2
        go_ret
        exact GivesI.mk hI hbw
  · rw [idR_no hin]
    have hI := Ints.made0 w w.heap.size (Nat.le_refl _)
    by_cases h1 : 1 ≤ m
    · have h8 : 8 < m := by omega
      have h8b : decide (m ≤ 8) = false := by simp; omega
      clear hin hst
      go_enter Try.func22, Try.ntmps22
      go_wp2
      go_loopw [3, 4] (fun v i wr => i = .int .i64 1 ∧ v = .slice (some ⟨w.heap.size, 0, none⟩) 0 0 ∧ wr = w.alloc (.cells #[] 3)) (fun _ _ _ => 0)
      case atStart => exact ⟨rfl, rfl, rfl⟩
      case round =>
        obtain ⟨rfl, rfl, rfl⟩ := hrel
        go_wp2
        go_ret
        exact GivesI.mk hI hbel
    · have h1' : m < 1 := by omega
      clear hin hst
      go_enter Try.func22, Try.ntmps22
      go_wp2
      go_loopw [3, 4] (fun v i wr => i = .int .i64 1 ∧ v = .slice (some ⟨w.heap.size, 0, none⟩) 0 0 ∧ wr = w.alloc (.cells #[] 3)) (fun _ _ _ => 0)
      case atStart => exact ⟨rfl, rfl, rfl⟩
      case round =>
        obtain ⟨rfl, rfl, rfl⟩ := hrel
        go_wp2
        go_ret
        exact GivesI.mk hI hbel

set_option maxRecDepth 100000 in
theorem iid_any (m : Int) (hm : -9223372036854775808 ≤ m ∧ m ≤ 9223372036854775807) (w : World) :
    Calls Try.prog 21 #[.int .i64 m] w (GivesI w (idR m)) := by
  obtain ⟨hm1, hm2⟩ := hm
  by_cases h1 : 1 ≤ m
  · by_cases h8 : m ≤ 8
    · rw [idR_yes h1 h8]
      obtain ⟨n, rfl⟩ : ∃ n : Nat, m = (n : Int) := ⟨m.toNat, by omega⟩
      have hn8 : n ≤ 8 := by omega
      have hn1 : 1 ≤ n := by omega
      clear hm1 hm2 h1 h8
      rw [Int.toNat_natCast]
      have H1 := hide (asc_any n hn8 w)
      go_enter Try.func21, Try.ntmps21
      go_wp2_with fail
      refine (unhide H1).mono ?_
      rintro e w1 ⟨rfl, hb⟩
      clear H1
      have hs1 := hb.size
      obtain ⟨wa, hwa⟩ : ∃ wa, wa = w1.alloc (.cells (arr (ascL 0)) 60) := ⟨_, rfl⟩
      have hg0 : Whole wa w1.heap.size 60 (arr (ascL 0)) := by rw [hwa]; exact Whole.new w1 _ _
      have hba : Below w.heap.size w wa := by rw [hwa]; exact hb.alloc hs1 _
      have hg1 : Whole (wa.setRow w1.heap.size (arr (ascL n))) w1.heap.size 60 (arr (ascL n)) := setRow_heap _ _ _ _ _ _ hg0
      rw [hwa] at hg0
      have hb2 := below_set_row hba w1.heap.size (arr (ascL n)) hs1
      have HW := hide hwa
      clear hwa hba
      go_wp2_with (first
        | (refine wpList_store_row rfl 60 (.tmp 3) (.tmp 11) rfl w1.heap.size (arr (ascL n)) rfl rfl 60 (arr (ascL 0)) hg0 (by rw [arr_size, ascL_length]; exact permInfo) (by rw [arr_size, arr_size, ascL_length, ascL_length]) (arr_one _) ?_))
      go_ret
      have hI := Ints.of_whole (B := w.heap.size) (c := n) (by decide) hg1 hs1 (n := n) (by rw [ascL_length]; exact hn8) (Nat.le_refl _)
      rw [upTo_asc hn8, unhide HW, ← zeros_asc] at hI
      rw [unhide HW, ← zeros_asc] at hb2
      have h := GivesI.mk hI hb2
      exact h
    · have h8' : 8 < m := by omega
      rw [idR_no (by omega)]
      go_enter Try.func21, Try.ntmps21
      go_wp2
      go_ret
      exact GivesI.mk (v := .slice none 0 0) (Ints.nil _ _) (Below.refl _ _)
  · have h1' : m < 1 := by omega
    rw [idR_no (by omega)]
    go_enter Try.func21, Try.ntmps21
    go_wp2
    go_ret
    exact GivesI.mk (v := .slice none 0 0) (Ints.nil _ _) (Below.refl _ _)
end Go.Proofs.Ytkjjjnkgkgdfkaa
