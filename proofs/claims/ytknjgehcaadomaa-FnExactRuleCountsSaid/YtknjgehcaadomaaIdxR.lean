
/-
  slices.IndexFunc, ContainsFunc and DeleteFunc over rows of rows, for each closure of chapter 12. (Written by wip/tools/mkidx.py.)
-/
import Derived.Test.YtknjgehcaadomaaFirst
import Derived.Lib.SliceRun
namespace Go.Proofs.Ytknjgehcaadomaa
set_option maxRecDepth 100000
open Go.RowKit

set_option maxHeartbeats 800000 in
theorem idxRU_any (A : Option Addr) (n c B : Nat) (zss : List (List Int)) (f : List Int → Bool) (w : World) (hS : IntsS w B (.slice A n c) zss) (hn : n ≤ 1048576)
    (HP : Hid (∀ (w1 : World), Below w.heap.size w w1 → ∀ (A1 : Option Addr) (c1 : Nat) (z : List Int), z ∈ zss → Ints w1 B (.slice A1 z.length c1) z → Calls Try.prog 20 #[.slice A1 z.length c1] w1 (GivesB w1 (f z)))) :
    Calls Try.prog 22 #[.slice A n c, .func (.func 20) #[] #[]] w (FirstAt w f zss) := by
  have hl := hS.len
  have HS := hide hS
  have HL := hide hl
  have hb0 := Below.refl w.heap.size w
  clear hS hl
  go_enter Try.func22, Try.ntmps22
  go_wp2
  go_loopw [5, 8] (fun _ i wr => ∃ k : Nat, k ≤ n ∧ i = .int .i64 k ∧ Below w.heap.size w wr ∧ Hid (∀ y ∈ zss.take k, f y = false)) (fun _ i _ => n - (intOf i).toNat)
  case atStart => exact ⟨0, Nat.zero_le _, rfl, hb0, fun y hy => by simp at hy⟩
  case round =>
    obtain ⟨k, hk, rfl, hb, hno⟩ := hrel
    clear hb0
    by_cases hlt : k < n
    · have hSr := (unhide HS).below hb
      obtain ⟨ad, A1, c1, z, rfl, hzk, hcell, hI⟩ := hSr.at_ hlt
      obtain ⟨b, hbf⟩ : ∃ b, f z = b := ⟨_, rfl⟩
      have H1 := hide (unhide HP wr hb A1 c1 z (List.mem_of_getElem? hzk) hI)
      rw [hbf] at H1
      obtain ⟨lz, hlz⟩ : ∃ l, l = z.length := ⟨_, rfl⟩
      rw [← hlz] at hcell H1
      cases b with
      | true =>
        have HE := hide (⟨hzk, hbf⟩ : _ ∧ _)
        clear hSr hI hzk hbf hlz
        go_wp2_with fail
        refine (unhide H1).mono ?_
        rintro e w2 ⟨rfl, d2⟩
        have hb2 := below_after hb d2
        clear H1 d2 hb
        go_wp2
        go_ret
        exact ⟨(k : Int), rfl, .inr ⟨k, z, rfl, (unhide HE).1, (unhide HE).2, unhide hno⟩, hb2⟩
      | false =>
        have hno2 := hide (no_step hzk hbf (unhide hno))
        clear hSr hI hzk hbf hno hlz
        go_wp2_with fail
        refine (unhide H1).mono ?_
        rintro e w2 ⟨rfl, d2⟩
        have hb2 := below_after hb d2
        clear H1 d2 hb
        go_wp2
        go_roundw
        case rel => exact ⟨k + 1, by omega, by go_num, hb2, hno2⟩
        case measure => simp [intOf]; omega
    · obtain rfl : n = k := by omega
      have hno2 := hide (show ∀ y ∈ zss, f y = false by
        have h := unhide hno
        rwa [List.take_of_length_le (by rw [unhide HL]; exact Nat.le_refl _)] at h)
      clear hno
      go_wp2
      go_ret
      exact ⟨-1, rfl, .inl ⟨rfl, unhide hno2⟩, hb⟩
theorem conRU_any (A : Option Addr) (n c B : Nat) (zss : List (List Int)) (f : List Int → Bool) (w : World) (hS : IntsS w B (.slice A n c) zss) (hn : n ≤ 1048576)
    (HP : Hid (∀ (w1 : World), Below w.heap.size w w1 → ∀ (A1 : Option Addr) (c1 : Nat) (z : List Int), z ∈ zss → Ints w1 B (.slice A1 z.length c1) z → Calls Try.prog 20 #[.slice A1 z.length c1] w1 (GivesB w1 (f z)))) :
    Calls Try.prog 19 #[.slice A n c, .func (.func 20) #[] #[]] w (GivesB w (zss.any f)) := by
  have H1 := hide (idxRU_any A n c B zss f w hS hn HP)
  clear hS HP
  go_enter Try.func19, Try.ntmps19
  go_wp2_with fail
  refine (unhide H1).mono ?_
  rintro e w1 ⟨x, rfl, hx, d1⟩
  have HX := hide (show decide (0 ≤ x) = zss.any f by
    rcases hx with ⟨rfl, h⟩ | ⟨k, z, rfl, hz, hf, _⟩
    · symm
      rw [show decide ((0 : Int) ≤ -1) = false from rfl, List.any_eq_false]
      exact fun z hz => by rw [h z hz]; simp
    · symm
      rw [decide_eq_true (by omega), List.any_eq_true]
      exact ⟨z, List.mem_of_getElem? hz, hf⟩)
  clear H1 hx
  go_wp2
  go_ret
  exact ⟨by rw [← unhide HX]; rfl, d1⟩
end Go.Proofs.Ytknjgehcaadomaa
