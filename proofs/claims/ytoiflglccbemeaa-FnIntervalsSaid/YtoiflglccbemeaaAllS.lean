
/-
  spec.l3All, by its contract.
-/
import Derived.Test.YtoiflglccbemeaaPermS
import Derived.Test.YtoiflglccbemeaaSymM
import Derived.Test.YtoiflglccbemeaaIntsS
namespace Go.Proofs.Ytoiflglccbemeaa
set_option maxRecDepth 100000
open Go.RowKit

theorem l3all_any (A : Option Addr) (n c B : Nat) (zss : List (List Int)) (b : Bool) (hb : allP zss = b) (w : World) (hS : IntsS w B (.slice A n c) zss) (hn : n ≤ 1048576) (hsm : ∀ z ∈ zss, z.length ≤ 1048576 ∧ Small z) :
    Calls Try.prog 56 #[.slice A n c] w fun e w' => e = .returned (.bool b) ∧ Drew w w' := by
  have hl := hS.len
  have HL := hide hl
  have HB := hide hb
  have HSM := hide hsm
  clear hl hb hsm
  go_enter Try.func56, Try.ntmps56
  go_wp2
  go_loopw [3] (fun i wr => ∃ k : Nat, k ≤ n ∧ i = .int .i64 k ∧ Drew w wr ∧ Hid (∀ z ∈ zss.take k, isP z = true)) (fun i _ => n - (intOf i).toNat)
  case atStart => exact ⟨0, Nat.zero_le _, rfl, Drew.refl _, fun z hz => by simp at hz⟩
  case round =>
    obtain ⟨k, hk, rfl, hd, hP⟩ := hrel
    by_cases hlt : k < n
    · obtain ⟨ad, A1, c1, z, rfl, hz, hcell, hI⟩ := (hS.below (hd.below _)).at_ hlt
      obtain ⟨hzl, hzs⟩ := unhide HSM z (List.mem_of_getElem? hz)
      have hA := hI.arg hzl hI.cap hzs
      obtain ⟨b1, hb1⟩ : ∃ b, isP z = b := ⟨_, rfl⟩
      have H1 := hide (sisperm_any A1 z.length c1 wr.heap.size z b1 hb1 wr hA.reads hA.le hA.cap)
      cases b1 with
      | false =>
        obtain rfl : b = false := (unhide HB).symm.trans (allP_no (List.mem_of_getElem? hz) hb1)
        have HD := hide hd
        clear hz hb1 hI hA hP hzs HB hd
        go_wp2_with fail
        refine (unhide H1).mono ?_
        rintro e w2 ⟨rfl, hd⟩
        have hd2 := (unhide HD).trans hd
        clear H1 hd HD
        go_wp2
        go_ret
        exact ⟨rfl, hd2⟩
      | true =>
        have hnext : Hid (∀ z ∈ zss.take (k + 1), isP z = true) := hide (fun y hy => by
          rw [List.take_add_one, hz] at hy
          rcases List.mem_append.1 hy with h | h
          · exact unhide hP y h
          · simp at h
            subst h
            exact hb1)
        have HD := hide hd
        clear hz hb1 hI hA hP hzs hd
        go_wp2_with fail
        refine (unhide H1).mono ?_
        rintro e w2 ⟨rfl, hd⟩
        have hd2 := (unhide HD).trans hd
        clear H1 hd HD
        go_wp2
        go_roundw
        case rel => exact ⟨k + 1, by omega, by go_num, hd2, hnext⟩
        case measure => simp [intOf]; omega
    · obtain rfl : n = k := by omega
      obtain rfl : b = true := (unhide HB).symm.trans (allP_yes fun z hz => unhide hP z (by rw [List.take_of_length_le (by rw [unhide HL]; exact Nat.le_refl _)]; exact hz))
      clear HB hP
      go_wp2
      go_ret
      exact ⟨rfl, hd⟩
end Go.Proofs.Ytoiflglccbemeaa
