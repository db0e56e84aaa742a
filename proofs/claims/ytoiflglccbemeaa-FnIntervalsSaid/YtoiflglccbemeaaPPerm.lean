
/-
  spec.ParsePerm and impl.ParsePerm, by their contracts.
-/
import Derived.Test.YtoiflglccbemeaaPermS
import Derived.Test.YtoiflglccbemeaaIsPerm
import Derived.Test.YtoiflglccbemeaaPermT
namespace Go.Proofs.Ytoiflglccbemeaa
set_option maxRecDepth 100000
open Go.RowKit

theorem nums_take {s : ByteArray} {k : Nat} (h : k < s.size) : (nums s).take (k + 1) = (nums s).take k ++ [(s[k].toNat : Int) - 48] := take_snoc_i (nums_at h)
theorem own_cap {w : World} {base n c g : Nat} {xs : List Value} {e : TypeId} (h : w.ownsRow base e 1 (.slice (some ⟨g, 0, none⟩) n c) n xs) : n ≤ c := by
  rcases h.2 with ⟨h0, _⟩ | ⟨g', cap, cur, hv, _, _, hnc, _⟩
  · cases h0
  · injection hv with _ _ h3
    omega
theorem own_form {w : World} {base n : Nat} {v : Value} {xs : List Value} {e : TypeId} (h : w.ownsRow base e 1 v n xs) : ∃ A c, v = .slice A n c ∧ n ≤ c := by
  rcases h.2 with ⟨rfl, rfl⟩ | ⟨g, cap, cur, rfl, _, _, hnc, _⟩
  · exact ⟨none, 0, rfl, Nat.le_refl _⟩
  · exact ⟨_, _, rfl, hnc⟩

theorem not_dash {s : ByteArray} (h : s ≠ ⟨#[45]⟩) : (s.toList == [45]) = false := by
  rw [beq_eq_false_iff_ne]
  intro e
  rw [ByteArray.toList_eq] at e
  refine h (ByteArray.ext (Array.ext' ?_))
  exact e
theorem empty_list {s : ByteArray} (h : s.size = 0) : s.toList.isEmpty = true := by
  rw [ByteArray.toList_eq, List.isEmpty_iff_length_eq_zero, Array.length_toList]
  exact h
theorem nonempty_list {s : ByteArray} (h : ¬ s.size = 0) : s.toList.isEmpty = false := by
  rw [Bool.eq_false_iff]
  intro e
  rw [ByteArray.toList_eq, List.isEmpty_iff_length_eq_zero, Array.length_toList] at e
  exact h e

set_option maxHeartbeats 800000 in
theorem spp_any (s : ByteArray) (hs : s.size ≤ 1048576) (b : Bool) (hb : ppOK s = b) (w : World) :
    Calls Try.prog 51 #[.string s] w (GivesIB w (ppR s) b) := by
  obtain ⟨i0, hi, hz0, hz1, hz2⟩ := info_parts intInfo
  have hst := own0 w w.heap.size (Nat.le_refl _)
  have hst2 := Ints.made0 w w.heap.size (Nat.le_refl _)
  have hbel := (Below.refl w.heap.size w).alloc (Nat.le_refl _) (.cells #[] 3)
  by_cases hd : s = ⟨#[45]⟩
  · subst hd
    obtain rfl : b = true := hb.symm.trans ppOK_dash
    rw [ppR_dash]
    clear hb hs hst
    go_enter Try.func51, Try.ntmps51
    go_wp2
    go_ret2
    exact GivesIB.mk true hst2 hbel
  · have hd' := not_dash hd
    by_cases h0 : s.size = 0
    · have hno := ppOK_none hd h0
      obtain rfl : b = false := hb.symm.trans hno
      have HR := hide (ppR_no hd hno)
      have he := empty_list h0
      have HZ := hide h0
      clear hb hs hst hd hno h0
      have hz0 : s.size ≤ 0 := by rw [unhide HZ]; exact Nat.le_refl _
      go_enter Try.func51, Try.ntmps51
      go_wp2
      go_loopw [4, 5] (fun v i wr => i = .int .i64 0 ∧ wr = w.alloc (.cells #[] 3)) (fun _ _ _ => 0)
      case atStart => exact ⟨rfl, rfl⟩
      case round =>
        obtain ⟨rfl, rfl⟩ := hrel
        have hst3 := Ints.made0 (w.alloc (.cells #[] 3)) w.heap.size (by simp)
        rw [show (w.alloc (.cells #[] 3)).heap.size = w.heap.size + 1 by simp] at hst3
        have hbel2 := hbel.alloc hbel.size (.cells #[] 3)
        have hz : ¬ 0 < s.size := by omega
        go_wp2
        go_ret2
        exact GivesIB.mk false (by rw [unhide HR]; exact hst3) hbel2
    · have hp := ppOK_else hd (by omega)
      have he := nonempty_list h0
      have he2 : ¬ s.toList = [] := fun e => by rw [e] at he; cases he
      have hlen := nums_length s
      have HB := hide (hp.symm.trans hb)
      have HY := hide (fun (h : ppOK s = true) => ppR_yes hd h)
      have HN := hide (fun (h : ppOK s = false) => ppR_no hd h)
      have HL := hide hlen
      have HO := hide hb
      clear hb hd hp hlen hst2
      go_enter Try.func51, Try.ntmps51
      go_wp2
      go_loopw [4, 5] (fun v i wr => ∃ k : Nat, k ≤ s.size ∧ i = .int .i64 k ∧ Below w.heap.size w wr ∧ wr.ownsRow w.heap.size 3 1 v k (i64s ((nums s).take k))) (fun _ i _ => s.size - (intOf i).toNat)
      case atStart => exact ⟨0, Nat.zero_le _, rfl, hbel, hst⟩
      case round =>
        obtain ⟨k, hk, rfl, hbw, hown⟩ := hrel
        clear hst hbel
        by_cases hlt : k < s.size
        · have e : i64s ((nums s).take k) ++ [.int .i64 ((s[k].toNat : Int) - 48)] = i64s ((nums s).take (k + 1)) := by rw [nums_take hlt]; unfold i64s; simp
          have HE := hide e
          have hby := s[k].toNat_lt
          clear e
          go_wp2_with (first
            | (at_builtin; refine wpList_append_one rfl (.tmp 16) (.tmp 22) 24 rfl w.heap.size 3 i0 (.int .i64 0) 8 Try.underlying24 hi hz0 hz1 hz2 rfl w wr _ _ _ rfl hown (.int .i64 ((s[k].toNat : Int) - 48)) rfl rfl rfl (by omega) (by simp only [maxLen]; omega) hbw hbw.size ?_; intro v2 w2 hown2 hb2 hg2; clear hg2))
          rw [unhide HE] at hown2
          clear hown hbw HE
          go_roundw
          case rel => exact ⟨k + 1, by omega, by go_num, hb2, hown2⟩
          case measure => simp [intOf]; omega
        · obtain rfl : k = s.size := by omega
          have e : (nums s).take s.size = nums s := List.take_of_length_le (by rw [unhide HL]; exact Nat.le_refl _)
          rw [e] at hown
          obtain ⟨A, c, rfl, hc⟩ := own_form hown
          have hI : Ints wr w.heap.size (.slice A s.size c) (nums s) := Ints.of_own hown
          have H1 := hide (sisperm_any A s.size c _ (nums s) b (unhide HB) wr hI.reads hs hc)
          clear hown e
          cases b with
          | true =>
            have HR := hide (unhide HY (unhide HO))
            go_wp2_with fail
            refine (unhide H1).mono ?_
            rintro e w2 ⟨rfl, hd⟩
            have hb2 := below_after hbw (hd.below _)
            have hI2 := hI.below (hd.below _)
            rw [← unhide HR] at hI2
            clear hd H1 hI
            go_wp2
            go_ret2
            exact GivesIB.mk true hI2 hb2
          | false =>
            have HR := hide (unhide HN (unhide HO))
            go_wp2_with fail
            refine (unhide H1).mono ?_
            rintro e w2 ⟨rfl, hd⟩
            have hb2 := below_after hbw (hd.below _)
            have hst3 := Ints.made0 w2 w.heap.size hb2.size
            have hbel2 := hb2.alloc hb2.size (.cells #[] 3)
            clear hd H1 hI
            go_wp2
            go_ret2
            exact GivesIB.mk false (by rw [unhide HR]; exact hst3) hbel2

end Go.Proofs.Ytoiflglccbemeaa
