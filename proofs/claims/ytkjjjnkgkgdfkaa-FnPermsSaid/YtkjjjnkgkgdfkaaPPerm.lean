
/-
  spec.ParsePerm and impl.ParsePerm, by their contracts.
-/
import Derived.Test.YtkjjjnkgkgdfkaaPermS
import Derived.Test.YtkjjjnkgkgdfkaaIsPerm
import Derived.Test.YtkjjjnkgkgdfkaaPermT
namespace Go.Proofs.Ytkjjjnkgkgdfkaa
open Go.RowKit

theorem nums_take {s : ByteArray} {k : Nat} (h : k < s.size) : (nums s).take (k + 1) = (nums s).take k ++ [(s[k].toNat : Int) - 48] := take_snoc_i (nums_at h)
theorem own_cap {w : World} {base n c g : Nat} {xs : List Value} {e : TypeId} (h : w.ownsRow base e 1 (.slice (some ⟨g, 0, none⟩) n c) n xs) : n ≤ c := by
  rcases h.2 with ⟨h0, _⟩ | ⟨g', cap, cur, hv, _, _, hnc, _⟩
  · cases h0
  · injection hv with _ _ h3
    omega
theorem own_form {w : World} {base n : Nat} {v : Value} {xs : List Value} {e : TypeId} (h : w.ownsRow base e 1 v n xs) : ∃ A c, v = .slice A n c ∧ n ≤ c := by
  rcases h.2 with ⟨rfl, rfl⟩ | ⟨g, cap, cur, rfl, _, _, hnc, _⟩
  · exact ⟨none, 0, rfl, Nat.le_refl _⟩
  · exact ⟨_, _, rfl, hnc⟩

theorem not_dash {s : ByteArray} (h : s ≠ ⟨#[45]⟩) : (s.toList == [45]) = false := by
  rw [beq_eq_false_iff_ne]
  intro e
  rw [ByteArray.toList_eq] at e
  refine h (ByteArray.ext (Array.ext' ?_))
  exact e
theorem empty_list {s : ByteArray} (h : s.size = 0) : s.toList.isEmpty = true := by
  rw [ByteArray.toList_eq, List.isEmpty_iff_length_eq_zero, Array.length_toList]
  exact h
theorem nonempty_list {s : ByteArray} (h : ¬ s.size = 0) : s.toList.isEmpty = false := by
  rw [Bool.eq_false_iff]
  intro e
  rw [ByteArray.toList_eq, List.isEmpty_iff_length_eq_zero, Array.length_toList] at e
  exact h e

set_option maxHeartbeats 800000 in
theorem spp_any (s : ByteArray) (hs : s.size ≤ 1048576) (b : Bool) (hb : ppOK s = b) (w : World) :
    Calls Try.prog 17 #[.string s] w (GivesIB w (ppR s) b) := by
  obtain ⟨i0, hi, hz0, hz1, hz2⟩ := info_parts intInfo
  have hst := own0 w w.heap.size (Nat.le_refl _)
  have hst2 := Ints.made0 w w.heap.size (Nat.le_refl _)
  have hbel := (Below.refl w.heap.size w).alloc (Nat.le_refl _) (.cells #[] 3)
  by_cases hd : s = ⟨#[45]⟩
  · subst hd
    obtain rfl : b = true := hb.symm.trans ppOK_dash
    rw [ppR_dash]
    clear hb hs hst
    go_enter Try.func17, Try.ntmps17
    go_wp2
    go_ret2
    exact GivesIB.mk true hst2 hbel
  · have hd' := not_dash hd
    by_cases h0 : s.size = 0
    · have hno := ppOK_none hd h0
      obtain rfl : b = false := hb.symm.trans hno
      have HR := hide (ppR_no hd hno)
      have he := empty_list h0
      have HZ := hide h0
      clear hb hs hst hd hno h0
      have hz0 : s.size ≤ 0 := by rw [unhide HZ]; exact Nat.le_refl _
      go_enter Try.func17, Try.ntmps17
      go_wp2
      go_loopw [4, 5] (fun v i wr => i = .int .i64 0 ∧ wr = w.alloc (.cells #[] 3)) (fun _ _ _ => 0)
      case atStart => exact ⟨rfl, rfl⟩
      case round =>
        obtain ⟨rfl, rfl⟩ := hrel
        have hst3 := Ints.made0 (w.alloc (.cells #[] 3)) w.heap.size (by simp)
        rw [show (w.alloc (.cells #[] 3)).heap.size = w.heap.size + 1 by simp] at hst3
        have hbel2 := hbel.alloc hbel.size (.cells #[] 3)
        have hz : ¬ 0 < s.size := by omega
        go_wp2
        go_ret2
        exact GivesIB.mk false (by rw [unhide HR]; exact hst3) hbel2
    · have hp := ppOK_else hd (by omega)
      have he := nonempty_list h0
      have he2 : ¬ s.toList = [] := fun e => by rw [e] at he; cases he
      have hlen := nums_length s
      have HB := hide (hp.symm.trans hb)
      have HY := hide (fun (h : ppOK s = true) => ppR_yes hd h)
      have HN := hide (fun (h : ppOK s = false) => ppR_no hd h)
      have HL := hide hlen
      have HO := hide hb
      clear hb hd hp hlen hst2
      go_enter Try.func17, Try.ntmps17
      go_wp2
      go_loopw [4, 5] (fun v i wr => ∃ k : Nat, k ≤ s.size ∧ i = .int .i64 k ∧ Below w.heap.size w wr ∧ wr.ownsRow w.heap.size 3 1 v k (i64s ((nums s).take k))) (fun _ i _ => s.size - (intOf i).toNat)
      case atStart => exact ⟨0, Nat.zero_le _, rfl, hbel, hst⟩
      case round =>
        obtain ⟨k, hk, rfl, hbw, hown⟩ := hrel
        clear hst hbel
        by_cases hlt : k < s.size
        · have e : i64s ((nums s).take k) ++ [.int .i64 ((s[k].toNat : Int) - 48)] = i64s ((nums s).take (k + 1)) := by rw [nums_take hlt]; unfold i64s; simp
          have HE := hide e
          have hby := s[k].toNat_lt
          clear e
          go_wp2_with (first
            | (at_builtin; refine wpList_append_one rfl (.tmp 16) (.tmp 22) 24 rfl w.heap.size 3 i0 (.int .i64 0) 8 Try.underlying24 hi hz0 hz1 hz2 rfl w wr _ _ _ rfl hown (.int .i64 ((s[k].toNat : Int) - 48)) rfl rfl rfl (by omega) (by simp only [maxLen]; omega) hbw hbw.size ?_; intro v2 w2 hown2 hb2 hg2; clear hg2))
          rw [unhide HE] at hown2
          clear hown hbw HE
          go_roundw
          case rel => exact ⟨k + 1, by omega, by go_num, hb2, hown2⟩
          case measure => simp [intOf]; omega
        · obtain rfl : k = s.size := by omega
          have e : (nums s).take s.size = nums s := List.take_of_length_le (by rw [unhide HL]; exact Nat.le_refl _)
          rw [e] at hown
          obtain ⟨A, c, rfl, hc⟩ := own_form hown
          have hI : Ints wr w.heap.size (.slice A s.size c) (nums s) := Ints.of_own hown
          have H1 := hide (sisperm_any A s.size c _ (nums s) b (unhide HB) wr hI.reads hs hc)
          clear hown e
          cases b with
          | true =>
            have HR := hide (unhide HY (unhide HO))
            go_wp2_with fail
            refine (unhide H1).mono ?_
            rintro e w2 ⟨rfl, hd⟩
            have hb2 := below_after hbw (hd.below _)
            have hI2 := hI.below (hd.below _)
            rw [← unhide HR] at hI2
            clear hd H1 hI
            go_wp2
            go_ret2
            exact GivesIB.mk true hI2 hb2
          | false =>
            have HR := hide (unhide HN (unhide HO))
            go_wp2_with fail
            refine (unhide H1).mono ?_
            rintro e w2 ⟨rfl, hd⟩
            have hb2 := below_after hbw (hd.below _)
            have hst3 := Ints.made0 w2 w.heap.size hb2.size
            have hbel2 := hb2.alloc hb2.size (.cells #[] 3)
            clear hd H1 hI
            go_wp2
            go_ret2
            exact GivesIB.mk false (by rw [unhide HR]; exact hst3) hbel2

set_option maxHeartbeats 800000 in
theorem ipp_any (s : ByteArray) (hs : s.size ≤ 1048576) (b : Bool) (hb : ppOK s = b) (w : World) :
    Calls Try.prog 16 #[.string s] w (GivesIB w (ppR s) b) := by
  obtain ⟨i0, hi, hz0, hz1, hz2⟩ := info_parts intInfo
  have hst2 := Ints.made0 w w.heap.size (Nat.le_refl _)
  have hbel := (Below.refl w.heap.size w).alloc (Nat.le_refl _) (.cells #[] 3)
  by_cases hd : s = ⟨#[45]⟩
  · subst hd
    obtain rfl : b = true := hb.symm.trans ppOK_dash
    rw [ppR_dash]
    clear hb hs
    go_enter Try.func16, Try.ntmps16
    go_wp2
    go_ret2
    exact GivesIB.mk true hst2 hbel
  · have hd' := not_dash hd
    by_cases h0 : s.size = 0
    · have hno := ppOK_none hd h0
      obtain rfl : b = false := hb.symm.trans hno
      rw [ppR_no hd hno]
      have he := empty_list h0
      clear hb hs hd hno h0 hst2
      go_enter Try.func16, Try.ntmps16
      go_wp2
      go_ret2
      exact GivesIB.mk (v := .slice none 0 0) false (Ints.nil _ _) (Below.refl _ _)
    · have hp := ppOK_else hd (by omega)
      have he := nonempty_list h0
      have he2 : ¬ s.toList = [] := fun e => by rw [e] at he; cases he
      have hlen := nums_length s
      by_cases h8 : s.size ≤ 8
      · have h8b : decide ((8 : Int) < (s.size : Int)) = false := by simp; omega
        have HB := hide (hp.symm.trans hb)
        have HY := hide (fun (h : ppOK s = true) => ppR_yes hd h)
        have HN := hide (fun (h : ppOK s = false) => ppR_no hd h)
        have HL := hide hlen
        have HO := hide hb
        clear hb hd hp hlen hst2 hbel
        go_enter Try.func16, Try.ntmps16
        go_wp2_with (first
          | (at_make; refine wpList_make_full _ rfl (.tmp 17) (.tmp 17) 24 rfl w.heap.size 3 i0 (.int .i64 0) 1 Try.underlying24 hi hz0 hz1 _ _ _ _ s.size rfl rfl (by first | rfl | omega) (by first | rfl | omega) (by rw [hz2]; omega) (by unfold maxLen; omega) (Nat.le_refl _) ?_; intro w1 hown hg))
        have hb1 := (Below.refl w.heap.size w).grown hg (Nat.le_refl _) (by simp)
        clear hg
        go_loopw [5, 21] (fun _ i wr => ∃ (k : Nat) (xs : List Value), k ≤ s.size ∧ i = .int .i64 k ∧ Below w.heap.size w wr ∧ wr.ownsRow w.heap.size 3 1 (.slice (some ⟨w.heap.size, 0, none⟩) s.size s.size) s.size xs ∧ Hid (xs.take k = (i64s (nums s)).take k)) (fun _ i _ => s.size - (intOf i).toNat)
        case atStart => exact ⟨0, _, Nat.zero_le _, rfl, hb1, hown, by exact rfl⟩
        case round =>
          obtain ⟨k, xs, hk, rfl, hb, hown', hx⟩ := hrel
          clear hown hb1
          have hlx : xs.length = s.size := by simpa using hown'.1
          by_cases hlt : k < s.size
          · obtain ⟨old, hold⟩ : ∃ old, wr.cell? ⟨w.heap.size, k, none⟩ = some old := ⟨_, by rw [hown'.cellAt k (by omega)]; exact List.getElem?_eq_getElem (by omega)⟩
            have hfz := hown'.frozenAt k
            have hst := hide (take_set_i (unhide hx) (i64_get (nums_at hlt)) (by omega))
            have ho2 := (hown'.stored k (.int .i64 ((s[k].toNat : Int) - 48))).1
            have hb2 := below_set_i hb hown' k (.int .i64 ((s[k].toNat : Int) - 48))
            have hby := s[k].toNat_lt
            clear hx hlx hown' hb
            go_wp2
            go_roundw
            case rel => exact ⟨k + 1, _, by omega, by go_num, hb2, ho2, hst⟩
            case measure => simp [intOf]; omega
          · obtain rfl : k = s.size := by omega
            have : xs = i64s (nums s) := by
              have h := unhide hx
              rwa [List.take_of_length_le (by omega), List.take_of_length_le (by rw [i64_length, unhide HL]; exact Nat.le_refl _)] at h
            subst this
            have hI : Ints wr w.heap.size (.slice (some ⟨w.heap.size, 0, none⟩) s.size s.size) (nums s) := Ints.of_own hown'
            have hsm : Small (nums s) := fun x hx => by
              have := nums_small x hx
              omega
            have H4 := hide (iisperm_any _ s.size s.size _ (nums s) b (unhide HB) wr hI.reads (Nat.le_refl _) (by omega) hsm)
            clear hx hlx hown' hsm
            cases b with
            | true =>
              have HR := hide (unhide HY (unhide HO))
              go_wp2_with fail
              refine (unhide H4).mono ?_
              rintro e w2 ⟨rfl, hb2⟩
              have hI2 := hI.below hb2
              rw [← unhide HR] at hI2
              clear H4
              go_wp2
              go_ret2
              exact GivesIB.mk true hI2 (below_after hb hb2)
            | false =>
              have HR := hide (unhide HN (unhide HO))
              go_wp2_with fail
              refine (unhide H4).mono ?_
              rintro e w2 ⟨rfl, hb2⟩
              clear H4
              go_wp2
              go_ret2
              exact GivesIB.mk (v := .slice none 0 0) false (by rw [unhide HR]; exact Ints.nil _ _) (below_after hb hb2)
      · have hno : ppOK s = false := by rw [hp]; exact isP_long (by omega)
        obtain rfl : b = false := hb.symm.trans hno
        rw [ppR_no hd hno]
        have h8b : decide ((8 : Int) < (s.size : Int)) = true := by simp; omega
        have h8' : 8 < s.size := by omega
        clear hb hd hp hlen hno hst2
        go_enter Try.func16, Try.ntmps16
        go_wp2
        go_ret2
        exact GivesIB.mk (v := .slice none 0 0) false (Ints.nil _ _) (Below.refl _ _)
end Go.Proofs.Ytkjjjnkgkgdfkaa
