
/-
  spec.InversePerm and impl.InversePerm, by their contracts.
-/
import Derived.Test.YtkjjjnkgkgdfkaaPermS
import Derived.Test.YtkjjjnkgkgdfkaaIsPerm
import Derived.Test.YtkjjjnkgkgdfkaaPermF
import Derived.Outline
namespace Go.Proofs.Ytkjjjnkgkgdfkaa
open Go.RowKit

set_option maxHeartbeats 400000 in
theorem l2inv_any (A : Option Addr) (n c B : Nat) (zs : List Int) (w : World) (h : Arg w B A n c zs) (hp : isP zs = true) :
    Calls Try.prog 53 #[.slice A n c] w (GivesI w (invFill zs zs.length)) := by
  obtain ⟨i0, hi, hz0, hz1, hz2⟩ := info_parts intInfo
  have hl := h.len
  have hr := h.reads
  have hB := h.under
  have hn8 : n ≤ 8 := by have := isP_le hp; omega
  have HL := hide hl
  have HP := hide (fun k z hz => isP_range hp (k := k) (z := z) hz)
  clear hl h hp
  go_enter Try.func53, Try.ntmps53
  go_wp2_with (first
    | (at_make; refine wpList_make_full _ rfl (.tmp 6) (.tmp 6) 24 rfl w.heap.size 3 i0 (.int .i64 0) 1 Try.underlying24 hi hz0 hz1 _ _ _ _ n rfl rfl (by first | rfl | omega) (by first | rfl | omega) (by rw [hz2]; omega) (by unfold maxLen; omega) (Nat.le_refl _) ?_; intro w1 hown hg))
  have hb1 := (Below.refl _ _).grown hg (Nat.le_refl _) (by simp)
  clear hg
  go_loopw [4] (fun i wr => ∃ k : Nat, k ≤ n ∧ i = .int .i64 k ∧ Below w.heap.size w wr ∧ wr.ownsRow w.heap.size 3 1 (.slice (some ⟨w.heap.size, 0, none⟩) n n) n (i64s (invFill zs k))) (fun i _ => n - (intOf i).toNat)
  case atStart =>
    refine ⟨0, Nat.zero_le _, rfl, hb1, ?_⟩
    rw [invFill, unhide HL, ← made_zeros]
    exact hown
  case round =>
    obtain ⟨k, hk, rfl, hb, hown'⟩ := hrel
    clear hown hb1
    by_cases hlt : k < n
    · obtain ⟨ad, u, rfl, had, hu, hc⟩ := ((hr.more hB).below hb).at_ hlt
      obtain ⟨z, hz, rfl⟩ := i64_at hu
      obtain ⟨hz1', hz2'⟩ := unhide HP k z hz
      rw [unhide HL] at hz2'
      have hzn : z.toNat - 1 < n := by omega
      obtain ⟨old, hold⟩ : ∃ old, wr.cell? ⟨w.heap.size, z.toNat - 1, none⟩ = some old := ⟨_, by rw [hown'.cellAt (z.toNat - 1) (by omega)]; exact List.getElem?_eq_getElem (by rw [i64_length, invFill_length, unhide HL]; exact hzn)⟩
      have hfz := hown'.frozenAt (z.toNat - 1)
      have ho2 := (hown'.stored (z.toNat - 1) (.int .i64 ((k : Int) + 1))).1
      have hb2 := below_set_i hb hown' (z.toNat - 1) (.int .i64 ((k : Int) + 1))
      have e : (i64s (invFill zs k)).set (z.toNat - 1) (.int .i64 ((k : Int) + 1)) = i64s (invFill zs (k + 1)) := by
        rw [← invFill_step hz]; unfold i64s; rw [List.map_set]
      rw [e] at ho2
      clear e hu hz hown' hb
      go_wp2
      go_roundw
      case rel => exact ⟨k + 1, by omega, by go_num, hb2, ho2⟩
      case measure => simp [intOf]; omega
    · obtain rfl : n = k := by omega
      have hI : Ints wr w.heap.size (.slice (some ⟨w.heap.size, 0, none⟩) n n) (invFill zs zs.length) := by rw [unhide HL]; exact Ints.of_own hown'
      clear hown'
      go_wp2
      go_ret
      exact GivesI.mk hI hb
theorem sinv_any (A : Option Addr) (n c B : Nat) (zs : List Int) (b : Bool) (hb : isP zs = b) (w : World) (h : Arg w B A n c zs) :
    Calls Try.prog 8 #[.slice A n c] w (GivesIB w (invR zs) b) := by
  have H1 := hide (sisperm_any A n c B zs b hb w h.reads h.le h.cap)
  cases b with
  | false =>
    rw [invR_no hb]
    clear hb h
    go_enter Try.func8, Try.ntmps8
    go_wp2_with fail
    refine (unhide H1).mono ?_
    rintro e w1 ⟨rfl, hd⟩
    have hb := hd.below w.heap.size
    clear hd H1
    go_wp2
    go_ret2
    exact GivesIB.mk false (Ints.made0 w1 w.heap.size hb.size) (hb.alloc hb.size _)
  | true =>
    rw [invR_yes hb]
    have H2 := hide (fun w' (hb' : Below w.heap.size w w') => l2inv_any A n c B zs w' (h.below hb') hb)
    clear hb h
    go_enter Try.func8, Try.ntmps8
    go_wp2_with fail
    refine (unhide H1).mono ?_
    rintro e w1 ⟨rfl, hd⟩
    have hb := hd.below w.heap.size
    have H3 := hide (unhide H2 w1 hb)
    clear hd H1 H2
    go_wp2_with fail
    refine (unhide H3).mono ?_
    rintro e w2 ⟨A2, c2, rfl, own2, hb2⟩
    clear H3
    go_wp2
    go_ret2
    exact GivesIB.mk true (own2.low hb.size) (below_after hb hb2)
set_option maxHeartbeats 400000 in
theorem iinv_any (A : Option Addr) (n c B : Nat) (zs : List Int) (b : Bool) (hb : isP zs = b) (w : World) (h : Arg w B A n c zs) :
    Calls Try.prog 7 #[.slice A n c] w (GivesIB w (invR zs) b) := by
  have H1 := hide (iisperm_any A n c B zs b hb w h.reads h.under h.le h.small)
  cases b with
  | false =>
    rw [invR_no hb]
    clear hb h
    go_enter Try.func7, Try.ntmps7
    go_wp2_with fail
    refine (unhide H1).mono ?_
    rintro e w1 ⟨rfl, hb⟩
    clear H1
    go_wp2
    go_ret2
    exact GivesIB.mk (v := .slice none 0 0) false (Ints.nil _ _) hb
  | true =>
    rw [invR_yes hb]
    obtain ⟨i0, hi, hz0, hz1, hz2⟩ := info_parts intInfo
    have hl := h.len
    have hr := h.reads
    have hB := h.under
    have hn8 : n ≤ 8 := by have := isP_le hb; omega
    have HL := hide hl
    have HP := hide (fun k z hz => isP_range hb (k := k) (z := z) hz)
    clear hl h hb
    go_enter Try.func7, Try.ntmps7
    go_wp2_with fail
    refine (unhide H1).mono ?_
    rintro e w0 ⟨rfl, hb0⟩
    have hs0 := hb0.size
    clear H1
    go_wp2_with (first
      | (at_make; refine wpList_make_full _ rfl (.tmp 11) (.tmp 11) 24 rfl w.heap.size 3 i0 (.int .i64 0) 1 Try.underlying24 hi hz0 hz1 _ _ _ _ n rfl rfl (by first | rfl | omega) (by first | rfl | omega) (by rw [hz2]; omega) (by unfold maxLen; omega) hs0 ?_; intro w1 hown hg))
    have hb1 := hb0.grown hg hs0 (by simp)
    clear hg hb0
    obtain ⟨g, hg⟩ : ∃ g, g = w0.heap.size := ⟨_, rfl⟩
    rw [← hg] at hown ⊢
    clear hg hs0
    go_loopw [5, 6, 15] (fun _ _ i wr => ∃ k : Nat, k ≤ n ∧ i = .int .i64 k ∧ Below w.heap.size w wr ∧ wr.ownsRow w.heap.size 3 1 (.slice (some ⟨g, 0, none⟩) n n) n (i64s (invFill zs k))) (fun _ _ i _ => n - (intOf i).toNat)
    case atStart =>
      refine ⟨0, Nat.zero_le _, rfl, hb1, ?_⟩
      rw [invFill, unhide HL, ← made_zeros]
      exact hown
    case round =>
      obtain ⟨k, hk, rfl, hb, hown'⟩ := hrel
      clear hown hb1
      by_cases hlt : k < n
      · obtain ⟨ad, u, rfl, had, hu, hc⟩ := ((hr.more hB).below hb).at_ hlt
        obtain ⟨z, hz, rfl⟩ := i64_at hu
        obtain ⟨hz1', hz2'⟩ := unhide HP k z hz
        rw [unhide HL] at hz2'
        have hzn : z.toNat - 1 < n := by omega
        obtain ⟨old, hold⟩ : ∃ old, wr.cell? ⟨g, z.toNat - 1, none⟩ = some old := ⟨_, by rw [hown'.cellAt (z.toNat - 1) (by omega)]; exact List.getElem?_eq_getElem (by rw [i64_length, invFill_length, unhide HL]; exact hzn)⟩
        have hfz := hown'.frozenAt (z.toNat - 1)
        have ho2 := (hown'.stored (z.toNat - 1) (.int .i64 ((k : Int) + 1))).1
        have hb2 := below_set_i hb hown' (z.toNat - 1) (.int .i64 ((k : Int) + 1))
        have e : (i64s (invFill zs k)).set (z.toNat - 1) (.int .i64 ((k : Int) + 1)) = i64s (invFill zs (k + 1)) := by
          rw [← invFill_step hz]; unfold i64s; rw [List.map_set]
        rw [e] at ho2
        clear e hu hz hown' hb
        go_wp2
        go_roundw
        case rel => exact ⟨k + 1, by omega, by go_num, hb2, ho2⟩
        case measure => simp [intOf]; omega
      · obtain rfl : n = k := by omega
        have hI : Ints wr w.heap.size (.slice (some ⟨g, 0, none⟩) n n) (invFill zs zs.length) := by rw [unhide HL]; exact Ints.of_own hown'
        clear hown'
        go_wp2
        go_ret2
        exact GivesIB.mk true hI hb
end Go.Proofs.Ytkjjjnkgkgdfkaa
