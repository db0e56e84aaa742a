
/-
  impl.SymmetryClass and impl.LeastSymmetry, by their contracts.
-/
import Derived.Test.YtkjjjnkgkgdfkaaOrdI
namespace Go.Proofs.Ytkjjjnkgkgdfkaa
set_option maxRecDepth 100000
open Go.RowKit

theorem imgs_small {zs : List Int} (h : isP zs = true) : ∀ z ∈ imgs zs 8, z.length ≤ 1048576 ∧ Small z := fun z hz => by
  have hz := allP_at (imgs_all h 8) hz
  have := isP_le hz
  exact ⟨by omega, isP_small hz⟩
set_option maxHeartbeats 800000 in
theorem icls_any (A : Option Addr) (n c B : Nat) (zs : List Int) (w : World) (h : Arg w B A n c zs) :
    Calls Try.prog 36 #[.slice A n c] w (GivesSS w (clsR zs)) := by
  obtain ⟨b, hb⟩ : ∃ b, isP zs = b := ⟨_, rfl⟩
  have H1 := hide (iisperm_any A n c B zs b hb w h.reads h.under h.le h.small)
  cases b with
  | false =>
    rw [clsR_no hb]
    clear hb h
    go_enter Try.func36, Try.ntmps36
    go_wp2_with fail
    refine (unhide H1).mono ?_
    rintro e w1 ⟨rfl, hb⟩
    clear H1
    go_wp2
    go_ret
    exact GivesSS.mk (IntsS.nil _ _) hb
  | true =>
    rw [clsR_yes hb]
    obtain ⟨i0, hi, hz0, hz1, hz2⟩ := info_parts rowsInfo1
    have HP := hide hb
    have H2 := hide (fun w' (hb' : Below w.heap.size w w') (k : Nat) (hk : k ≤ 7) => isym_yes A n c B zs k hk w' (h.below hb') hb)
    clear h hb
    go_enter Try.func36, Try.ntmps36
    go_wp2_with fail
    refine (unhide H1).mono ?_
    rintro e w0 ⟨rfl, hb0⟩
    have hs0 := hb0.size
    clear H1
    go_wp2_with (first
      | (at_make; refine wpList_make_full _ rfl (.const (.int .i64 8)) (.const (.int .i64 8)) 37 rfl w.heap.size 24 i0 (.slice none 0 0) 1 Try.underlying37 hi hz0 hz1 _ _ _ _ 8 rfl rfl (by first | rfl | omega) (by first | rfl | omega) (by rw [hz2]; omega) (by unfold maxLen; omega) hs0 ?_; intro w1 hown hg))
    have hF := Filled.start (zss := imgs zs 8) (imgs_length zs 8) hb0 hown hg
    clear hown hg hb0
    obtain ⟨g, hgw⟩ : ∃ g, g = w0.heap.size := ⟨_, rfl⟩
    rw [← hgw] at hF ⊢
    clear hgw hs0
    go_loopw [4, 11] (fun _ i wr => ∃ k : Nat, k ≤ 8 ∧ i = .int .i64 k ∧ Filled w wr g 8 (imgs zs 8) k) (fun _ i _ => 8 - (intOf i).toNat)
    case atStart => exact ⟨0, Nat.zero_le _, rfl, hF⟩
    case round =>
      obtain ⟨k, hk, rfl, hF⟩ := hrel
      by_cases hlt : k < 8
      · have H3 := hide (unhide H2 wr hF.below k (by omega))
        have HF := hide hF
        clear hF
        go_wp2_with fail
        refine (unhide H3).mono ?_
        rintro e w3 ⟨A3, c3, rfl, o3, d3⟩
        obtain ⟨⟨old, hold⟩, hfz⟩ := (unhide HF).old d3 hlt
        have hF2 := (unhide HF).put (imgs_at hlt) d3 o3
        clear H3 d3 o3 HF
        go_wp2
        go_roundw
        case rel => exact ⟨k + 1, by omega, by go_num, hF2⟩
        case measure => simp [intOf]; omega
      · obtain rfl : k = 8 := by omega
        obtain ⟨hbw, vs, hown, hin⟩ := hF
        have he : fillS (imgs zs 8) 8 = imgs zs 8 := by
          have := fillS_all (imgs zs 8)
          rwa [imgs_length] at this
        rw [he] at hin
        have hS : IntsS wr w.heap.size (.slice (some ⟨g, 0, none⟩) 8 8) (imgs zs 8) := ⟨vs, by rw [imgs_length]; exact hown, hin⟩
        have H4 := hide (iord_any _ 8 8 w.heap.size (imgs zs 8) wr hS (by omega) (imgs_small (unhide HP)))
        clear hown hin he hS H2
        go_wp2_with fail
        refine (unhide H4).mono ?_
        rintro e w4 ⟨A4, c4, rfl, o4, d4⟩
        have hb4 := below_after hbw d4
        have hfin := o4.low hbw.size
        clear H4 o4 d4 hbw
        go_wp2
        go_ret
        exact GivesSS.mk hfin hb4

theorem ileast_any (A : Option Addr) (n c B : Nat) (zs : List Int) (w : World) (h : Arg w B A n c zs) :
    Calls Try.prog 44 #[.slice A n c] w (GivesI w (leastR zs)) := by
  have H1 := hide (icls_any A n c B zs w h)
  have hle := clsR_len zs
  obtain ⟨r, hr⟩ : ∃ r, leastR zs = r := ⟨_, rfl⟩
  rw [hr]
  unfold leastR at hr
  generalize clsR zs = l at H1 hle hr
  clear h
  cases l with
  | nil =>
    obtain rfl : [] = r := hr
    go_enter Try.func44, Try.ntmps44
    go_wp2_with fail
    refine (unhide H1).mono ?_
    rintro e w2 ⟨A2, c2, rfl, o2, hb⟩
    clear H1 o2
    go_wp2
    go_ret
    exact GivesI.mk (v := .slice none 0 0) (Ints.nil _ _) hb
  | cons z l =>
    obtain rfl : z = r := hr
    go_enter Try.func44, Try.ntmps44
    go_wp2_with fail
    refine (unhide H1).mono ?_
    rintro e w2 ⟨A2, c2, rfl, o2, hb⟩
    obtain ⟨ad, A1, c1, z1, rfl, hz, hcell, hI⟩ := o2.at_ (show 0 < (z :: l).length by simp)
    simp at hz
    subst hz
    have hne : ((l.length : Int) + 1 == 0) = false := by simp; omega
    have hcell0 : w2.cell? ad = some (.slice A1 z.length c1) := by simpa [Addr.add] using hcell
    clear H1 o2 hcell
    go_wp2
    go_ret
    exact GivesI.mk hI hb
end Go.Proofs.Ytkjjjnkgkgdfkaa
