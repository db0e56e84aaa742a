
/-
  spec.PermsOf and impl.PermsOf, by their contracts.
-/
import Derived.Test.YtkjjjnkgkgdfkaaPermS
import Derived.Test.YtkjjjnkgkgdfkaaIntsS
namespace Go.Proofs.Ytkjjjnkgkgdfkaa
set_option maxRecDepth 100000
open Go.RowKit

theorem own_head {w : World} {base n : Nat} {v : Value} {xs : List Value} {e : TypeId} (h : w.ownsRow base e 1 v n xs) (hn : 0 < n) : ∃ g c, v = .slice (some ⟨g, 0, none⟩) n c := by
  rcases h.2 with ⟨_, h0⟩ | ⟨g, cap, cur, rfl, _⟩
  · omega
  · exact ⟨g, cap, rfl⟩

set_option maxHeartbeats 400000 in
theorem behind_any (f : Int) (A : Option Addr) (n c B : Nat) (r : List Int) (w : World) (hr : Reads w B A n (i64s r)) (hB : B ≤ w.heap.size) (hn : n ≤ 8) (hx : ∀ x ∈ r, 1 ≤ x ∧ x ≤ 6) :
    Calls Try.prog 64 #[.int .i64 f, .slice A n c] w (GivesI w (behind f r)) := by
  obtain ⟨i0, hi, hz0, hz1, hz2⟩ := info_parts intInfo
  have HL := hide hr.len
  have HX := hide (fun k z (hz : r[k]? = some z) => hx z (List.mem_of_getElem? hz))
  clear hx
  go_enter Try.func64, Try.ntmps64
  go_wp2_with (first
    | (at_make; refine wpList_make_own _ rfl (.const (.int .i64 0)) (.tmp 10) 24 rfl w.heap.size 3 i0 (.int .i64 0) 1 Try.underlying24 hi hz0 hz1 .i64 .i64 _ (n + 1) rfl rfl (by omega) (by rw [hz2]; omega) (by unfold maxLen; omega) (Nat.le_refl _) ?_; intro w1 hown1 hg1; have hb1 := (Below.refl w.heap.size w).grown hg1 (Nat.le_refl _) (by simp); clear hg1)
    | (at_builtin; refine wpList_append_one rfl (.tmp 12) (.tmp 14) 24 rfl w.heap.size 3 i0 (.int .i64 0) 8 Try.underlying24 hi hz0 hz1 hz2 rfl w w1 _ _ _ rfl hown1 (.int .i64 f) rfl rfl rfl (by omega) (by simp only [maxLen]; omega) hb1 hb1.size ?_; intro v2 w2 hown2 hb2 hg2; clear hg2))
  clear hown1 hb1
  go_loopw [5, 7, 18] (fun v _ i wr => ∃ k : Nat, k ≤ n ∧ i = .int .i64 k ∧ Below w.heap.size w wr ∧ wr.ownsRow w.heap.size 3 1 v (k + 1) (i64s (f :: (r.take k).map (up f)))) (fun _ _ i _ => n - (intOf i).toNat)
  case atStart => exact ⟨0, Nat.zero_le _, rfl, hb2, hown2⟩
  case round =>
    obtain ⟨k, hk, rfl, hb, hown⟩ := hrel
    clear hown2 hb2
    by_cases hlt : k < n
    · obtain ⟨ad, u, rfl, _, hu, hc⟩ := ((hr.more hB).below hb).at_ hlt
      obtain ⟨z, hz, rfl⟩ := i64_at hu
      obtain ⟨hz3, hz4⟩ := unhide HX k z hz
      have hst := behind_step (f := f) hz
      have e : i64s (f :: (r.take k).map (up f)) ++ [.int .i64 (up f z)] = i64s (f :: (r.take (k + 1)).map (up f)) := by rw [hst]; unfold i64s; simp
      clear hst hu hz
      by_cases hfz : f ≤ z
      · rw [up_yes hfz] at e
        have HE := hide e
        clear e
        go_wp2_with (first
          | (at_builtin; refine wpList_append_one rfl (.tmp 27) (.tmp 29) 24 rfl w.heap.size 3 i0 (.int .i64 0) 8 Try.underlying24 hi hz0 hz1 hz2 rfl w wr _ _ _ rfl hown (.int .i64 (z + 1)) rfl rfl rfl (by omega) (by simp only [maxLen]; omega) hb hb.size ?_; intro v3 w3 hown3 hb3 hg3; clear hg3))
        rw [unhide HE] at hown3
        clear hown hb HE
        go_roundw
        case rel => exact ⟨k + 1, by omega, by go_num, hb3, hown3⟩
        case measure => simp [intOf]; omega
      · have hfz' : z < f := by omega
        rw [up_no hfz'] at e
        have HE := hide e
        clear e
        go_wp2_with (first
          | (at_builtin; refine wpList_append_one rfl (.tmp 27) (.tmp 29) 24 rfl w.heap.size 3 i0 (.int .i64 0) 8 Try.underlying24 hi hz0 hz1 hz2 rfl w wr _ _ _ rfl hown (.int .i64 z) rfl rfl rfl (by omega) (by simp only [maxLen]; omega) hb hb.size ?_; intro v3 w3 hown3 hb3 hg3; clear hg3))
        rw [unhide HE] at hown3
        clear hown hb HE
        go_roundw
        case rel => exact ⟨k + 1, by omega, by go_num, hb3, hown3⟩
        case measure => simp [intOf]; omega
    · obtain rfl : n = k := by omega
      have e : r.take n = r := List.take_of_length_le (by rw [unhide HL]; exact Nat.le_refl _)
      rw [e] at hown
      have hI : Ints wr w.heap.size u5 (behind f r) := Ints.of_own hown
      clear hown e
      go_wp2
      go_ret
      exact GivesI.mk hI hb

theorem IntsS.push {w : World} {B : Nat} {v : Value} {vs : List Value} {zss : List (List Int)} {u : Value} {zs : List Int} {n : Nat} (hn : n = zss.length) (hown : w.ownsRow B 24 1 v (n + 1) (vs ++ [u])) (hin : Inner w B (vs ++ [u]) (zss ++ [zs])) : IntsS w B v (zss ++ [zs]) := by
  subst hn
  refine ⟨vs ++ [u], ?_, hin⟩
  rw [List.length_append]
  exact hown

set_option maxHeartbeats 1600000 in
theorem iperms_step (n : Nat) (hn : n + 1 ≤ 6) (IH : ∀ w, Calls Try.prog 24 #[.int .i64 (n : Int)] w (GivesSS w (permL n))) (w : World) :
    Calls Try.prog 24 #[.int .i64 ((n : Int) + 1)] w (GivesSS w (permL (n + 1))) := by
  obtain ⟨i0, hi, hz0, hz1, hz2⟩ := info_parts rowsInfo
  have hL := (permL_small n (by omega)).1
  have HR := hide (fun i r (h : (permL n)[i]? = some r) => permL_rows n (by omega) r (List.mem_of_getElem? h))
  have HI := hide IH
  clear IH
  go_enter Try.func24, Try.ntmps24
  go_wp2_with fail
  refine (unhide HI _).mono ?_
  rintro e w1 ⟨A1, c1, rfl, hR, hb1⟩
  have hrest := hide hR
  have hs1 := hb1.size
  clear HI hR
  obtain ⟨L, hLL⟩ : ∃ L, L = (permL n).length := ⟨_, rfl⟩
  rw [← hLL] at hL hrest ⊢
  have HLL := hide hLL
  clear hLL
  go_wp2
  go_loopw [3, 5, 7, 28] (fun o i _ _ wr => ∃ j : Nat, j ≤ n + 1 ∧ i = .int .i64 ((j : Int) + 1) ∧ Below w1.heap.size w1 wr ∧ IntsS wr w1.heap.size o (permK n j)) (fun _ i _ _ _ => n + 2 - (intOf i).toNat)
  case atStart => exact ⟨0, Nat.zero_le _, rfl, Below.refl _ _, IntsS.nil _ _⟩
  case round =>
    obtain ⟨j, hj, rfl, hb, hall⟩ := hrel
    by_cases hlt : j < n + 1
    · have hlt' : (j : Int) + 1 ≤ (n : Int) + 1 := by omega
      have hall' := hide hall
      clear hall
      obtain ⟨wo, rfl⟩ : ∃ wo : World, wo = wr := ⟨_, rfl⟩
      go_wp2
      go_loopw [3, 7, 28] (fun o _ i wi => ∃ k : Nat, k ≤ L ∧ i = .int .i64 k ∧ Below w1.heap.size w1 wi ∧ IntsS wi w1.heap.size o (permI n j k)) (fun _ _ i _ => L - (intOf i).toNat)
      case atStart => exact ⟨0, Nat.zero_le _, rfl, hb, by rw [permI_zero]; exact unhide hall'⟩
      case round =>
        obtain ⟨k, hk, rfl, hbi, hal⟩ := hrel
        clear hall' hb
        by_cases hkt : k < L
        · obtain ⟨ad, A2, c2, r, rfl, hr, hc, hI⟩ := ((unhide hrest).stay hbi (Nat.le_refl _)).at_ hkt
          have hrow := unhide HR k r hr
          have H1 := hide (behind_any ((j : Int) + 1) A2 r.length c2 wr.heap.size r wr hI.reads (Nat.le_refl _) (by omega) hrow.2)
          obtain ⟨vs, hown, hin⟩ := hal
          have hlen : (permI n j k).length ≤ 5040 := by
            rw [permI_length n j k (by rw [← unhide HLL]; exact hk), ← unhide HLL]
            have := Nat.mul_le_mul (show j ≤ 6 by omega) hL
            omega
          have hstep := hide (permI_step (j := j) hr)
          have hrl : r.length ≤ 6 := by omega
          have Hin := hide hin
          have Hown := hide hown
          have hsi := hbi.size
          clear hr hrow hI hin hown
          go_wp2_with fail
          refine (unhide H1).mono ?_
          rintro e w2 ⟨A3, c3, rfl, own3, b3⟩
          have hown2 := own_below (unhide Hown) b3
          have hb2 := hbi.trans (b3.mono hsi)
          have Own3 := hide own3
          have B3 := hide b3
          clear H1 own3 b3 hbi
          go_wp2_with (first
            | (at_builtin; refine wpList_append_one rfl (.tmp 32) (.tmp 36) 37 rfl w1.heap.size 24 i0 (.slice none 0 0) 24 Try.underlying37 hi hz0 hz1 hz2 rfl w1 w2 _ _ _ rfl hown2 (.slice A3 (behind ((j : Int) + 1) r).length c3) rfl rfl rfl (by omega) (by simp only [maxLen]; omega) hb2 hb2.size ?_; intro v4 w4 hown4 hb4 hg4))
          have hk4 := KeepI.of_grown hown2 hg4
          have hin4 := (((unhide Hin).keepI (KeepI.of_below (unhide B3))).keepI hk4).push (((unhide Own3).low hsi).keepI hk4) ((unhide Hin).away_new (unhide Own3).since (Nat.le_refl _))
          have hnext : IntsS w4 w1.heap.size v4 (permI n j (k + 1)) := by rw [unhide hstep]; exact IntsS.push rfl hown4 hin4
          clear hk4 hin4 hown4 hg4 hown2 hb2
          go_roundw
          case rel => exact ⟨k + 1, by omega, by go_num, hb4, hnext⟩
          case measure => simp [intOf]; omega
        · obtain rfl : L = k := by omega
          rw [unhide HLL, permI_all] at hal
          go_wp2
          go_roundw
          case rel => exact ⟨j + 1, by omega, by go_num, hbi, hal⟩
          case measure => simp [intOf]; omega
    · obtain rfl : j = n + 1 := by omega
      have hlt' : ¬ (((n + 1 : Nat) : Int) + 1 ≤ (n : Int) + 1) := by omega
      have hbe := below_after hb1 hb
      have hfin := hall.low hs1
      rw [permK_all] at hfin
      clear hall hb hb1
      go_wp2
      go_ret
      exact GivesSS.mk hfin hbe

theorem iperms_zero (w : World) : Calls Try.prog 24 #[.int .i64 0] w (GivesSS w (permL 0)) := by
  go_enter Try.func24, Try.ntmps24
  go_wp2
  go_ret
  have hI := (Ints.made0 w w.heap.size (Nat.le_refl _)).below (w' := (w.alloc (.cells #[] 3)).alloc (.cells #[.slice (some ⟨w.heap.size, 0, none⟩) 0 0] 24)) ((Below.refl _ _).alloc (Nat.le_refl _) _)
  have hown : ((w.alloc (.cells #[] 3)).alloc (.cells #[.slice (some ⟨w.heap.size, 0, none⟩) 0 0] 24)).ownsRow w.heap.size 24 1 (.slice (some ⟨w.heap.size + 1, 0, none⟩) 1 1) 1 [.slice (some ⟨w.heap.size, 0, none⟩) 0 0] := by
    refine ⟨rfl, .inr ⟨w.heap.size + 1, 1, #[.slice (some ⟨w.heap.size, 0, none⟩) 0 0], rfl, by omega, ?_, Nat.le_refl _, by unfold maxLen; omega, rfl, rfl⟩⟩
    have := heap_alloc_new (w.alloc (.cells #[] 3)) (.cells #[.slice (some ⟨w.heap.size, 0, none⟩) 0 0] 24)
    rwa [show (w.alloc (.cells #[] 3)).heap.size = w.heap.size + 1 by simp] at this
  have hin : Inner ((w.alloc (.cells #[] 3)).alloc (.cells #[.slice (some ⟨w.heap.size, 0, none⟩) 0 0] 24)) w.heap.size [.slice (some ⟨w.heap.size, 0, none⟩) 0 0] (permL 0) :=
    (Inner.nil _ _).push hI (fun x hx => by simp at hx)
  exact GivesSS.mk ⟨_, hown, hin⟩ (((Below.refl _ _).alloc (Nat.le_refl _) _).alloc (by simp) _)

theorem iperms_in : ∀ (n : Nat), n ≤ 6 → ∀ w, Calls Try.prog 24 #[.int .i64 (n : Int)] w (GivesSS w (permL n))
  | 0, _ => fun w => iperms_zero w
  | n + 1, hn => fun w => by
    have h := iperms_step n hn (iperms_in n (by omega)) w
    rw [show (((n + 1 : Nat) : Int)) = (n : Int) + 1 by omega]
    exact h
theorem iperms_any (m : Int) (hm : -9223372036854775808 ≤ m ∧ m ≤ 9223372036854775807) (w : World) :
    Calls Try.prog 24 #[.int .i64 m] w (GivesSS w (permsR m)) := by
  by_cases h0 : 0 ≤ m
  · by_cases h6 : m ≤ 6
    · obtain ⟨n, rfl⟩ : ∃ n : Nat, m = (n : Int) := ⟨m.toNat, by omega⟩
      rw [permsR_yes (by omega)]
      exact iperms_in n (by omega) w
    · rw [permsR_no (by omega)]
      have h0' : ¬ m < 0 := by omega
      have h6' : 6 < m := by omega
      obtain ⟨hm1, hm2⟩ := hm
      go_enter Try.func24, Try.ntmps24
      go_wp2
      go_ret
      exact GivesSS.mk (v := .slice none 0 0) (IntsS.nil _ _) (Below.refl _ _)
  · rw [permsR_no (by omega)]
    have h0' : m < 0 := by omega
    obtain ⟨hm1, hm2⟩ := hm
    go_enter Try.func24, Try.ntmps24
    go_wp2
    go_ret
    exact GivesSS.mk (v := .slice none 0 0) (IntsS.nil _ _) (Below.refl _ _)

end Go.Proofs.Ytkjjjnkgkgdfkaa
