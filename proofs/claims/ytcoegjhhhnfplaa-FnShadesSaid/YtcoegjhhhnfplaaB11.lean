/-
  Words and contracts that the laws lean on, bundled: Copy, PermsOf, Fill, CanS, HasM, CanI.
-/
import Derived.Test.YtcoegjhhhnfplaaB2
import Derived.Test.YtcoegjhhhnfplaaB4
import Derived.Test.YtcoegjhhhnfplaaB3
import Derived.Test.YtcoegjhhhnfplaaB9
import Derived.Test.YtcoegjhhhnfplaaB6
import Derived.Test.YtcoegjhhhnfplaaB8
import Derived.Deep.RegionHeld3

/-
  spec.l2Copy by its contract.
-/

namespace Go.Proofs.Ytcoegjhhhnfplaa
set_option maxRecDepth 100000
open Go.RowKit
/-- A copy: rows of the call's own, at a block's head. -/
def CopyEnds (w : World) (zss : List (List Int)) (e : Ending) (w' : World) : Prop := ∃ g c, e = .returned (.slice (some ⟨g, 0, none⟩) zss.length c) ∧ IntsS w' w.heap.size (.slice (some ⟨g, 0, none⟩) zss.length c) zss ∧ Below w.heap.size w w'
set_option maxHeartbeats 1600000 in
theorem l2copy_any (P : Option Addr) (m d : Nat) (S : List (List Int)) (w : World) (hS : AtS w P m S) (hm : m ≤ 1048576) :
    Calls Try.prog 72 #[.slice P m d] w (CopyEnds w S) := by
  have hl := hS.1
  have HS := hide hS
  have HL := hide hl
  have hI0 := IntsS.made0 w w.heap.size (Nat.le_refl _)
  have hb0 : Below w.heap.size w (w.alloc (.cells #[] 24)) := (Below.refl _ w).alloc (Nat.le_refl _) _
  clear hS hl
  go_enter Try.func72, Try.ntmps72
  go_wp2
  go_loopw [3, 4] (fun v i wr => ∃ (k g c : Nat), k ≤ m ∧ i = .int .i64 k ∧ v = .slice (some ⟨g, 0, none⟩) k c ∧ IntsS wr w.heap.size (.slice (some ⟨g, 0, none⟩) k c) (S.take k) ∧ Below w.heap.size w wr) (fun _ i _ => m - (intOf i).toNat)
  case atStart => exact ⟨0, w.heap.size, 0, Nat.zero_le _, rfl, rfl, hI0, hb0⟩
  case round =>
    obtain ⟨k, g, c, hk, rfl, rfl, hI, hb⟩ := hrel
    clear hI0 hb0
    by_cases hlt : k < m
    · obtain ⟨ad, A', c', z, rfl, hz, hcell, hA⟩ := (unhide HS).2 wr hb k hlt
      have hzl := hA.le
      have hnext := hide (show S.take (k + 1) = S.take k ++ [z] from by rw [List.take_add_one, hz]; rfl)
      have hb1e : Below wr.heap.size wr (wr.alloc (.cells #[] 3)) := (Below.refl _ wr).alloc (Nat.le_refl _) _
      have hown0 := own0 wr wr.heap.size (Nat.le_refl _)
      have hAe := hA.below hb1e
      have hze : wr.heap.size ≤ (wr.alloc (.cells #[] 3)).heap.size := hb1e.size
      have lc : (ad.add k).block < wr.heap.size := World.block_lt_of_cell? _ _ hcell
      have htk : (S.take k).length ≤ 1048576 := by rw [List.length_take]; omega
      have hsz := hb.size
      clear hz hA
      go_wp2_with (first
        | (at_builtin; refine wpList_append_arg rfl (.tmp 13) (.tmp 17) rfl wr.heap.size wr.heap.size 0 z.length c' wr _ A' [] z rfl rfl hown0 hAe (by omega) hb1e hze ?_; intro v6 w6 hown6 hb6 hg6; have hI6 := Ints.of_own hown6; rw [List.nil_append] at hI6; obtain ⟨A6, c6, rfl⟩ := hI6.slice; clear hown6 hg6 hown0 hAe hb1e hze)
        | (at_builtin; refine wpList_push_row rfl (.tmp 12) (.tmp 19) rfl w.heap.size w wr w6 _ _ (S.take k) z rfl rfl rfl hI hb6 hI6 htk (below_after hb hb6) hsz ?_; intro v8 w8 hI8 hb8))
      rw [← unhide hnext] at hI8
      obtain ⟨A8, c8, rfl⟩ := hI8.slice
      have hl8 : (S.take (k + 1)).length = k + 1 := by rw [List.length_take]; have := unhide HL; omega
      rw [hl8] at hI8
      obtain ⟨g8, rfl⟩ := hI8.shape (Nat.succ_pos k)
      have HI8 := hide hI8
      rw [hl8]
      clear hI hI8 hI6 hb6 hb hcell
      go_wp2
      go_roundw
      case rel => exact ⟨k + 1, g8, c8, by omega, by go_num, rfl, unhide HI8, hb8⟩
      case measure => simp [intOf]; omega
    · obtain rfl : m = k := by omega
      have hfin : Hid (IntsS wr w.heap.size (.slice (some ⟨g, 0, none⟩) S.length c) S) := hide (by
        have e : S.take m = S := by rw [← unhide HL, List.take_length]
        rw [e] at hI
        rw [unhide HL]; exact hI)
      clear hI
      go_wp2
      go_ret
      exact ⟨g, c, by rw [unhide HL]; rfl, unhide hfin, hb⟩
end Go.Proofs.Ytcoegjhhhnfplaa


/-
  spec.PermsOf and impl.PermsOf, by their contracts.
-/

namespace Go.Proofs.Ytcoegjhhhnfplaa
set_option maxRecDepth 100000
open Go.RowKit

theorem own_head {w : World} {base n : Nat} {v : Value} {xs : List Value} {e : TypeId} (h : w.ownsRow base e 1 v n xs) (hn : 0 < n) : ∃ g c, v = .slice (some ⟨g, 0, none⟩) n c := by
  rcases h.2 with ⟨_, h0⟩ | ⟨g, cap, cur, rfl, _⟩
  · omega
  · exact ⟨g, cap, rfl⟩

set_option maxHeartbeats 400000 in
theorem behind_any (f : Int) (A : Option Addr) (n c B : Nat) (r : List Int) (w : World) (hr : Reads w B A n (i64s r)) (hB : B ≤ w.heap.size) (hn : n ≤ 8) (hx : ∀ x ∈ r, 1 ≤ x ∧ x ≤ 6) :
    Calls Try.prog 97 #[.int .i64 f, .slice A n c] w (GivesI w (behind f r)) := by
  obtain ⟨i0, hi, hz0, hz1, hz2⟩ := info_parts intInfo
  have HL := hide hr.len
  have HX := hide (fun k z (hz : r[k]? = some z) => hx z (List.mem_of_getElem? hz))
  clear hx
  go_enter Try.func97, Try.ntmps97
  go_wp2_with (first
    | (at_make; refine wpList_make_own _ rfl (.const (.int .i64 0)) (.tmp 10) 24 rfl w.heap.size 3 i0 (.int .i64 0) 1 Try.underlying24 hi hz0 hz1 .i64 .i64 _ (n + 1) rfl rfl (by omega) (by rw [hz2]; omega) (by unfold maxLen; omega) (Nat.le_refl _) ?_; intro w1 hown1 hg1; have hb1 := (Below.refl w.heap.size w).grown hg1 (Nat.le_refl _) (by simp); clear hg1)
    | (at_builtin; refine wpList_append_one rfl (.tmp 12) (.tmp 14) 24 rfl w.heap.size 3 i0 (.int .i64 0) 8 Try.underlying24 hi hz0 hz1 hz2 rfl w w1 _ _ _ rfl hown1 (.int .i64 f) rfl rfl rfl (by omega) (by simp only [maxLen]; omega) hb1 hb1.size ?_; intro v2 w2 hown2 hb2 hg2; clear hg2))
  clear hown1 hb1
  go_loopw [5, 7, 18] (fun v _ i wr => ∃ k : Nat, k ≤ n ∧ i = .int .i64 k ∧ Below w.heap.size w wr ∧ wr.ownsRow w.heap.size 3 1 v (k + 1) (i64s (f :: (r.take k).map (up f)))) (fun _ _ i _ => n - (intOf i).toNat)
  case atStart => exact ⟨0, Nat.zero_le _, rfl, hb2, hown2⟩
  case round =>
    obtain ⟨k, hk, rfl, hb, hown⟩ := hrel
    clear hown2 hb2
    by_cases hlt : k < n
    · obtain ⟨ad, u, rfl, _, hu, hc⟩ := ((hr.more hB).below hb).at_ hlt
      obtain ⟨z, hz, rfl⟩ := i64_at hu
      obtain ⟨hz3, hz4⟩ := unhide HX k z hz
      have hst := behind_step (f := f) hz
      have e : i64s (f :: (r.take k).map (up f)) ++ [.int .i64 (up f z)] = i64s (f :: (r.take (k + 1)).map (up f)) := by rw [hst]; unfold i64s; simp
      clear hst hu hz
      by_cases hfz : f ≤ z
      · rw [up_yes hfz] at e
        have HE := hide e
        clear e
        go_wp2_with (first
          | (at_builtin; refine wpList_append_one rfl (.tmp 27) (.tmp 29) 24 rfl w.heap.size 3 i0 (.int .i64 0) 8 Try.underlying24 hi hz0 hz1 hz2 rfl w wr _ _ _ rfl hown (.int .i64 (z + 1)) rfl rfl rfl (by omega) (by simp only [maxLen]; omega) hb hb.size ?_; intro v3 w3 hown3 hb3 hg3; clear hg3))
        rw [unhide HE] at hown3
        clear hown hb HE
        go_roundw
        case rel => exact ⟨k + 1, by omega, by go_num, hb3, hown3⟩
        case measure => simp [intOf]; omega
      · have hfz' : z < f := by omega
        rw [up_no hfz'] at e
        have HE := hide e
        clear e
        go_wp2_with (first
          | (at_builtin; refine wpList_append_one rfl (.tmp 27) (.tmp 29) 24 rfl w.heap.size 3 i0 (.int .i64 0) 8 Try.underlying24 hi hz0 hz1 hz2 rfl w wr _ _ _ rfl hown (.int .i64 z) rfl rfl rfl (by omega) (by simp only [maxLen]; omega) hb hb.size ?_; intro v3 w3 hown3 hb3 hg3; clear hg3))
        rw [unhide HE] at hown3
        clear hown hb HE
        go_roundw
        case rel => exact ⟨k + 1, by omega, by go_num, hb3, hown3⟩
        case measure => simp [intOf]; omega
    · obtain rfl : n = k := by omega
      have e : r.take n = r := List.take_of_length_le (by rw [unhide HL]; exact Nat.le_refl _)
      rw [e] at hown
      have hI : Ints wr w.heap.size u5 (behind f r) := Ints.of_own hown
      clear hown e
      go_wp2
      go_ret
      exact GivesI.mk hI hb

theorem IntsS.push {w : World} {B : Nat} {v : Value} {vs : List Value} {zss : List (List Int)} {u : Value} {zs : List Int} {n : Nat} (hn : n = zss.length) (hown : w.ownsRow B 24 1 v (n + 1) (vs ++ [u])) (hin : Inner w B (vs ++ [u]) (zss ++ [zs])) : IntsS w B v (zss ++ [zs]) := by
  subst hn
  refine ⟨vs ++ [u], ?_, hin⟩
  rw [List.length_append]
  exact hown

set_option maxHeartbeats 1600000 in
theorem iperms_step (n : Nat) (hn : n + 1 ≤ 6) (IH : ∀ w, Calls Try.prog 70 #[.int .i64 (n : Int)] w (GivesSS w (permL n))) (w : World) :
    Calls Try.prog 70 #[.int .i64 ((n : Int) + 1)] w (GivesSS w (permL (n + 1))) := by
  obtain ⟨i0, hi, hz0, hz1, hz2⟩ := info_parts rowsInfo
  have hL := (permL_small n (by omega)).1
  have HR := hide (fun i r (h : (permL n)[i]? = some r) => permL_rows n (by omega) r (List.mem_of_getElem? h))
  have HI := hide IH
  clear IH
  go_enter Try.func70, Try.ntmps70
  go_wp2_with fail
  refine (unhide HI _).mono ?_
  rintro e w1 ⟨A1, c1, rfl, hR, hb1⟩
  have hrest := hide hR
  have hs1 := hb1.size
  clear HI hR
  obtain ⟨L, hLL⟩ : ∃ L, L = (permL n).length := ⟨_, rfl⟩
  rw [← hLL] at hL hrest ⊢
  have HLL := hide hLL
  clear hLL
  go_wp2
  go_loopw [3, 5, 7, 28] (fun o i _ _ wr => ∃ j : Nat, j ≤ n + 1 ∧ i = .int .i64 ((j : Int) + 1) ∧ Below w1.heap.size w1 wr ∧ IntsS wr w1.heap.size o (permK n j)) (fun _ i _ _ _ => n + 2 - (intOf i).toNat)
  case atStart => exact ⟨0, Nat.zero_le _, rfl, Below.refl _ _, IntsS.nil _ _⟩
  case round =>
    obtain ⟨j, hj, rfl, hb, hall⟩ := hrel
    by_cases hlt : j < n + 1
    · have hlt' : (j : Int) + 1 ≤ (n : Int) + 1 := by omega
      have hall' := hide hall
      clear hall
      obtain ⟨wo, rfl⟩ : ∃ wo : World, wo = wr := ⟨_, rfl⟩
      go_wp2
      go_loopw [3, 7, 28] (fun o _ i wi => ∃ k : Nat, k ≤ L ∧ i = .int .i64 k ∧ Below w1.heap.size w1 wi ∧ IntsS wi w1.heap.size o (permI n j k)) (fun _ _ i _ => L - (intOf i).toNat)
      case atStart => exact ⟨0, Nat.zero_le _, rfl, hb, by rw [permI_zero]; exact unhide hall'⟩
      case round =>
        obtain ⟨k, hk, rfl, hbi, hal⟩ := hrel
        clear hall' hb
        by_cases hkt : k < L
        · obtain ⟨ad, A2, c2, r, rfl, hr, hc, hI⟩ := ((unhide hrest).stay hbi (Nat.le_refl _)).at_ hkt
          have hrow := unhide HR k r hr
          have H1 := hide (behind_any ((j : Int) + 1) A2 r.length c2 wr.heap.size r wr hI.reads (Nat.le_refl _) (by omega) hrow.2)
          obtain ⟨vs, hown, hin⟩ := hal
          have hlen : (permI n j k).length ≤ 5040 := by
            rw [permI_length n j k (by rw [← unhide HLL]; exact hk), ← unhide HLL]
            have := Nat.mul_le_mul (show j ≤ 6 by omega) hL
            omega
          have hstep := hide (permI_step (j := j) hr)
          have hrl : r.length ≤ 6 := by omega
          have Hin := hide hin
          have Hown := hide hown
          have hsi := hbi.size
          clear hr hrow hI hin hown
          go_wp2_with fail
          refine (unhide H1).mono ?_
          rintro e w2 ⟨A3, c3, rfl, own3, b3⟩
          have hown2 := own_below (unhide Hown) b3
          have hb2 := hbi.trans (b3.mono hsi)
          have Own3 := hide own3
          have B3 := hide b3
          clear H1 own3 b3 hbi
          go_wp2_with (first
            | (at_builtin; refine wpList_append_one rfl (.tmp 32) (.tmp 36) 25 rfl w1.heap.size 24 i0 (.slice none 0 0) 24 Try.underlying25 hi hz0 hz1 hz2 rfl w1 w2 _ _ _ rfl hown2 (.slice A3 (behind ((j : Int) + 1) r).length c3) rfl rfl rfl (by omega) (by simp only [maxLen]; omega) hb2 hb2.size ?_; intro v4 w4 hown4 hb4 hg4))
          have hk4 := KeepI.of_grown hown2 hg4
          have hin4 := (((unhide Hin).keepI (KeepI.of_below (unhide B3))).keepI hk4).push (((unhide Own3).low hsi).keepI hk4) ((unhide Hin).away_new (unhide Own3).since (Nat.le_refl _))
          have hnext : IntsS w4 w1.heap.size v4 (permI n j (k + 1)) := by rw [unhide hstep]; exact IntsS.push rfl hown4 hin4
          clear hk4 hin4 hown4 hg4 hown2 hb2
          go_roundw
          case rel => exact ⟨k + 1, by omega, by go_num, hb4, hnext⟩
          case measure => simp [intOf]; omega
        · obtain rfl : L = k := by omega
          rw [unhide HLL, permI_all] at hal
          go_wp2
          go_roundw
          case rel => exact ⟨j + 1, by omega, by go_num, hbi, hal⟩
          case measure => simp [intOf]; omega
    · obtain rfl : j = n + 1 := by omega
      have hlt' : ¬ (((n + 1 : Nat) : Int) + 1 ≤ (n : Int) + 1) := by omega
      have hbe := below_after hb1 hb
      have hfin := hall.low hs1
      rw [permK_all] at hfin
      clear hall hb hb1
      go_wp2
      go_ret
      exact GivesSS.mk hfin hbe

theorem iperms_zero (w : World) : Calls Try.prog 70 #[.int .i64 0] w (GivesSS w (permL 0)) := by
  go_enter Try.func70, Try.ntmps70
  go_wp2
  go_ret
  have hI := (Ints.made0 w w.heap.size (Nat.le_refl _)).below (w' := (w.alloc (.cells #[] 3)).alloc (.cells #[.slice (some ⟨w.heap.size, 0, none⟩) 0 0] 24)) ((Below.refl _ _).alloc (Nat.le_refl _) _)
  have hown : ((w.alloc (.cells #[] 3)).alloc (.cells #[.slice (some ⟨w.heap.size, 0, none⟩) 0 0] 24)).ownsRow w.heap.size 24 1 (.slice (some ⟨w.heap.size + 1, 0, none⟩) 1 1) 1 [.slice (some ⟨w.heap.size, 0, none⟩) 0 0] := by
    refine ⟨rfl, .inr ⟨w.heap.size + 1, 1, #[.slice (some ⟨w.heap.size, 0, none⟩) 0 0], rfl, by omega, ?_, Nat.le_refl _, by unfold maxLen; omega, rfl, rfl⟩⟩
    have := heap_alloc_new (w.alloc (.cells #[] 3)) (.cells #[.slice (some ⟨w.heap.size, 0, none⟩) 0 0] 24)
    rwa [show (w.alloc (.cells #[] 3)).heap.size = w.heap.size + 1 by simp] at this
  have hin : Inner ((w.alloc (.cells #[] 3)).alloc (.cells #[.slice (some ⟨w.heap.size, 0, none⟩) 0 0] 24)) w.heap.size [.slice (some ⟨w.heap.size, 0, none⟩) 0 0] (permL 0) :=
    (Inner.nil _ _).push hI (fun x hx => by simp at hx)
  exact GivesSS.mk ⟨_, hown, hin⟩ (((Below.refl _ _).alloc (Nat.le_refl _) _).alloc (by simp) _)

theorem iperms_in : ∀ (n : Nat), n ≤ 6 → ∀ w, Calls Try.prog 70 #[.int .i64 (n : Int)] w (GivesSS w (permL n))
  | 0, _ => fun w => iperms_zero w
  | n + 1, hn => fun w => by
    have h := iperms_step n hn (iperms_in n (by omega)) w
    rw [show (((n + 1 : Nat) : Int)) = (n : Int) + 1 by omega]
    exact h
theorem iperms_any (m : Int) (hm : -9223372036854775808 ≤ m ∧ m ≤ 9223372036854775807) (w : World) :
    Calls Try.prog 70 #[.int .i64 m] w (GivesSS w (permsR m)) := by
  by_cases h0 : 0 ≤ m
  · by_cases h6 : m ≤ 6
    · obtain ⟨n, rfl⟩ : ∃ n : Nat, m = (n : Int) := ⟨m.toNat, by omega⟩
      rw [permsR_yes (by omega)]
      exact iperms_in n (by omega) w
    · rw [permsR_no (by omega)]
      have h0' : ¬ m < 0 := by omega
      have h6' : 6 < m := by omega
      obtain ⟨hm1, hm2⟩ := hm
      go_enter Try.func70, Try.ntmps70
      go_wp2
      go_ret
      exact GivesSS.mk (v := .slice none 0 0) (IntsS.nil _ _) (Below.refl _ _)
  · rw [permsR_no (by omega)]
    have h0' : m < 0 := by omega
    obtain ⟨hm1, hm2⟩ := hm
    go_enter Try.func70, Try.ntmps70
    go_wp2
    go_ret
    exact GivesSS.mk (v := .slice none 0 0) (IntsS.nil _ _) (Below.refl _ _)

end Go.Proofs.Ytcoegjhhhnfplaa


/-
  spec.l2Fill and spec.PermsOf, by their contracts.
-/

namespace Go.Proofs.Ytcoegjhhhnfplaa
set_option maxRecDepth 100000
open Go.RowKit

def FillEnds (w : World) (B : Nat) (zss : List (List Int)) (e : Ending) (w' : World) : Prop := ∃ v, e = .returned v ∧ IntsS w' B v zss ∧ Below B w w' ∧ KeepI w w'
/-- What l2Fill is handed: a head, a list of rows, the head away from them. -/
structure Handed (w : World) (B : Nat) (hv : Value) (hd : List Int) (ov : Value) (out : List (List Int)) (vs : List Value) : Prop where
  head : Ints w B hv hd
  own : w.ownsRow B 24 1 ov out.length vs
  inner : Inner w B vs out
  away : ∀ x ∈ vs, Away x hv

set_option maxHeartbeats 800000 in
theorem fill_leaf (n : Nat) (g c : Nat) (hd : List Int) (out : List (List Int)) (ov : Value) (vs : List Value) (B : Nat) (w : World) (hn : hd.length = n) (h : Handed w B (.slice (some ⟨g, 0, none⟩) n c) hd ov out vs) (hB : B ≤ w.heap.size) (hl : out.length ≤ 1000000) :
    Calls Try.prog 73 #[.int .i64 (n : Int), .slice (some ⟨g, 0, none⟩) n c, ov] w (FillEnds w B (out ++ fillL n 0 hd)) := by
  obtain ⟨i0, hi, hz0, hz1, hz2⟩ := info_parts rowsInfo
  have hown := h.own
  have hbel := Below.refl B w
  have HH := hide h
  clear h
  have HN := hide hn
  clear hn
  go_enter Try.func73, Try.ntmps73
  go_wp2_with (first
    | (at_builtin; refine wpList_append_one rfl (.tmp 12) (.tmp 14) 25 rfl B 24 i0 (.slice none 0 0) 24 Try.underlying25 hi hz0 hz1 hz2 rfl w w _ _ _ rfl hown (.slice (some ⟨g, 0, none⟩) n c) rfl rfl rfl (by omega) (by simp only [maxLen]; omega) hbel hB ?_; intro v4 w4 hown4 hb4 hg4))
  have hk4 := KeepI.of_grown hown hg4
  have hin4 := ((unhide HH).inner.keepI hk4).push ((unhide HH).head.keepI hk4) (unhide HH).away
  have hfin : IntsS w4 B v4 (out ++ fillL n 0 hd) := IntsS.push rfl hown4 hin4
  clear hin4 hown4 hg4 hown hbel
  go_ret
  exact ⟨_, rfl, hfin, hb4, hk4⟩

theorem below_ends {w0 w w' : World} {B : Nat} {zss : List (List Int)} {e : Ending} (hb : Below B w0 w) (hk : KeepI w0 w) (h : FillEnds w B zss e w') : FillEnds w0 B zss e w' := by
  obtain ⟨v, he, hI, hb2, hk2⟩ := h
  exact ⟨v, he, hI, hb.trans hb2, hk.trans hk2⟩

set_option maxHeartbeats 1600000 in
theorem fill_step (n d : Nat) (hn6 : n ≤ 6) (B : Nat)
    (IH : ∀ (m : Nat) (g c : Nat) (hd : List Int) (out : List (List Int)) (ov : Value) (vs : List Value) (w : World), hd.length = m → m + d = n → Handed w B (.slice (some ⟨g, 0, none⟩) m c) hd ov out vs → B ≤ w.heap.size → out.length + (fillL n d hd).length ≤ 1000000 →
      Calls Try.prog 73 #[.int .i64 (n : Int), .slice (some ⟨g, 0, none⟩) m c, ov] w (FillEnds w B (out ++ fillL n d hd)))
    (m g c : Nat) (hd : List Int) (out : List (List Int)) (ov : Value) (vs : List Value) (w : World) (hm : hd.length = m) (hmd : m + (d + 1) = n) (h : Handed w B (.slice (some ⟨g, 0, none⟩) m c) hd ov out vs) (hB : B ≤ w.heap.size) (hl : out.length + (fillL n (d + 1) hd).length ≤ 1000000) :
    Calls Try.prog 73 #[.int .i64 (n : Int), .slice (some ⟨g, 0, none⟩) m c, ov] w (FillEnds w B (out ++ fillL n (d + 1) hd)) := by
  obtain ⟨i0, hi, hz0, hz1, hz2⟩ := info_parts intInfo
  have hne : ((m : Int) == (n : Int)) = false := by simp; omega
  have hm6 : m < n := by omega
  have hst : IntsS w B ov (out ++ fillK n d hd 0) := by rw [fillK_zero, List.append_nil]; exact ⟨vs, h.own, h.inner⟩
  have HH := hide h.head
  have HI := hide IH
  have HM := hide hm
  have HMD := hide hmd
  have HLL := hide hl
  clear IH h hm hmd hl
  go_enter Try.func73, Try.ntmps73
  go_wp2
  go_loopw [2, 7] (fun o i wr => ∃ k : Nat, k ≤ n ∧ i = .int .i64 ((k : Int) + 1) ∧ Below B w wr ∧ KeepI w wr ∧ IntsS wr B o (out ++ fillK n d hd k)) (fun _ i _ => n + 1 - (intOf i).toNat)
  case atStart => exact ⟨0, Nat.zero_le _, rfl, Below.refl _ _, KeepI.refl _, hst⟩
  case round =>
    obtain ⟨k, hk, rfl, hb, hkk, hout⟩ := hrel
    clear hst
    by_cases hlt : k < n
    · have hlt' : (k : Int) + 1 ≤ (n : Int) := by omega
      have hI := (unhide HH).keepI hkk
      obtain ⟨b2, hb2⟩ : ∃ b2, decide ((k : Int) + 1 ∈ hd) = b2 := ⟨_, rfl⟩
      have H1 := hide (l2has_any (some ⟨g, 0, none⟩) m c _ hd ((k : Int) + 1) b2 hb2 wr hI.reads (by omega))
      have HB2 := hide hb2
      clear hb2
      cases b2 with
      | true =>
        have hin : (k : Int) + 1 ∈ hd := by simpa using unhide HB2
        rw [← fillK_in (n := n) (d := d) hin] at hout
        clear hin hI
        go_wp2_with fail
        refine (unhide H1).mono ?_
        rintro e w' ⟨rfl, hw'⟩
        rw [hw']
        clear hw' H1
        go_wp2
        go_roundw
        case rel => exact ⟨k + 1, by omega, by go_num, hb, hkk, hout⟩
        case measure => simp [intOf]; omega
      | false =>
        have hno : (k : Int) + 1 ∉ hd := by simpa using unhide HB2
        have hstep := hide (fillK_out (n := n) (d := d) hno)
        obtain ⟨vs2, hown, hin⟩ := hout
        have hg : g < wr.heap.size := (Row.lt hI g rfl).2
        -- the head's cells, behind the new empty row
        have hcl : ∀ j u, (i64s hd)[j]? = some u → (wr.alloc (.cells #[] 3)).cell? ((⟨g, 0, none⟩ : Addr).add j) = some u := fun j u hu => by
          rw [World.cell?_alloc_lt]
          · have hr := hI.reads
            have hj : j < m := by have := (List.getElem?_eq_some_iff.1 hu).1; rw [i64_length, unhide HM] at this; exact this
            obtain ⟨ad, he, _, hc⟩ := hr.2 (by omega)
            injection he with he
            subst he
            exact hc j u hu
          · rw [block_of_add]; exact hg
        have hs1 := Nat.le_trans hB hb.size
        have hown0 := own0 wr wr.heap.size (Nat.le_refl _)
        have hb0 := (Below.refl wr.heap.size wr).alloc (Nat.le_refl _) (.cells #[] 3)
        have hone : ∀ u ∈ i64s hd, u.oneCell' = true := fun u hu => by
          unfold i64s at hu
          obtain ⟨z, _, rfl⟩ := List.mem_map.1 hu
          rfl
        have hln : (i64s hd).length = m * 1 := by rw [i64_length, unhide HM]; omega
        have HCL := hide hcl
        have HONE := hide hone
        have HLN := hide hln
        have Hown := hide hown
        have Hin := hide hin
        clear hcl hone hln hno hI hown hin
        go_wp2_with fail
        refine (unhide H1).mono ?_
        rintro e w' ⟨rfl, hw'⟩
        rw [hw']
        clear hw' H1
        go_wp2_with (at_builtin; refine wpList_append_own _ rfl (.tmp 26) (.tmp 27) 24 rfl wr.heap.size 3 i0 (.int .i64 0) 1 8 Try.underlying24 hi hz0 hz1 hz2 rfl (by decide) _ _ _ rfl hown0 ⟨g, 0, none⟩ m c (i64s hd) rfl ?_ ?_ ?_ ?_ ?_ ?_ ?_)
        · exact unhide HLN
        · exact unhide HCL
        · exact unhide HONE
        · unfold maxLen; omega
        · omega
        · simp
        intro v1 w1 hown1 hg1 _
        have hb1 : Below wr.heap.size wr w1 := hb0.grown hg1 (by simp) (fun q hq => by simp [Value.ownBlock] at hq; omega)
        clear hg1
        go_wp2_with (at_builtin; refine wpList_append_one rfl (.tmp 28) (.tmp 30) 24 rfl wr.heap.size 3 i0 (.int .i64 0) 8 Try.underlying24 hi hz0 hz1 hz2 rfl wr w1 _ _ _ rfl hown1 (.int .i64 ((k : Int) + 1)) rfl rfl rfl (by omega) (by simp only [maxLen]; omega) hb1 hb1.size ?_; intro v3 w3 hown3 hb3 hg3; clear hg3; obtain ⟨g3, c3, rfl⟩ := own_head hown3 (by omega))
        have hI3 : Ints w3 wr.heap.size (.slice (some ⟨g3, 0, none⟩) (m + 1) c3) (hd ++ [(k : Int) + 1]) := Ints.of_own (n := m + 1) (by have h := hown3; rwa [show i64s hd ++ [Value.int .i64 ((k : Int) + 1)] = i64s (hd ++ [(k : Int) + 1]) by unfold i64s; simp] at h)
        have hk3 := KeepI.of_below hb3
        have hH : Handed w3 B (.slice (some ⟨g3, 0, none⟩) (m + 1) c3) (hd ++ [(k : Int) + 1]) _ (out ++ fillK n d hd k) vs2 := ⟨hI3.low hs1, own_below (unhide Hown) hb3, (unhide Hin).keepI hk3, (unhide Hin).away_new hI3.since (Nat.le_refl _)⟩
        have hb4 := hb.trans (hb3.mono hs1)
        have hk4 := hkk.trans hk3
        have hlen : (out ++ fillK n d hd k).length + (fillL n d (hd ++ [(k : Int) + 1])).length ≤ 1000000 := by
          have h1 := unhide HLL
          have h2 := fillK_mono n d hd (k + 1) (n - (k + 1))
          rw [show k + 1 + (n - (k + 1)) = n by omega, fillK_all, unhide hstep, List.length_append] at h2
          rw [List.length_append]
          omega
        have H5 := hide (unhide HI (m + 1) g3 c3 (hd ++ [(k : Int) + 1]) _ _ vs2 w3 (by rw [List.length_append, unhide HM]; rfl) (by have := unhide HMD; omega) hH (Nat.le_trans hB hb4.size) hlen)
        rw [List.append_assoc, ← unhide hstep] at H5
        clear hown0 hb0 hown1 hb1 hown3 hb3 hI3 hk3 hH hlen hb hkk
        go_wp2_with fail
        refine (unhide H5).mono ?_
        rintro e w5 ⟨v5, rfl, hI5, hb5, hk5⟩
        have hb6 := hb4.trans hb5
        have hk6 := hk4.trans hk5
        clear H5 hb4 hk4 hb5 hk5
        go_wp2
        go_roundw
        case rel => exact ⟨k + 1, by omega, by go_num, hb6, hk6, hI5⟩
        case measure => simp [intOf]; omega
    · obtain rfl : n = k := by omega
      have hlt' : ¬ ((n : Int) + 1 ≤ (n : Int)) := by omega
      rw [fillK_all] at hout
      go_wp2
      go_ret
      exact ⟨_, rfl, hout, hb, hkk⟩

theorem fill_any (n : Nat) (hn6 : n ≤ 6) (B : Nat) : ∀ (d m g c : Nat) (hd : List Int) (out : List (List Int)) (ov : Value) (vs : List Value) (w : World), hd.length = m → m + d = n → Handed w B (.slice (some ⟨g, 0, none⟩) m c) hd ov out vs → B ≤ w.heap.size → out.length + (fillL n d hd).length ≤ 1000000 →
    Calls Try.prog 73 #[.int .i64 (n : Int), .slice (some ⟨g, 0, none⟩) m c, ov] w (FillEnds w B (out ++ fillL n d hd))
  | 0, m, g, c, hd, out, ov, vs, w, hm, hmd, h, hB, hl => by
    obtain rfl : m = n := by omega
    exact fill_leaf m g c hd out ov vs B w hm h hB (by omega)
  | d + 1, m, g, c, hd, out, ov, vs, w, hm, hmd, h, hB, hl => fill_step n d hn6 B (fill_any n hn6 B d) m g c hd out ov vs w hm hmd h hB hl

set_option maxHeartbeats 800000 in
theorem sperms_any (m : Int) (hm : -9223372036854775808 ≤ m ∧ m ≤ 9223372036854775807) (w : World) :
    Calls Try.prog 29 #[.int .i64 m] w (GivesSS w (permsR m)) := by
  by_cases hin : 0 ≤ m ∧ m ≤ 6
  · obtain ⟨n, rfl⟩ : ∃ n : Nat, m = (n : Int) := ⟨m.toNat, by omega⟩
    have hn : n ≤ 6 := by omega
    rw [permsR_yes hn]
    have H1 := hide (l1in_any (n : Int) 0 6 true (by simp; omega) w)
    -- the two empty rows
    have hI0 := Ints.made0 w w.heap.size (Nat.le_refl _)
    have hb1 := (Below.refl w.heap.size w).alloc (Nat.le_refl _) (.cells #[] 3)
    have hsz : (w.alloc (.cells #[] 3)).heap.size = w.heap.size + 1 := by simp
    have hown := ownS0 (w.alloc (.cells #[] 3)) w.heap.size (by simp)
    rw [hsz] at hown
    have hbA := (Below.refl (w.alloc (.cells #[] 3)).heap.size (w.alloc (.cells #[] 3))).alloc (Nat.le_refl _) (.cells #[] 24)
    have hI1 := hI0.below hbA
    have hb2 := hb1.alloc (by simp) (.cells #[] 24)
    have hH : Handed ((w.alloc (.cells #[] 3)).alloc (.cells #[] 24)) w.heap.size (.slice (some ⟨w.heap.size, 0, none⟩) 0 0) [] (.slice (some ⟨w.heap.size + 1, 0, none⟩) 0 0) [] [] := ⟨hI1, hown, Inner.nil _ _, fun x hx => by simp at hx⟩
    have hlen : ([] : List (List Int)).length + (fillL n n []).length ≤ 1000000 := by
      rw [two_ways n hn]
      have := (permL_small n hn).1
      simp only [List.length_nil]
      omega
    have H2 := hide (fill_any n hn w.heap.size n 0 w.heap.size 0 [] [] _ [] _ rfl (by omega) hH (by simp; omega) hlen)
    rw [List.nil_append, two_ways n hn] at H2
    clear hI0 hb1 hsz hown hbA hI1 hH hlen hin hm
    go_enter Try.func29, Try.ntmps29
    go_wp2_with fail
    refine (unhide H1).mono ?_
    rintro e w' ⟨rfl, hw'⟩
    rw [hw']
    clear hw' H1
    go_wp2_with fail
    refine (unhide H2).mono ?_
    rintro e w5 ⟨v5, rfl, hI5, hb5, _⟩
    have hb6 := hb2.trans hb5
    clear H2 hb5 hb2
    go_wp2
    go_ret
    exact GivesSS.mk hI5 hb6
  · rw [permsR_no hin]
    have H1 := hide (l1in_any m 0 6 false (by simp; omega) w)
    have hI := IntsS.made0 w w.heap.size (Nat.le_refl _)
    have hb := (Below.refl w.heap.size w).alloc (Nat.le_refl _) (.cells #[] 24)
    obtain ⟨hm1, hm2⟩ := hm
    clear hin
    go_enter Try.func29, Try.ntmps29
    go_wp2_with fail
    refine (unhide H1).mono ?_
    rintro e w' ⟨rfl, hw'⟩
    rw [hw']
    clear hw' H1
    go_wp2
    go_ret
    exact GivesSS.mk hI hb
end Go.Proofs.Ytcoegjhhhnfplaa


/-
  spec.CanShade by its contract.
-/

namespace Go.Proofs.Ytcoegjhhhnfplaa
set_option maxRecDepth 100000
open Go.RowKit
theorem putL_in {S : List (List Int)} {p : List Int} (h : Asc S) (hp : p ∈ S) : putL S p = S := asc_unique (asc_putL h) h fun x => by
  rw [mem_putL]
  exact ⟨fun hx => by rcases hx with hx | rfl <;> assumption, .inl⟩
theorem putL_out {S : List (List Int)} {p : List Int} (h : Asc S) (hp : p ∉ S) : (putL S p).length = S.length + 1 := by
  have h1 := (putL_len S p).2
  have h2 := inject_le (l := p :: S) (m := putL S p) (fun x => x) (List.nodup_cons.2 ⟨hp, asc_nodup' h⟩) (fun x hx => mem_putL.2 (by rcases List.mem_cons.1 hx with rfl | hx; exact .inr rfl; exact .inl hx)) (fun x _ y _ e => e)
  rw [List.length_cons] at h2
  omega
theorem canL_same {q : List Int} {S T R : List (List Int)} (h : ∀ s, s ∈ T ↔ s ∈ R) (k : Nat) : canL q S T k = canL q S R k := by
  unfold canL
  exact congrArg (fun f => (List.range k).all f) (funext fun n => canN_same h n)
theorem keep_cs {B : Nat} {wr w : World} {p q : Addr} {v u : Value} (h : wr.cell? p = some v) (h' : wr.cell? q = some u) (hp : p.block < B) (hq : q.block < B) (hb : Below B wr w) : w.cell? p = some v ∧ w.cell? q = some u ∧ Below B wr w := ⟨(hb.cell hp).trans h, (hb.cell hq).trans h', hb⟩
theorem keep5 {B : Nat} {wr w' : World} {a b c d e : Addr} {t u v x y : Value} (h1 : wr.cell? a = some t) (h2 : wr.cell? b = some u) (h3 : wr.cell? c = some v) (h4 : wr.cell? d = some x) (h5 : wr.cell? e = some y) (ha : a.block < B) (hb : b.block < B) (hc : c.block < B) (hd : d.block < B) (he : e.block < B)
    (h : Below B wr w') : w'.cell? a = some t ∧ w'.cell? b = some u ∧ w'.cell? c = some v ∧ w'.cell? d = some x ∧ w'.cell? e = some y ∧ Below B wr w' := ⟨(h.cell ha).trans h1, (h.cell hb).trans h2, (h.cell hc).trans h3, (h.cell hd).trans h4, (h.cell he).trans h5, h⟩
theorem allocB {w W : World} {o : Obj} (h : Below w.heap.size w W) : Below w.heap.size w (W.alloc o) := h.alloc h.size o
theorem setB {w W : World} {p : Addr} {v : Value} (h : Below w.heap.size w W) (hp : w.heap.size ≤ p.block) : Below w.heap.size w (W.setCell p v) := h.setCell hp v
theorem whole_k {w w' : World} {g : Nat} {vs : Array Value} (h : Whole w g 27 vs) (hk : KeepI w w') : Whole w' g 27 vs := (hk.block g _ _ _ h (by decide)).trans h
theorem whole_a {w : World} {g : Nat} {t : TypeId} {vs : Array Value} {o : Obj} (h : Whole w g t vs) : Whole (w.alloc o) g t vs := h.alloc o
theorem whole_d {w : World} {g : Nat} {t : TypeId} {vs : Array Value} (h : Whole w g t vs) : Whole w.drew g t vs := h
theorem whole_2 (w : World) (o : Obj) (t : TypeId) (vs : Array Value) : Whole ((w.alloc o).alloc (.cells vs t)) (w.heap.size + 1) t vs := by
  have h := Whole.new (w.alloc o) t vs
  rwa [World.size_alloc] at h
theorem ints_a {w : World} {B : Nat} {v : Value} {zs : List Int} {o : Obj} (h : Ints w B v zs) : Ints (w.alloc o) B v zs := h.below ((Below.refl _ w).alloc (Nat.le_refl _) o)
theorem ints_d {w : World} {B : Nat} {v : Value} {zs : List Int} (h : Ints w B v zs) : Ints w.drew B v zs := h
theorem intsS_a {w : World} {B : Nat} {v : Value} {zss : List (List Int)} {o : Obj} (h : IntsS w B v zss) : IntsS (w.alloc o) B v zss := h.below ((Below.refl _ w).alloc (Nat.le_refl _) o)
theorem two_1 (w : World) (a b : Int) : Ints (w.alloc (.cells #[.int .i64 a, .int .i64 b] 3)) 0 (.slice (some ⟨w.heap.size, 0, none⟩) 2 2) [a, b] := Ints.two2 w 0 a b (Nat.zero_le _)
theorem two_2 (w : World) (o : Obj) (a b : Int) : Ints ((w.alloc o).alloc (.cells #[.int .i64 a, .int .i64 b] 3)) 0 (.slice (some ⟨w.heap.size + 1, 0, none⟩) 2 2) [a, b] := by
  have h := Ints.two2 (w.alloc o) 0 a b (Nat.zero_le _)
  rwa [World.size_alloc] at h
theorem ints_off {w : World} {B : Nat} {v : Value} {zs : List Int} (h : Ints w B v zs) (h0 : 0 < zs.length) {g : Nat} {a : Option Addr} {b c : Nat} (hc : w.cell? ⟨g, 0, none⟩ = some (.slice a b c)) : v.ownBlock = none ∨ v.ownBlock ≠ some g := .inr fun hv => by
  have h1 := Row.cells h hv 0 h0
  obtain ⟨z, hz⟩ : ∃ z, zs[0]? = some z := ⟨_, List.getElem?_eq_getElem h0⟩
  rw [hc, i64_get hz] at h1
  cases h1
theorem intsS_off {w : World} {B g k : Nat} {v u : Value} {zss : List (List Int)} {vs : Array Value} {a : Option Addr} {b c : Nat} (h : IntsS w B v zss) (h2 : ∀ z ∈ zss, 0 < z.length) (hG : Whole w g 27 vs) (hc : w.cell? ⟨g, 0, none⟩ = some (.slice a b c)) : IntsS (w.setCell ⟨g, k, none⟩ u) B v zss := by
  obtain ⟨us, h1, h3⟩ := h
  refine ⟨us, ⟨h1.1, ?_⟩, h3.len, fun i x zs hx hz => Row.kept (h3.row i x zs hx hz) (grownBy_setCellA w ⟨g, k, none⟩ u) (ints_off (h3.row i x zs hx hz) (h2 zs (List.mem_of_getElem? hz)) hc), h3.away⟩
  rcases h1.2 with h0 | ⟨g', cap, cur, hv, hb, hgg, hr⟩
  · exact .inl h0
  · refine .inr ⟨g', cap, cur, hv, hb, (Below.heap_setCell w ⟨g, k, none⟩ u g' (fun e => ?_)).trans hgg, hr⟩
    subst e
    rw [hG] at hgg
    injection hgg with hgg
    injection hgg with _ he
    exact absurd he (by decide)
/-- What holds of the other mesh. -/
structure MoreAt (w3 : World) (gm : Nat) (A : Option Addr) (n c g7 c7 : Nat) (T : List (List Int)) (w8 : World) : Prop where
  hG : Whole w8 gm 27 #[.slice A n c, .slice (some ⟨g7, 0, none⟩) T.length c7]
  hI : AtS w8 (some ⟨g7, 0, none⟩) T.length T
  hB : Below w3.heap.size w3 w8
theorem MoreAt.made {w3 w7 : World} {B : Nat} {A : Option Addr} {n c g7 c7 : Nat} {T : List (List Int)} (h2 : ∀ z ∈ T, z.length ≤ 1048576 ∧ Small z) (hI : IntsS w7 B (.slice (some ⟨g7, 0, none⟩) T.length c7) T) (hb : Below w3.heap.size w3 w7) :
    MoreAt w3 w7.heap.size A n c g7 c7 T (w7.alloc (.cells #[.slice A n c, .slice (some ⟨g7, 0, none⟩) T.length c7] 27)) := ⟨Whole.new _ _ _, (intsS_a hI).atS h2, allocB hb⟩
theorem MoreAt.put {w3 w7 : World} {B gm : Nat} {A : Option Addr} {n c g7 c7 : Nat} {T : List (List Int)} (h2 : ∀ z ∈ T, z.length ≤ 1048576 ∧ Small z) (h0 : ∀ z ∈ T, 0 < z.length) (hI : IntsS w7 B (.slice (some ⟨g7, 0, none⟩) T.length c7) T) (hb : Below w3.heap.size w3 w7)
    (hG : Whole w7 gm 27 #[.slice none 0 0, .slice none 0 0]) (hg : w3.heap.size ≤ gm) :
    MoreAt w3 gm A n c g7 c7 T ((w7.setCell ⟨gm, 0, none⟩ (.slice A n c)).setCell ⟨gm, 1, none⟩ (.slice (some ⟨g7, 0, none⟩) T.length c7)) :=
  ⟨(hG.put 0 _).put 1 _, (intsS_off (intsS_off hI h0 hG (hG.cell 0)) h0 (hG.put 0 _) ((hG.put 0 _).cell 0)).atS h2, setB (setB hb hg) hg⟩
set_option maxRecDepth 100000 in
set_option maxHeartbeats 8000000 in
theorem scans_any (A P : Option Addr) (n c B m d : Nat) (q : List Int) (S : List (List Int)) (x y : Int) (w : World) (h : Arg w B A n c q) (hS : AtS w P m S) (hm : m ≤ 1048576) :
    Calls Try.prog 28 #[.agg #[.slice A n c, .slice P m d], .int .i64 x, .int .i64 y] w (GivesB w (canR q S x y)) := by
  have hl := h.len
  have hBu := h.under
  obtain ⟨w0, hw0⟩ : ∃ w0, w0 = w.alloc (.cells #[.slice A n c, .slice P m d] 27) := ⟨_, rfl⟩
  have b0 : Below w.heap.size w w0 := by rw [hw0]; exact (Below.refl _ w).alloc (Nat.le_refl _) _
  have g0 : Whole w0 w.heap.size 27 #[.slice A n c, .slice P m d] := by rw [hw0]; exact Whole.new _ _ _
  have x0 := g0.cell 0
  have x1 := g0.cell 1
  simp only [List.getElem?_toArray, List.getElem?_cons_zero, List.getElem?_cons_succ] at x0 x1
  have lw := g0.lt
  obtain ⟨b1, hb1⟩ : ∃ b, meshOK q S = b := ⟨_, rfl⟩
  obtain ⟨b2, hb2⟩ : ∃ b, decide (0 ≤ x ∧ x ≤ (n : Int)) = b := ⟨_, rfl⟩
  obtain ⟨b3, hb3⟩ : ∃ b, decide (0 ≤ y ∧ y ≤ (n : Int)) = b := ⟨_, rfl⟩
  obtain ⟨b4, hb4⟩ : ∃ b, canR q S x y = b := ⟨_, rfl⟩
  rw [hb4]
  have H1 := hide (smesh_any A P n c B m d q S w0 (h.below b0) (hS.below b0) hm)
  have H2 := hide (fun w' => l1in_any x 0 n b2 hb2 w')
  have H3 := hide (fun w' => l1in_any y 0 n b3 hb3 w')
  rw [hb1] at H1
  have HB1 := hide hb1
  have HB2 := hide hb2
  have HB3 := hide hb3
  have HB4 := hide hb4
  have HA := hide h
  have HS := hide hS
  have HW := hide hw0
  have HL := hide hl
  clear h hS hb1 hb2 hb3 hb4 hw0 g0
  have hno : (b2 = false ∨ b3 = false) → Hid (b4 = false) := fun hh => hide ((unhide HB4).symm.trans (canR_no (.inr (.inl (by
    unfold boxB
    rw [unhide HL, unhide HB2, unhide HB3]
    rcases hh with rfl | rfl
    · rfl
    · rw [Bool.and_false])))))
  go_enter Try.func28, Try.ntmps28
  go_wp2_with fail
  rw [← unhide HW]
  refine (unhide H1).mono ?_
  rintro e w1 ⟨rfl, d1⟩
  have hb1 := below_after b0 d1
  have y0 := (d1.cell (p := ⟨w.heap.size, 0, none⟩) lw).trans x0
  have y1 := (d1.cell (p := ⟨w.heap.size, 1, none⟩) lw).trans x1
  have l1 : w.heap.size < w1.heap.size := Nat.lt_of_lt_of_le lw d1.size
  clear H1 HW d1 x0 x1 b0 lw
  cases b1 with
  | false =>
    obtain rfl : b4 = false := (unhide HB4).symm.trans (canR_no (.inl (unhide HB1)))
    clear HB4 hno
    go_wp2
    go_ret
    exact ⟨rfl, hb1⟩
  | true =>
    go_wp2_with fail
    refine (unhide H2 _).mono ?_
    rintro e w2 ⟨rfl, hw2⟩
    subst hw2
    clear H2
    cases b2 with
    | false =>
      have h0 := unhide (hno (.inl rfl))
      subst h0
      clear HB4 hno
      go_wp2
      go_ret
      exact ⟨rfl, hb1⟩
    | true =>
      go_wp2_with fail
      refine (unhide H3 _).mono ?_
      rintro e w3 ⟨rfl, hw3⟩
      subst hw3
      clear H3
      cases b3 with
      | false =>
        have h0 := unhide (hno (.inr rfl))
        subst h0
        clear HB4 hno
        go_wp2
        go_ret
        exact ⟨rfl, hb1⟩
      | true =>
        have hx := of_decide_eq_true (unhide HB2)
        have hy := of_decide_eq_true (unhide HB3)
        have hok := meshOK_iff.1 (unhide HB1)
        have hbl := boxL_mesh (unhide HB1)
        have hn4 : n ≤ 4 := by have := hok.2.1; have := unhide HL; omega
        have hfew := boxL_few hbl hok.2.1
        have hsm : ∀ z ∈ S, z.length ≤ 1048576 ∧ Small z := fun z hz => by
          obtain ⟨u, v, rfl, hu, hv⟩ := hbl.two z hz
          have := unhide HL
          refine ⟨by simp, fun t ht => ?_⟩
          simp at ht
          rcases ht with rfl | rfl <;> omega
        have hbx : boxB q.length x y = true := by unfold boxB; rw [unhide HL, unhide HB2, unhide HB3]; rfl
        have HC := hide (show [x, y] ∉ S → canR q S x y = canL q S (putL S [x, y]) 6 from fun hn => by
          rw [canR_yes (unhide HB1) hbx hn]
          exact canL_same (fun s => by rw [mem_putL, List.mem_append, List.mem_singleton]) 6)
        have HN := hide (show [x, y] ∈ S → canR q S x y = false from fun hn => canR_no (.inr (.inr hn)))
        have HCP := hide (show ∀ w', Below w3.heap.size w3 w' → _ from fun w' d' => l2copy_any P m d S w' ((unhide HS).below (below_after hb1 d')) hm)
        have HPUT := hide (show ∀ (W : World) (B g c B' : Nat) (A' : Option Addr), IntsS W B (.slice (some ⟨g, 0, none⟩) S.length c) S → Ints W B' (.slice A' 2 2) [x, y] → B ≤ W.heap.size → Calls Try.prog 55 #[.slice (some ⟨g, 0, none⟩) S.length c, .slice A' 2 2] W (PutEnds W B (putL S [x, y])) from fun W B g c B' A' hI hR hB =>
          l3putS_any B S g S.length c A' 2 2 _ [x, y] W hI (hR.arg (by simp) (Nat.le_refl _) (fun t ht => by simp at ht; rcases ht with rfl | rfl <;> omega)) hB hsm (by omega))
        obtain ⟨T, hT⟩ : ∃ T, T = putL S [x, y] := ⟨_, rfl⟩
        have hT2 : ∀ z ∈ T, z.length ≤ 1048576 ∧ Small z := fun z hz => by
          rw [hT, mem_putL] at hz
          rcases hz with hz | rfl
          · exact hsm z hz
          · refine ⟨by simp, fun t ht => ?_⟩
            simp at ht
            rcases ht with rfl | rfl <;> omega
        have hT0 : ∀ z ∈ T, 0 < z.length := fun z hz => by
          rw [hT, mem_putL] at hz
          rcases hz with hz | rfl
          · obtain ⟨u, v, rfl, _⟩ := hbl.two z hz
            simp
          · simp
        have HT := hide (And.intro hT2 hT0)
        have HTL := hide (show ([x, y] ∈ S → T.length = m) ∧ ([x, y] ∉ S → T.length = m + 1) from by
          have hml := (unhide HS).1
          constructor
          · intro hh; rw [hT, putL_in hbl.asc hh]; exact hml
          · intro hh; rw [hT, putL_out hbl.asc hh, hml])
        have HAT := hide (show ∀ w', Below w3.heap.size w3 w' → AtS w' P m S from fun w' d' => (unhide HS).below (below_after hb1 d'))
        rw [← hT] at HC HPUT
        clear hT hT2 hT0
        have hm25 : m ≤ 25 := by have := (unhide HS).1; omega
        have HQ := hide hok.1
        have HASC := hide hbl.asc
        have HSM := hide hsm
        have HFEW := hide hfew
        have hbd := Below.refl w3.heap.size w3
        clear hok hbl hfew hsm hbx hno HB1 HB2 HB3
        go_wp2
        refine Code.wp_mono (Q := fun e a' w8 => e = .normal ∧ ∃ gm g6 c6 gr g7 c7 : Nat, a' = ({ tmps := #[.agg #[.slice A n c, .slice P m d], .int .i64 x, .int .i64 y, .pointer (some ⟨w.heap.size, 0, none⟩), undef, undef, .bool false, .pointer (some ⟨gm, 0, none⟩), undef, undef, undef, .agg #[.slice A n c, .slice P m d], .bool true, .bool false, .bool false, .int .i64 x, .pointer (some ⟨w.heap.size, 0, none⟩), .slice A n c, .int .i64 n, .bool true, .bool false, .bool false, .bool false, .int .i64 y, .pointer (some ⟨w.heap.size, 0, none⟩), .slice A n c, .int .i64 n, .bool true, .bool false, .bool false, .pointer (some ⟨w.heap.size, 0, none⟩), .slice A n c, .pointer (some ⟨w.heap.size, 1, none⟩), .slice P m d, .slice (some ⟨g6, 0, none⟩) S.length c6, .int .i64 x, .int .i64 y, .slice (some ⟨gr, 0, none⟩) 2 2, .slice (some ⟨g7, 0, none⟩) T.length c7, .agg #[.slice A n c, .slice (some ⟨g7, 0, none⟩) T.length c7], undef, undef, undef, undef, undef, undef, undef, undef, undef, undef, undef, undef, undef, undef, undef, undef, undef, undef, undef, undef, undef, undef, undef, undef, undef, undef, undef, undef, undef, undef, undef, undef, undef, undef], defers := [] } : Act) ∧ Hid (MoreAt w3 gm A n c g7 c7 T w8)) ?imp ?reg
        rotate_left
        · skip
          go_region_held3 (fun w' => w'.cell? ⟨w.heap.size, 0, none⟩ = some (.slice A n c) ∧ w'.cell? ⟨w.heap.size, 1, none⟩ = some (.slice P m d) ∧ Below w3.heap.size w3 w')
            ((refine keep_cs y0 y1 l1 l1 ?_; repeat' (first | assumption | exact Below.refl _ _ | apply Below.drew | apply allocB | apply setB | exact Nat.le_refl _ | exact Nat.le_succ _ | exact hb6.size | exact Nat.le_succ_of_le hb6.size | exact hb7.size)))
            (first
              | (go_at_call 72; refine (unhide HCP _ (by repeat' (first | assumption | exact Below.refl _ _ | apply Below.drew | apply allocB))).mono ?_; rintro e w6 ⟨g6, c6, rfl, hI6, d6⟩; have hb6 : Below w3.heap.size w3 w6 := below_after (by repeat' (first | assumption | exact Below.refl _ _ | apply Below.drew | apply allocB)) d6)
              | (go_at_call 55;
                  refine (unhide HPUT _ _ _ _ 0 _ (by first | exact hI6 | exact intsS_a hI6 | exact intsS_a (intsS_a hI6)) (by first | exact two_1 _ _ _ | exact two_2 _ _ _ _ | exact ints_a (two_1 _ _ _) | exact Ints.below (ints_d (two_1 _ _ _)) d6 | exact ints_a (Ints.below (ints_d (two_1 _ _ _)) d6) | exact Ints.below (two_1 _ _ _) d6 | exact ints_a (Ints.below (two_1 _ _ _) d6) | exact Ints.below (ints_d (two_2 _ _ _ _)) d6 | exact ints_a (Ints.below (ints_d (two_2 _ _ _ _)) d6) | exact Ints.below (two_2 _ _ _ _) d6 | exact ints_a (Ints.below (two_2 _ _ _ _) d6) | exact Ints.below (ints_d (ints_a (two_1 _ _ _))) d6 | exact ints_a (Ints.below (ints_d (ints_a (two_1 _ _ _))) d6) | exact Ints.below (ints_a (two_1 _ _ _)) d6 | exact ints_a (Ints.below (ints_a (two_1 _ _ _)) d6)) (by first | exact d6.size | exact Nat.le_trans d6.size (by first | (simp; done) | (simp; omega)))).mono ?_; rintro e w7 ⟨v7, rfl, ⟨hI7, g7, c7, rfl⟩, d7, hk7⟩;
                  have hb7 : Below w3.heap.size w3 w7 := Below.trans (by repeat' (first | assumption | apply allocB)) (d7.mono (by first | (simp; done) | (simp; omega)));
                  (try (have hG : Whole w7 (w3.heap.size) 27 #[.slice none 0 0, .slice none 0 0] := whole_k (by first | (first | exact Whole.new _ _ _ | exact whole_2 _ _ _ _ | exact whole_a (Whole.new _ _ _) | exact whole_d (Whole.new _ _ _) | exact whole_d (whole_2 _ _ _ _) | exact whole_d (whole_a (Whole.new _ _ _))) | (first | exact whole_k (whole_d (Whole.new _ _ _)) (KeepI.of_below d6) | exact whole_k (whole_d (whole_2 _ _ _ _)) (KeepI.of_below d6) | exact whole_k (whole_d (whole_a (Whole.new _ _ _))) (KeepI.of_below d6) | exact whole_a (whole_k (whole_d (Whole.new _ _ _)) (KeepI.of_below d6)) | exact whole_a (whole_k (whole_d (whole_2 _ _ _ _)) (KeepI.of_below d6)) | exact whole_a (whole_k (whole_d (whole_a (Whole.new _ _ _))) (KeepI.of_below d6)) | exact whole_k (Whole.new _ _ _) (KeepI.of_below d6) | exact whole_k (whole_2 _ _ _ _) (KeepI.of_below d6) | exact whole_k (whole_a (Whole.new _ _ _)) (KeepI.of_below d6) | exact whole_a (whole_k (Whole.new _ _ _) (KeepI.of_below d6)) | exact whole_a (whole_k (whole_2 _ _ _ _) (KeepI.of_below d6)) | exact whole_a (whole_k (whole_a (Whole.new _ _ _)) (KeepI.of_below d6)))) hk7; have r0 := hG.cell 0; have r1 := hG.cell 1; have f0 := hG.frozen 0; have f1 := hG.frozen 1; have lG := hG.lt; simp only [List.getElem?_toArray, List.getElem?_cons_zero, List.getElem?_cons_succ] at r0 r1));
                  (try (have hG : Whole w7 (w3.heap.size + 1) 27 #[.slice none 0 0, .slice none 0 0] := whole_k (by first | (first | exact Whole.new _ _ _ | exact whole_2 _ _ _ _ | exact whole_a (Whole.new _ _ _) | exact whole_d (Whole.new _ _ _) | exact whole_d (whole_2 _ _ _ _) | exact whole_d (whole_a (Whole.new _ _ _))) | (first | exact whole_k (whole_d (Whole.new _ _ _)) (KeepI.of_below d6) | exact whole_k (whole_d (whole_2 _ _ _ _)) (KeepI.of_below d6) | exact whole_k (whole_d (whole_a (Whole.new _ _ _))) (KeepI.of_below d6) | exact whole_a (whole_k (whole_d (Whole.new _ _ _)) (KeepI.of_below d6)) | exact whole_a (whole_k (whole_d (whole_2 _ _ _ _)) (KeepI.of_below d6)) | exact whole_a (whole_k (whole_d (whole_a (Whole.new _ _ _))) (KeepI.of_below d6)) | exact whole_k (Whole.new _ _ _) (KeepI.of_below d6) | exact whole_k (whole_2 _ _ _ _) (KeepI.of_below d6) | exact whole_k (whole_a (Whole.new _ _ _)) (KeepI.of_below d6) | exact whole_a (whole_k (Whole.new _ _ _) (KeepI.of_below d6)) | exact whole_a (whole_k (whole_2 _ _ _ _) (KeepI.of_below d6)) | exact whole_a (whole_k (whole_a (Whole.new _ _ _)) (KeepI.of_below d6)))) hk7; have r0 := hG.cell 0; have r1 := hG.cell 1; have f0 := hG.frozen 0; have f1 := hG.frozen 1; have lG := hG.lt; simp only [List.getElem?_toArray, List.getElem?_cons_zero, List.getElem?_cons_succ] at r0 r1));
                  (try (have hG : Whole w7 (w6.heap.size) 27 #[.slice none 0 0, .slice none 0 0] := whole_k (by first | (first | exact Whole.new _ _ _ | exact whole_2 _ _ _ _ | exact whole_a (Whole.new _ _ _) | exact whole_d (Whole.new _ _ _) | exact whole_d (whole_2 _ _ _ _) | exact whole_d (whole_a (Whole.new _ _ _))) | (first | exact whole_k (whole_d (Whole.new _ _ _)) (KeepI.of_below d6) | exact whole_k (whole_d (whole_2 _ _ _ _)) (KeepI.of_below d6) | exact whole_k (whole_d (whole_a (Whole.new _ _ _))) (KeepI.of_below d6) | exact whole_a (whole_k (whole_d (Whole.new _ _ _)) (KeepI.of_below d6)) | exact whole_a (whole_k (whole_d (whole_2 _ _ _ _)) (KeepI.of_below d6)) | exact whole_a (whole_k (whole_d (whole_a (Whole.new _ _ _))) (KeepI.of_below d6)) | exact whole_k (Whole.new _ _ _) (KeepI.of_below d6) | exact whole_k (whole_2 _ _ _ _) (KeepI.of_below d6) | exact whole_k (whole_a (Whole.new _ _ _)) (KeepI.of_below d6) | exact whole_a (whole_k (Whole.new _ _ _) (KeepI.of_below d6)) | exact whole_a (whole_k (whole_2 _ _ _ _) (KeepI.of_below d6)) | exact whole_a (whole_k (whole_a (Whole.new _ _ _)) (KeepI.of_below d6)))) hk7; have r0 := hG.cell 0; have r1 := hG.cell 1; have f0 := hG.frozen 0; have f1 := hG.frozen 1; have lG := hG.lt; simp only [List.getElem?_toArray, List.getElem?_cons_zero, List.getElem?_cons_succ] at r0 r1));
                  (try (have hG : Whole w7 (w6.heap.size + 1) 27 #[.slice none 0 0, .slice none 0 0] := whole_k (by first | (first | exact Whole.new _ _ _ | exact whole_2 _ _ _ _ | exact whole_a (Whole.new _ _ _) | exact whole_d (Whole.new _ _ _) | exact whole_d (whole_2 _ _ _ _) | exact whole_d (whole_a (Whole.new _ _ _))) | (first | exact whole_k (whole_d (Whole.new _ _ _)) (KeepI.of_below d6) | exact whole_k (whole_d (whole_2 _ _ _ _)) (KeepI.of_below d6) | exact whole_k (whole_d (whole_a (Whole.new _ _ _))) (KeepI.of_below d6) | exact whole_a (whole_k (whole_d (Whole.new _ _ _)) (KeepI.of_below d6)) | exact whole_a (whole_k (whole_d (whole_2 _ _ _ _)) (KeepI.of_below d6)) | exact whole_a (whole_k (whole_d (whole_a (Whole.new _ _ _))) (KeepI.of_below d6)) | exact whole_k (Whole.new _ _ _) (KeepI.of_below d6) | exact whole_k (whole_2 _ _ _ _) (KeepI.of_below d6) | exact whole_k (whole_a (Whole.new _ _ _)) (KeepI.of_below d6) | exact whole_a (whole_k (Whole.new _ _ _) (KeepI.of_below d6)) | exact whole_a (whole_k (whole_2 _ _ _ _) (KeepI.of_below d6)) | exact whole_a (whole_k (whole_a (Whole.new _ _ _)) (KeepI.of_below d6)))) hk7; have r0 := hG.cell 0; have r1 := hG.cell 1; have f0 := hG.frozen 0; have f1 := hG.frozen 1; have lG := hG.lt; simp only [List.getElem?_toArray, List.getElem?_cons_zero, List.getElem?_cons_succ] at r0 r1))))
          all_goals
            first
              | exact ⟨rfl, _, g6, c6, _, g7, c7, rfl, hide (MoreAt.made (unhide HT).1 hI7 hb7)⟩
              | exact ⟨rfl, _, g6, c6, _, g7, c7, rfl, hide (MoreAt.put (unhide HT).1 (unhide HT).2 hI7 hb7 hG (by first | exact Nat.le_refl _ | exact Nat.le_succ _ | exact hb6.size | exact Nat.le_succ_of_le hb6.size))⟩
        · rintro e a' w8 ⟨rfl, gm, g6, c6, gr, g7, c7, rfl, HM⟩
          clear HPUT HCP
          obtain ⟨hG8, hI8, hB8⟩ := unhide HM
          have r0 := hG8.cell 0
          have r1 := hG8.cell 1
          have lg8 := hG8.lt
          simp only [List.getElem?_toArray, List.getElem?_cons_zero, List.getElem?_cons_succ] at r0 r1
          have q0 := (hB8.cell (p := ⟨w.heap.size, 0, none⟩) l1).trans y0
          have q1 := (hB8.cell (p := ⟨w.heap.size, 1, none⟩) l1).trans y1
          have lw8 : w.heap.size < w8.heap.size := Nat.lt_of_lt_of_le l1 hB8.size
          have hbw8 := below_after hb1 hB8
          have HI8 := hide hI8
          clear hG8 hI8 HM
          by_cases hin : [x, y] ∈ S
          · have hTm := (unhide HTL).1 hin
            obtain rfl : b4 = false := (unhide HB4).symm.trans (unhide HN hin)
            clear HB4 HTL HN HC hin HI8
            go_wp2
            go_ret
            exact ⟨rfl, hbw8⟩
          · have hTm := (unhide HTL).2 hin
            have hTC := hide (unhide HC hin)
            have hne : ((T.length : Int) == (m : Int)) = false := by simp; omega
            have hTle : T.length ≤ 1048576 := by omega
            have HTLE := hide hTle
            clear HTL HN HC hin hTm hTle
            have HP := hide (show ∀ k : Nat, k ≤ 5 → ∀ w', Calls Try.prog 29 #[.int .i64 (k : Int)] w' (GivesSS w' (permL k)) from fun k hk w' => by
              have := sperms_any (k : Int) (by omega) w'
              rwa [permsR_yes (by omega)] at this)
            go_wp2
            clear hne
            go_loopw [8] (fun i wr => ∃ k : Nat, k ≤ 6 ∧ i = .int .i64 k ∧ Below w8.heap.size w8 wr ∧ Hid (canL q S T k = true)) (fun i _ => 6 - (intOf i).toNat)
            case atStart => exact ⟨0, Nat.zero_le _, rfl, Below.refl _ _, hide rfl⟩
            case round =>
              obtain ⟨k, hk, rfl, hd, hc⟩ := hrel
              by_cases hlt : k < 6
              · have HPk := hide (unhide HP k (by omega))
                have hle5 : (k : Int) ≤ 5 := by omega
                go_wp2_with fail
                refine (unhide HPk _).mono ?_
                rintro e w9 ⟨A9, c9, rfl, o9, d9⟩
                have hd9 := below_after hd d9
                have HO := hide o9
                have hlen := (permL_small k (by omega)).1
                obtain ⟨N, hN⟩ : ∃ N, N = (permL k).length := ⟨_, rfl⟩
                rw [← hN] at HO hlen ⊢
                have HN := hide hN
                have HK := hide hc
                clear HPk o9 d9 hd hN hc
                go_wp2
                go_loopw [10] (fun i wr => ∃ j : Nat, j ≤ N ∧ i = .int .i64 j ∧ Below w9.heap.size w9 wr ∧ Hid (canK q S T k j = true)) (fun i _ => N - (intOf i).toNat)
                case atStart => exact ⟨0, Nat.zero_le _, rfl, Below.refl _ _, hide rfl⟩
                case round =>
                  obtain ⟨j, hj, rfl, hdj, hkj⟩ := hrel
                  by_cases hltj : j < N
                  · obtain ⟨ad, A6, c6, z, rfl, hz, hcell, hI⟩ := ((unhide HO).below hdj).at_ hltj
                    have hzm := List.mem_of_getElem? hz
                    have hzp := permL_isP k (by omega) z hzm
                    obtain ⟨hzl, hzr⟩ := permL_rows k (by omega) z hzm
                    have ha := hI.arg (by omega) hI.cap fun v hv => by have := hzr v hv; omega
                    have hdw := below_after hd9 hdj
                    have hbw := below_after hbw8 hdw
                    have hA := (unhide HA).below hbw
                    have hb3 := below_after hB8 hdw
                    have a0 := (hdw.cell (p := ⟨w.heap.size, 0, none⟩) lw8).trans q0
                    have a1 := (hdw.cell (p := ⟨w.heap.size, 1, none⟩) lw8).trans q1
                    have a2 := (hdw.cell (p := ⟨gm, 0, none⟩) lg8).trans r0
                    have a3 := (hdw.cell (p := ⟨gm, 1, none⟩) lg8).trans r1
                    have s1 : w.heap.size < wr.heap.size := Nat.lt_of_lt_of_le lw8 hdw.size
                    have s2 : gm < wr.heap.size := Nat.lt_of_lt_of_le lg8 hdw.size
                    have s3 := World.block_lt_of_cell? _ _ hcell
                    obtain ⟨L1, hL1⟩ : ∃ L, L = (meshR z q S).length := ⟨_, rfl⟩
                    obtain ⟨L2, hL2⟩ : ∃ L, L = (meshR z q T).length := ⟨_, rfl⟩
                    have H1 := hide (show ∀ w', Below wr.heap.size wr w' → Calls Try.prog 56 #[.slice A6 z.length c6, .agg #[.slice A n c, .slice P m d]] w' (GivesN w' (L1 : Nat)) from fun w' d' => by
                      rw [hL1]; exact l9count_any A6 A P _ c6 _ n c B m d z q S w' (ha.below d') (hA.below d') (unhide HAT w' (below_after hb3 d')) hm hzp (unhide HQ))
                    have H2 := hide (show ∀ w', Below wr.heap.size wr w' → Calls Try.prog 56 #[.slice A6 z.length c6, .agg #[.slice A n c, .slice (some ⟨g7, 0, none⟩) T.length c7]] w' (GivesN w' (L2 : Nat)) from fun w' d' => by
                      rw [hL2]; exact l9count_any A6 A (some ⟨g7, 0, none⟩) _ c6 _ n c B T.length c7 z q T w' (ha.below d') (hA.below d') ((unhide HI8).below (below_after hdw d')) (unhide HTLE) hzp (unhide HQ))
                    obtain ⟨e1, he1⟩ : ∃ b, decide (0 < (L1 : Int)) = b := ⟨_, rfl⟩
                    obtain ⟨e2, he2⟩ : ∃ b, decide (0 < (L2 : Int)) = b := ⟨_, rfl⟩
                    have hcb : canB q S T z = (e1 == e2) := by unfold canB; rw [← hL1, ← hL2, ← he1, ← he2]; simp
                    have hcan := canK_step (q := q) (S := S) (T := T) hz
                    rw [hcb, unhide hkj, Bool.true_and] at hcan
                    have HZ := hide hz
                    have HCB := hide hcb
                    have HCN := hide hcan
                    have HDJ := hide hdj
                    have hbd := Below.refl wr.heap.size wr
                    clear hz hzm hzp hzl hzr ha hI hA hcb hcan hdj hdw hkj hL1 hL2 hb3
                    go_wp2
                    go_region_held3 (fun w' => w'.cell? ⟨w.heap.size, 0, none⟩ = some (.slice A n c) ∧ w'.cell? ⟨w.heap.size, 1, none⟩ = some (.slice P m d) ∧ w'.cell? ⟨gm, 0, none⟩ = some (.slice A n c) ∧ w'.cell? ⟨gm, 1, none⟩ = some (.slice (some ⟨g7, 0, none⟩) T.length c7) ∧ w'.cell? (ad.add j) = some (.slice A6 z.length c6) ∧ Below wr.heap.size wr w') ((refine keep5 a0 a1 a2 a3 hcell s1 s1 s2 s2 s3 ?_; first | assumption | (apply Below.drew; assumption)))
                      (first
                        | (go_at_call 56; refine (unhide H1 _ (by first | assumption | (apply Below.drew; assumption))).mono ?_; rintro e w6 ⟨rfl, hb6⟩; have hb6' : Below wr.heap.size wr w6 := below_after (hbd.drew) hb6; clear H1)
                        | (go_at_call 56; refine (unhide H2 _ (by first | assumption | (apply Below.drew; assumption))).mono ?_; rintro e w7 ⟨rfl, hb7⟩; have hb7' : Below wr.heap.size wr w7 := below_after hb6' hb7; clear H2))
                    have hrel' := hide (below_after (unhide HDJ) hb7')
                    have hbw7 := below_after hbw hb7'
                    clear hb6 hb6' hb7 hb7' hbd HDJ a0 a1 a2 a3 hcell
                    cases e1 with
                    | false =>
                      cases e2 with
                      | false =>
                        have g1 := of_decide_eq_false he1
                        have g2 := of_decide_eq_false he2
                        have n1 : ¬ 0 < L1 := by omega
                        have n2 : ¬ 0 < L2 := by omega
                        have hcc : (!(decide (0 < L1) == decide (0 < L2))) = false := by simp [n1, n2]
                        clear he1 he2 g1 g2 n1 n2
                        have hnext := hide (show canK q S T k (j + 1) = true from by rw [unhide HCN]; rfl)
                        clear HCB HCN
                        go_wp2
                        all_goals (rename_i hh; try exact absurd (hcc.symm.trans hh) (by decide))
                        go_roundw
                        case rel => exact ⟨j + 1, by omega, by go_num, unhide hrel', hnext⟩
                        case measure => simp [intOf]; omega
                      | true =>
                        have g1 := of_decide_eq_false he1
                        have g2 := of_decide_eq_true he2
                        have n1 : ¬ 0 < L1 := by omega
                        have n2 : 0 < L2 := by omega
                        have hcc : (!(decide (0 < L1) == decide (0 < L2))) = true := by simp [n1, n2]
                        clear he1 he2 g1 g2 n1 n2
                        obtain rfl : b4 = false := (unhide HB4).symm.trans ((unhide hTC).trans (canL_no (k := k) hlt (canN_no (unhide HZ) (by rw [unhide HCB]; rfl))))
                        clear HCB HCN HB4
                        go_wp2
                        all_goals (rename_i hh; try exact absurd (hcc.symm.trans hh) (by decide))
                        go_ret
                        exact ⟨rfl, hbw7⟩
                    | true =>
                      cases e2 with
                      | true =>
                        have g1 := of_decide_eq_true he1
                        have g2 := of_decide_eq_true he2
                        have n1 : 0 < L1 := by omega
                        have n2 : 0 < L2 := by omega
                        have hcc : (!(decide (0 < L1) == decide (0 < L2))) = false := by simp [n1, n2]
                        clear he1 he2 g1 g2 n1 n2
                        have hnext := hide (show canK q S T k (j + 1) = true from by rw [unhide HCN]; rfl)
                        clear HCB HCN
                        go_wp2
                        all_goals (rename_i hh; try exact absurd (hcc.symm.trans hh) (by decide))
                        go_roundw
                        case rel => exact ⟨j + 1, by omega, by go_num, unhide hrel', hnext⟩
                        case measure => simp [intOf]; omega
                      | false =>
                        have g1 := of_decide_eq_true he1
                        have g2 := of_decide_eq_false he2
                        have n1 : 0 < L1 := by omega
                        have n2 : ¬ 0 < L2 := by omega
                        have hcc : (!(decide (0 < L1) == decide (0 < L2))) = true := by simp [n1, n2]
                        clear he1 he2 g1 g2 n1 n2
                        obtain rfl : b4 = false := (unhide HB4).symm.trans ((unhide hTC).trans (canL_no (k := k) hlt (canN_no (unhide HZ) (by rw [unhide HCB]; rfl))))
                        clear HCB HCN HB4
                        go_wp2
                        all_goals (rename_i hh; try exact absurd (hcc.symm.trans hh) (by decide))
                        go_ret
                        exact ⟨rfl, hbw7⟩
                  · obtain rfl : N = j := by omega
                    have hnext := hide (show canL q S T (k + 1) = true from by
                      rw [canL_step, unhide HK, Bool.true_and, ← canK_all (k := N) (by rw [← unhide HN]; exact Nat.le_refl _)]
                      exact unhide hkj)
                    have hrel' := hide (below_after hd9 hdj)
                    clear hkj hdj HK HO
                    go_wp2
                    go_roundw
                    case rel => exact ⟨k + 1, by omega, by go_num, unhide hrel', hnext⟩
                    case measure => simp [intOf]; omega
              · obtain rfl : k = 6 := by omega
                obtain rfl : b4 = true := (unhide HB4).symm.trans ((unhide hTC).trans (unhide hc))
                have hbw := below_after hbw8 hd
                have hle5 : ¬ (6 : Int) ≤ 5 := by omega
                clear HB4 hd hc
                go_wp2
                go_ret
                exact ⟨rfl, hbw⟩
end Go.Proofs.Ytcoegjhhhnfplaa


/-
  impl.hasShaded: a loop over the shaded occurrences that ends at the first one.
-/

namespace Go.Proofs.Ytcoegjhhhnfplaa
set_option maxRecDepth 100000
open Go.RowKit Go.Shelf
attribute [local go_sem] Oper.semAt_some

set_option maxRecDepth 100000 in
set_option maxHeartbeats 4000000 in
theorem ihasm_any (A A' : Option Addr) (n c B n' c' B' mb mm : Nat) (p q : List Int) (S : List (List Int)) (w : World) (h : Arg w B A n c p) (h' : Arg w B' A' n' c' q) (hM : Boxes w mb mm S) (hp : isP p = true) (hq : isP q = true) :
    Calls Try.prog 71 #[.slice A n c, .slice A' n' c', .map (some mb)] w (GivesB w (decide (0 < (meshR p q S).length))) := by
  have hn8 : n ≤ 8 := by have := isP_le hp; have := h.len; omega
  have hn8' : n' ≤ 8 := by have := isP_le hq; have := h'.len; omega
  have hBu := h.under
  have hBu' := h'.under
  have hmbl := hM.lt
  -- the world behind the result's cell
  obtain ⟨w0, hw0⟩ : ∃ w0, w0 = w.alloc (.cells #[.bool false] 4) := ⟨_, rfl⟩
  have hb0 : Below w.heap.size w w0 := by rw [hw0]; exact (Below.refl _ w).alloc (Nat.le_refl _) _
  have hc0 : Boxed w0 w.heap.size 4 (.bool false) := by rw [hw0]; exact Boxed.new w _ _
  have hs0 : w0.heap.size = w.heap.size + 1 := by rw [hw0]; simp
  have H4 := hide (ishd_made A A' n c n' c' mb w0)
  have d3 : Below w0.heap.size w0 (((w0.alloc (.cells #[.slice A n c] 24)).alloc (.cells #[.slice A' n' c'] 24)).alloc (.cells #[.map (some mb)] 71)) := (((Below.refl _ w0).alloc (Nat.le_refl _) _).alloc (by simp) _).alloc (by simp; omega) _
  have b2 := Boxed.new (w0.alloc (.cells #[.slice A n c] 24)) 24 (.slice A' n' c')
  have b3 := Boxed.new ((w0.alloc (.cells #[.slice A n c] 24)).alloc (.cells #[.slice A' n' c'] 24)) 71 (.map (some mb))
  simp only [World.size_alloc] at b2 b3
  have HT := hide (shd_tell A A' n c B n' c' B' p q S hp hq (fun k => k < w0.heap.size + 16 ∧ k ≠ w.heap.size ∧ k ≠ w0.heap.size + 3 ∧ k ≠ w0.heap.size + 4) w0.heap.size (w0.heap.size + 1) (w0.heap.size + 2) mb mm 256 _ (h.below (below_after hb0 d3)) (h'.below (below_after hb0 d3)) (Boxed.alloc (Boxed.alloc (Boxed.new w0 _ _) _) _) (Boxed.alloc b2 _) b3 (hM.later (below_after hb0 d3))
      ⟨fun k hk => by omega, fun k hk => by omega, by omega, by omega, by omega, by omega, fun k h1 h2 => by simp at h1 h2; omega⟩ 3 (chR_room9 hn8 hn8'))
  refine (callsIn_wide (n := 4)).1 ?_
  refine callsIn_of_wp_marks Try.func71 rfl trivial ?_ rfl
  simp only [Try.ntmps71, List.size_toArray, List.length_cons, List.length_nil, Nat.reduceAdd, Nat.reduceSub, Array.replicate_succ, Array.replicate_zero, List.push_toArray, List.append_toArray, List.nil_append, List.cons_append]
  obtain ⟨b, hb⟩ : ∃ b, b = w.heap.size := ⟨_, rfl⟩
  have HB := hide hb
  have HW0 := hide hw0
  rw [← hb] at hc0 hs0
  clear h h' hp hq hBu hBu' hM b2 b3 hb hw0
  gi_wp2_with fail
  rw [← unhide HW0]
  refine ⟨trivial, ?_⟩
  refine (callsIn_wide.2 (unhide H4)).mono ?_
  rintro e w3 ⟨rfl, hw3⟩
  have hseq := unhide HT
  rw [← hw3] at hseq d3
  rw [← unhide HB, hs0] at hseq
  have hs3 : w3.heap.size = b + 4 := by rw [hw3]; simp [hs0]
  have hc3 : Boxed w3 b 4 (.bool false) := boxed_later hc0 d3
  have d3 : Below w.heap.size w w3 := below_after hb0 d3
  have hbw : w.heap.size ≤ b := Nat.le_of_eq (unhide HB).symm
  have HS3 := hide hs3
  have HD3 := hide d3
  rw [← unhide HB, hs0]
  clear H4 HT hw3 hc0 hb0 HW0 hs0 hmbl
  gi_wp2
  refine range_zone rfl (by decide) (gf := 85) (lb := #[.pointer (some ⟨b + 1, 0, none⟩), .pointer (some ⟨b + 1 + 1, 0, none⟩), .pointer (some ⟨b + 1 + 2, 0, none⟩)]) rfl trivial (enters_of Try.func85 (by kernel_rfl) rfl)
    hseq (fun h k => h.trans k) (fun W r r' hd => Keep.putObj W (by omega) _) (fun _ => rfl) (fun U V x r r' hdU hdV h => ⟨kn_row _ U V x r r' hdU hdV h.1, h.2⟩)
    (fun pre V => pre = [] ∧ Boxed V b 4 (.bool false) ∧ Below w.heap.size w V ∧ w3.heap.size ≤ V.heap.size)
    (fun c pre V => c = .ret ∧ 0 < (meshR p q S).length ∧ Boxed V b 4 (.bool true) ∧ Below w.heap.size w V ∧ w3.heap.size ≤ V.heap.size)
    (fun pre U V h hb' => ⟨h.1, Boxed.but h.2.1 hb' (by omega), h.2.2.1.trans (hb'.below (by have := (unhide HD3).size; omega) (by have := (unhide HD3).size; have := h.2.2.2; omega)), Nat.le_trans h.2.2.2 hb'.size⟩)
    (fun c pre U V h hb' => ⟨h.1, h.2.1, Boxed.but h.2.2.1 hb' (by omega), h.2.2.2.1.trans (hb'.below (by have := (unhide HD3).size; omega) (by have := (unhide HD3).size; have := h.2.2.2.2; omega)), Nat.le_trans h.2.2.2.2 hb'.size⟩)
    ⟨rfl, hc3, d3, Nat.le_refl _⟩
    (fun x => { tmps := #[.slice A n c, .slice A' n' c', .map (some mb), undef, undef, undef, .pointer (some ⟨b, 0, none⟩), .slice A n c, .slice A' n' c', .map (some mb),
      .func (.func 85) #[] #[.pointer (some ⟨b + 1, 0, none⟩), .pointer (some ⟨b + 1 + 1, 0, none⟩), .pointer (some ⟨b + 1 + 2, 0, none⟩)], x.1], defers := [] }) ?assign ?body ?done ?stop
  case assign =>
    intro l x W K hK
    gi_wp2
    simp only [← Array.foldl_toList, Array.toList_zip, List.zip_cons_cons, List.zip_nil_left, List.foldl_cons, List.foldl_nil]
    exact hK
  case body =>
    rintro l pre ⟨u, zs⟩ U W ⟨rfl, hcU, hBU, hsU⟩ hzU hbU ⟨_, hin⟩ hlen
    have hc := boxed_later hcU hbU
    have hcell := hc.cell
    have hfz := hc.frozen
    have hg := grownBy_setCell' W b (.bool true)
    have hlen0 : 0 < (meshR p q S).length := List.length_pos_of_mem hin
    have hend : (∀ r, Desk w3.heap.size r W → Desk w3.heap.size r (W.setCell ⟨b, 0, none⟩ (.bool true))) ∧ Keep (fun k => k < b + 1 + 16 ∧ k ≠ b ∧ k ≠ b + 1 + 3 ∧ k ≠ b + 1 + 4) W (W.setCell ⟨b, 0, none⟩ (.bool true)) ∧ Code.ret = .ret ∧ 0 < (meshR p q S).length ∧ Boxed (W.setCell ⟨b, 0, none⟩ (.bool true)) b 4 (.bool true) ∧ Below w.heap.size w (W.setCell ⟨b, 0, none⟩ (.bool true)) ∧ w3.heap.size ≤ (W.setCell ⟨b, 0, none⟩ (.bool true)).heap.size :=
      ⟨fun r hd => ⟨(hg.block _ hd.lt (by simp; omega)).trans hd.rec_, (hg.block _ (by have := hd.lt; omega) (by simp; omega)).trans hd.marks⟩, Keep.setCell W (by omega) _, rfl, hlen0, Boxed.set _ hc, (hBU.trans (hbU.mono (by omega))).setCell (p := ⟨b, 0, none⟩) hbw _, by have := hg.size; have := hbU.size; omega⟩
    have HEND := hide hend
    clear hc hcU hBU hin hlen hlen0 hg hend hs3
    gi_wp2
    have H := unhide HEND
    exact ⟨H.1, H.2.1, rfl, H.2.2.2⟩
  case done =>
    rintro ys W hS ⟨rfl, hc, hB, hs⟩ hK
    have h0 : decide (0 < (meshR p q S).length) = false := by rw [← hS]; rfl
    have hcell := hc.cell
    have hfz := hc.frozen
    have hB2 : Below w.heap.size w ((W.setCell ⟨b, 0, none⟩ (.bool false)).putObj w3.heap.size (.deferred none)) := (hB.setCell (p := ⟨b, 0, none⟩) hbw _).trans ((Below.refl _ _).grown (grownBy_putObj' _ _ _) (by have := (unhide HD3).size; have := (grownBy_setCell' W b (.bool false)).size; omega) (fun k e => by cases e; exact (unhide HD3).size))
    have H0 := hide h0
    clear h0 hs3
    gi_wp2
    have hK' := (KeepsOthers.setCell W ⟨b, 0, none⟩ (.bool false)).same w3.heap.size _ hK rfl
    refine ⟨by simp, .inl ⟨_, _, rfl, run_takeDeferred hK', ?_⟩⟩
    have hc5 := cell_kept (World.cell?_setCell_same' W ⟨b, 0, none⟩ (.bool false) (by rw [hcell]; rfl)) (grownBy_putObj' _ w3.heap.size (.deferred none)) (fun r e => by cases e; exact ⟨_, hK', rfl⟩)
    refine ⟨.bool false, ?_, by rw [unhide H0], hB2⟩
    simp [results, Try.f71, go_sem, hc5]
  case stop =>
    rintro c pre W _ ⟨rfl, hl0, hc, hB, hs⟩ hK
    have h0 : decide (0 < (meshR p q S).length) = true := decide_eq_true hl0
    have hcell := hc.cell
    have hB2 : Below w.heap.size w (W.putObj w3.heap.size (.deferred none)) := hB.trans ((Below.refl _ _).grown (grownBy_putObj' _ _ _) (by have := (unhide HD3).size; omega) (fun k e => by cases e; exact (unhide HD3).size))
    have H0 := hide h0
    clear h0 hs3
    gi_wp2
    refine ⟨by simp, .inl ⟨_, _, rfl, run_takeDeferred hK, ?_⟩⟩
    have hc5 := cell_kept hcell (grownBy_putObj' _ w3.heap.size (.deferred none)) (fun r e => by cases e; exact ⟨_, hK, rfl⟩)
    refine ⟨.bool true, ?_, by rw [unhide H0], hB2⟩
    simp [results, Try.f71, go_sem, hc5]
end Go.Proofs.Ytcoegjhhhnfplaa


/-
  impl.CanShade by its contract.
-/

namespace Go.Proofs.Ytcoegjhhhnfplaa
set_option maxRecDepth 100000
open Go.RowKit
set_option maxRecDepth 100000 in
set_option maxHeartbeats 4000000 in
theorem icans_any (A P : Option Addr) (n c B m d : Nat) (q : List Int) (S : List (List Int)) (x y : Int) (w : World) (h : Arg w B A n c q) (hS : AtS w P m S) (hm : m ≤ 1048576) :
    Calls Try.prog 27 #[.agg #[.slice A n c, .slice P m d], .int .i64 x, .int .i64 y] w (GivesB w (canR q S x y)) := by
  have hl := h.len
  have hBu := h.under
  obtain ⟨w0, hw0⟩ : ∃ w0, w0 = w.alloc (.cells #[.slice A n c, .slice P m d] 27) := ⟨_, rfl⟩
  have b0 : Below w.heap.size w w0 := by rw [hw0]; exact (Below.refl _ w).alloc (Nat.le_refl _) _
  have g0 : Whole w0 w.heap.size 27 #[.slice A n c, .slice P m d] := by rw [hw0]; exact Whole.new _ _ _
  have x0 := g0.cell 0
  have x1 := g0.cell 1
  simp only [List.getElem?_toArray, List.getElem?_cons_zero, List.getElem?_cons_succ] at x0 x1
  have lw := g0.lt
  obtain ⟨b1, hb1⟩ : ∃ b, meshOK q S = b := ⟨_, rfl⟩
  obtain ⟨b2, hb2⟩ : ∃ b, boxB n x y = b := ⟨_, rfl⟩
  obtain ⟨b3, hb3⟩ : ∃ b, decide ([x, y] ∈ S) = b := ⟨_, rfl⟩
  obtain ⟨b4, hb4⟩ : ∃ b, canR q S x y = b := ⟨_, rfl⟩
  rw [hb4]
  have H1 := hide (imesh_any A P n c B m d q S w0 (h.below b0) (hS.below b0) hm)
  have H2 := hide (fun w' => isbox_any A P n c m d x y w')
  rw [hb1] at H1
  rw [hb2] at H2
  have HB1 := hide hb1
  have HB2 := hide hb2
  have HB3 := hide hb3
  have HB4 := hide hb4
  have HA := hide h
  have HS := hide hS
  have HW := hide hw0
  have HL := hide hl
  clear h hS hb1 hb2 hb3 hb4 hw0 g0
  go_enter Try.func27, Try.ntmps27
  go_wp2_with fail
  rw [← unhide HW]
  refine (unhide H1).mono ?_
  rintro e w1 ⟨rfl, d1⟩
  have hb1 := below_after b0 d1
  have y0 := (d1.cell (p := ⟨w.heap.size, 0, none⟩) lw).trans x0
  have y1 := (d1.cell (p := ⟨w.heap.size, 1, none⟩) lw).trans x1
  have l1 : w.heap.size < w1.heap.size := Nat.lt_of_lt_of_le lw d1.size
  clear H1 HW d1 x0 x1 b0 lw
  cases b1 with
  | false =>
    obtain rfl : b4 = false := (unhide HB4).symm.trans (canR_no (.inl (unhide HB1)))
    clear HB4
    go_wp2
    go_ret
    exact ⟨rfl, hb1⟩
  | true =>
    go_wp2_with fail
    refine (unhide H2 _).mono ?_
    rintro e w2 ⟨rfl, d2⟩
    have hb2 := below_after hb1 d2
    have z0 := (d2.cell (p := ⟨w.heap.size, 0, none⟩) l1).trans y0
    have z1 := (d2.cell (p := ⟨w.heap.size, 1, none⟩) l1).trans y1
    have l2 : w.heap.size < w2.heap.size := Nat.lt_of_lt_of_le l1 d2.size
    clear H2 d2 y0 y1 hb1 l1
    cases b2 with
    | false =>
      obtain rfl : b4 = false := (unhide HB4).symm.trans (canR_no (.inr (.inl (by rw [unhide HL]; exact unhide HB2))))
      clear HB4
      go_wp2
      go_ret
      exact ⟨rfl, hb2⟩
    | true =>
      obtain ⟨hx, hy⟩ : (0 ≤ x ∧ x ≤ (n : Int)) ∧ (0 ≤ y ∧ y ≤ (n : Int)) := by
        have := unhide HB2
        unfold boxB at this
        simpa only [Bool.and_eq_true, decide_eq_true_eq] using this
      have hok := meshOK_iff.1 (unhide HB1)
      have hn4 : n ≤ 4 := by have := hok.2.1; have := unhide HL; omega
      have H3 := hide (ishading_any P m d S w2 ((unhide HS).below hb2) hm (mesh_two (unhide HB1)))
      have HQ := hide hok.1
      clear hok
      go_wp2_with fail
      refine (unhide H3).mono ?_
      rintro e w3 ⟨rfl, hB3, d3⟩
      have hb3 := below_after hb2 d3
      have x0 := (d3.cell (p := ⟨w.heap.size, 0, none⟩) l2).trans z0
      have l3 : w.heap.size < w3.heap.size := Nat.lt_of_lt_of_le l2 d3.size
      obtain ⟨g, hg⟩ : ∃ g, g = w2.heap.size := ⟨_, rfl⟩
      rw [← hg] at hB3 ⊢
      have hrun := hB3.lookup (x := x) (y := y) (WalkArith.wf_i64 (by omega)) (WalkArith.wf_i64 (by omega))
      rw [unhide HB3] at hrun
      have H4 := hide (iwith_any g m S x y (by omega) (WalkArith.wf_i64 (by omega)) (WalkArith.wf_i64 (by omega)) w3 hB3)
      have HM := hide hB3
      clear H3 d3 z0 z1 hb2 l2 hg hB3
      cases b3 with
      | true =>
        obtain rfl : b4 = false := (unhide HB4).symm.trans (canR_no (.inr (.inr (of_decide_eq_true (unhide HB3)))))
        clear HB4 H4
        go_wp2
        go_ret
        exact ⟨rfl, hb3⟩
      | false =>
        have HC := hide (canR_yes (unhide HB1) (by rw [unhide HL]; exact unhide HB2) (of_decide_eq_false (unhide HB3)))
        go_wp2_with fail
        refine (unhide H4).mono ?_
        rintro e w4 ⟨g2, rfl, hg2, hB4, d4⟩
        have hb4 := below_after hb3 d4
        have y0 := (d4.cell (p := ⟨w.heap.size, 0, none⟩) l3).trans x0
        have l4 : w.heap.size < w4.heap.size := Nat.lt_of_lt_of_le l3 d4.size
        have HM1 := hide ((unhide HM).later d4)
        have HM2 := hide hB4
        have HP := hide (show ∀ k : Nat, k ≤ 5 → ∀ w', Calls Try.prog 70 #[.int .i64 (k : Int)] w' (GivesSS w' (permL k)) from fun k hk w' => iperms_in k (by omega) w')
        clear H4 HM d4 x0 hb3 hrun hB4 l3 hg2
        go_wp2
        go_loopw [35] (fun i wr => ∃ k : Nat, k ≤ 6 ∧ i = .int .i64 k ∧ Below w4.heap.size w4 wr ∧ Hid (canL q S (S ++ [[x, y]]) k = true)) (fun i _ => 6 - (intOf i).toNat)
        case atStart => exact ⟨0, Nat.zero_le _, rfl, Below.refl _ _, hide rfl⟩
        case round =>
          obtain ⟨k, hk, rfl, hd, hc⟩ := hrel
          by_cases hlt : k < 6
          · have HPk := hide (unhide HP k (by omega))
            go_wp2_with fail
            refine (unhide HPk _).mono ?_
            rintro e w5 ⟨A5, c5, rfl, o5, d5⟩
            have HD := hide hd
            have hd5 := below_after hd d5
            have HO := hide o5
            have hlen := (permL_small k (by omega)).1
            have l5 : w.heap.size < w5.heap.size := by have := hd5.size; omega
            obtain ⟨N, hN⟩ : ∃ N, N = (permL k).length := ⟨_, rfl⟩
            rw [← hN] at HO hlen ⊢
            have HN := hide hN
            have HK := hide hc
            clear HPk o5 d5 hd hN hc
            go_wp2
            go_loopw [41] (fun i wr => ∃ j : Nat, j ≤ N ∧ i = .int .i64 j ∧ Below w5.heap.size w5 wr ∧ Hid (canK q S (S ++ [[x, y]]) k j = true)) (fun i _ => N - (intOf i).toNat)
            case atStart => exact ⟨0, Nat.zero_le _, rfl, Below.refl _ _, hide rfl⟩
            case round =>
              obtain ⟨j, hj, rfl, hdj, hkj⟩ := hrel
              by_cases hltj : j < N
              · obtain ⟨ad, A6, c6, z, rfl, hz, hcell, hI⟩ := ((unhide HO).below hdj).at_ hltj
                have hzm := List.mem_of_getElem? hz
                have hzp := permL_isP k (by omega) z hzm
                obtain ⟨hzl, hzr⟩ := permL_rows k (by omega) z hzm
                have ha := hI.arg (by omega) hI.cap fun v hv => by have := hzr v hv; omega
                have hdw := below_after hd5 hdj
                have hbw := below_after hb4 hdw
                have hA := (unhide HA).below hbw
                have hc0 := (hdw.cell (p := ⟨w.heap.size, 0, none⟩) l4).trans y0
                have hsz6 : w.heap.size < wr.heap.size := by have := hdw.size; omega
                have H1 := hide (show ∀ w', Below wr.heap.size wr w' → Calls Try.prog 71 #[.slice A6 z.length c6, .slice A n c, .map (some g)] w' (GivesB w' (decide (0 < (meshR z q S).length))) from fun w' d' =>
                  ihasm_any A6 A _ c6 _ n c B g m z q S w' (ha.below d') (hA.below d') ((unhide HM1).later (below_after hdw d')) hzp (unhide HQ))
                have H2 := hide (show ∀ w', Below wr.heap.size wr w' → Calls Try.prog 71 #[.slice A6 z.length c6, .slice A n c, .map (some g2)] w' (GivesB w' (decide (0 < (meshR z q (S ++ [[x, y]])).length))) from fun w' d' =>
                  ihasm_any A6 A _ c6 _ n c B g2 (m + 1) z q (S ++ [[x, y]]) w' (ha.below d') (hA.below d') ((unhide HM2).later (below_after hdw d')) hzp (unhide HQ))
                obtain ⟨e1, he1⟩ : ∃ b, decide (0 < (meshR z q S).length) = b := ⟨_, rfl⟩
                obtain ⟨e2, he2⟩ : ∃ b, decide (0 < (meshR z q (S ++ [[x, y]])).length) = b := ⟨_, rfl⟩
                have hcb : canB q S (S ++ [[x, y]]) z = (e1 == e2) := by unfold canB; rw [he1, he2]
                rw [he1] at H1
                rw [he2] at H2
                have HZ := hide hz
                have hcan := canK_step (q := q) (S := S) (T := S ++ [[x, y]]) hz
                rw [hcb, unhide hkj, Bool.true_and] at hcan
                have HCB := hide hcb
                have HCN := hide hcan
                have HDJ := hide hdj
                have hbd := Below.refl wr.heap.size wr
                clear hz hzm hzp hzl hzr ha hI hA he1 he2 hcb hcan hdj hdw hkj
                go_wp2
                go_region_held3 (fun w' => w'.cell? ⟨w.heap.size, 0, none⟩ = some (.slice A n c) ∧ Below wr.heap.size wr w') ((refine keep_cell hc0 hsz6 ?_; first | assumption | (apply Below.drew; assumption)))
                  (first
                    | (go_at_call 71; refine (unhide H1 _ (by first | assumption | (apply Below.drew; assumption))).mono ?_; rintro e w6 ⟨rfl, hb6⟩; have hb6' : Below wr.heap.size wr w6 := below_after (hbd.drew) hb6; clear H1)
                    | (go_at_call 71; refine (unhide H2 _ (by first | assumption | (apply Below.drew; assumption))).mono ?_; rintro e w7 ⟨rfl, hb7⟩; have hb7' : Below wr.heap.size wr w7 := below_after hb6' hb7; clear H2))
                have hrel' := hide (below_after (unhide HDJ) hb7')
                have hbw7 := below_after hbw hb7'
                clear hb6 hb6' hb7 hb7' hbd HDJ hc0 hcell
                cases e1 with
                | false =>
                  cases e2 with
                  | false =>
                      have hnext := hide (show canK q S (S ++ [[x, y]]) k (j + 1) = true from by rw [unhide HCN]; rfl)
                      clear HCB HCN
                      go_wp2
                      go_roundw
                      case rel => exact ⟨j + 1, by omega, by go_num, unhide hrel', hnext⟩
                      case measure => simp [intOf]; omega
                  | true =>
                      obtain rfl : b4 = false := (unhide HB4).symm.trans ((unhide HC).trans (canL_no (k := k) hlt (canN_no (unhide HZ) (by rw [unhide HCB]; rfl))))
                      clear HCB HCN HB4
                      go_wp2
                      go_ret
                      exact ⟨rfl, hbw7⟩
                | true =>
                  cases e2 with
                  | true =>
                      have hnext := hide (show canK q S (S ++ [[x, y]]) k (j + 1) = true from by rw [unhide HCN]; rfl)
                      clear HCB HCN
                      go_wp2
                      go_roundw
                      case rel => exact ⟨j + 1, by omega, by go_num, unhide hrel', hnext⟩
                      case measure => simp [intOf]; omega
                  | false =>
                      obtain rfl : b4 = false := (unhide HB4).symm.trans ((unhide HC).trans (canL_no (k := k) hlt (canN_no (unhide HZ) (by rw [unhide HCB]; rfl))))
                      clear HCB HCN HB4
                      go_wp2
                      go_ret
                      exact ⟨rfl, hbw7⟩
              · obtain rfl : N = j := by omega
                have hnext := hide (show canL q S (S ++ [[x, y]]) (k + 1) = true from by
                  rw [canL_step, unhide HK, Bool.true_and, ← canK_all (k := N) (by rw [← unhide HN]; exact Nat.le_refl _)]
                  exact unhide hkj)
                have hrel' := hide (below_after hd5 hdj)
                clear hkj hdj HK HO
                go_wp2
                go_roundw
                case rel => exact ⟨k + 1, by omega, by go_num, unhide hrel', hnext⟩
                case measure => simp [intOf]; omega
          · obtain rfl : k = 6 := by omega
            obtain rfl : b4 = true := (unhide HB4).symm.trans ((unhide HC).trans (unhide hc))
            have hbw := below_after hb4 hd
            clear HB4 hd hc
            go_wp2
            go_ret
            exact ⟨rfl, hbw⟩
end Go.Proofs.Ytcoegjhhhnfplaa
