/-
  Words and contracts that the laws lean on, bundled: SumAll, Joins, Ident, Rev, DrawS, Copy, SumL, TreeM, InfP.
-/
import Derived.Test.YtinnlhfdgbeibaaGreatB3
import Derived.Test.YtinnlhfdgbeibaaGreatB5
import Derived.Test.YtinnlhfdgbeibaaGreatB4
import Derived.Test.YtinnlhfdgbeibaaGreatProg
import Derived.Test.YtinnlhfdgbeibaaGreatB1
import Derived.Test.YtinnlhfdgbeibaaGreatB2
import Derived.Lib.SliceRun

/-
  impl.sumOfAll: a list of rows that reads, by its contract. (Written by wip/tools/mkall.py.)
-/

namespace Go.Proofs.YtinnlhfdgbeibaaGreat
set_option maxRecDepth 100000
open Go.RowKit

theorem flat_part {s : Bool} {L : Nat} {zss : List (List Int)} {k : Nat} {z : List Int} (h : zss[k]? = some z) :
    flatAll s L (zss.take (k + 1)) 0 = flatAll s L (zss.take k) 0 ++ z.map (fun v => v + ((if s then L - tot (zss.take k) - z.length else tot (zss.take k) : Nat) : Int)) := by
  rw [take_snoc_r h, flatAll_snoc]
  simp only [Nat.zero_add]
theorem ReadsS.at2 {w wr : World} {B n k : Nat} {A : Option Addr} {zss : List (List Int)} (h : ReadsS w B A n zss) (hb : Below B w wr) (hk : k < n) : ∃ ad A' c' z, A = some ad ∧ zss[k]? = some z ∧ wr.cell? (ad.add k) = some (.slice A' z.length c') ∧ Reads w B A' z.length (i64s z) := by
  obtain ⟨ad, e, h1, h2⟩ := h.rows (by omega)
  have hz : zss[k]? = some (zss[k]'(by rw [h.len]; exact hk)) := List.getElem?_eq_getElem _
  obtain ⟨A', c', h3, h4⟩ := h2 k _ hz
  exact ⟨ad, A', c', _, e, hz, (hb.cell (by rw [block_of_add]; exact h1)).trans h3, h4⟩
theorem flatAll_length (s : Bool) (L : Nat) : ∀ (l : List (List Int)) (n : Nat), (flatAll s L l n).length = tot l
  | [], _ => by simp [flatAll, tot]
  | z :: l, n => by
    rw [flatAll, List.length_append, flatAll_length s L l]
    simp [tot]
theorem map_take_step {z : List Int} {j : Nat} {x r : Int} (h : z[j]? = some x) : (z.take (j + 1)).map (fun v => v + r) = (z.take j).map (fun v => v + r) ++ [x + r] := by rw [take_snoc_i h, List.map_append]; rfl
theorem i64s_app (a b : List Int) : i64s (a ++ b) = i64s a ++ i64s b := by unfold i64s; rw [List.map_append]

set_option maxHeartbeats 1600000 in
theorem sumall_false (A : Option Addr) (n c B : Nat) (zss : List (List Int)) (w : World) (hS : ReadsS w B A n zss) (hB : B ≤ w.heap.size) (hn : n ≤ 1048576) (hsm : ∀ z ∈ zss, z.length ≤ 1048576 ∧ Small z) :
    Calls Tryz.prog 86 #[.bool false, .slice A n c] w (GivesIB w (joinsR false zss) (allFit zss)) := by
  obtain ⟨i0, hi, hz0, hz1, hz2⟩ := info_parts intInfo
  have hl := hS.len
  have HL := hide hl
  have HSM := hide hsm
  clear hl hsm
  go_enter Tryz.func86, Tryz.ntmps86
  go_wp2
  go_loopw [6, 8, 17] (fun lv _ i wr => ∃ k : Nat, k ≤ n ∧ i = .int .i64 k ∧ lv = .int .i64 (tot (zss.take k) : Int) ∧ tot (zss.take k) ≤ 8 ∧ Below w.heap.size w wr ∧ Hid (∀ z ∈ zss.take k, isP z = true)) (fun _ _ i _ => n - (intOf i).toNat)
  case atStart => exact ⟨0, Nat.zero_le _, rfl, rfl, by simp [tot], Below.refl _ _, fun z hz => by simp at hz⟩
  case round =>
    obtain ⟨k, hk, rfl, rfl, h8, hbw, hP⟩ := hrel
    by_cases hlt : k < n
    · obtain ⟨ad, A1, c1, z, rfl, hz, hcell, hrd⟩ := (hS.below (hbw.mono hB)).at_ hlt
      obtain ⟨hzl, hzs⟩ := unhide HSM z (List.mem_of_getElem? hz)
      obtain ⟨b, hb⟩ : ∃ b, isP z = b := ⟨_, rfl⟩
      have H1 := hide (iisperm_any A1 z.length c1 B z b hb wr hrd (Nat.le_trans hB hbw.size) hzl hzs)
      have HZ := hide hz
      have hts := hide (tot_step hz)
      have htt := hide (tot_take zss (k + 1))
      cases b with
      | false =>
        have hno := hide (allFit_no1 (List.mem_of_getElem? hz) hb)
        clear hz hb hrd hP hzs
        go_wp2_with fail
        refine (unhide H1).mono ?_
        rintro e w2 ⟨rfl, hb⟩
        have hb2 := below_after hbw hb
        clear H1 hb hbw
        go_wp2
        go_ret2
        rw [joinsR_no (unhide hno), unhide hno]
        exact GivesIB.mk false (v := .slice none 0 0) (Ints.nil _ _) hb2
      | true =>
        by_cases hle : tot (zss.take k) + z.length ≤ 8
        · have hnext : Hid (∀ z ∈ zss.take (k + 1), isP z = true) := hide (fun y hy => by
            rw [take_snoc_r hz] at hy
            rcases List.mem_append.1 hy with h | h
            · exact unhide hP y h
            · rw [List.mem_singleton] at h
              subst h
              exact hb)
          have hle2 : tot (zss.take (k + 1)) ≤ 8 := by rw [unhide hts]; exact hle
          have hcast : (tot (zss.take k) : Int) + (z.length : Int) = (tot (zss.take (k + 1)) : Int) := by rw [unhide hts]; omega
          have hgt : decide ((8 : Int) < (tot (zss.take (k + 1)) : Int)) = false := by simp; omega
          have hgt' : ¬ 8 < tot (zss.take (k + 1)) := by omega
          clear hz hb hrd hP hzs
          go_wp2_with fail
          refine (unhide H1).mono ?_
          rintro e w2 ⟨rfl, hb⟩
          have hb2 := below_after hbw hb
          clear H1 hb hbw
          go_wp2
          go_roundw
          case rel => exact ⟨k + 1, by omega, by go_num, rfl, hle2, hb2, hnext⟩
          case measure => simp [intOf]; omega
        · have hno := hide (allFit_no2 (l := zss) (by have := unhide htt; rw [unhide hts] at this; omega))
          have hgt : decide ((8 : Int) < (tot (zss.take k) : Int) + (z.length : Int)) = true := by simp; omega
          have hgt' : 8 < tot (zss.take k) + z.length := by omega
          clear hz hb hrd hP hzs
          go_wp2_with fail
          refine (unhide H1).mono ?_
          rintro e w2 ⟨rfl, hb⟩
          have hb2 := below_after hbw hb
          clear H1 hb hbw
          go_wp2
          go_ret2
          rw [joinsR_no (unhide hno), unhide hno]
          exact GivesIB.mk false (v := .slice none 0 0) (Ints.nil _ _) hb2
    · obtain rfl : n = k := by omega
      rw [List.take_of_length_le (by rw [unhide HL]; exact Nat.le_refl _)] at h8 hP ⊢
      have hyes := hide (allFit_yes (unhide hP) h8)
      have HP := hide (fun z (hz : z ∈ zss) k x hx => isP_range (unhide hP z hz) (k := k) (z := x) hx)
      clear hP
      have hs0 := hbw.size
      go_wp2_with (first
        | (at_make; refine wpList_make_own _ rfl (.const (.int .i64 0)) (.tmp 33) 24 rfl w.heap.size 3 i0 (.int .i64 0) 1 Tryz.underlying24 hi hz0 hz1 _ _ _ (tot zss) rfl rfl (by first | rfl | omega) (by rw [hz2]; omega) (by unfold maxLen; omega) (by omega) ?_; intro w1 hown hg))
      have hb1 := hbw.grown hg hs0 (by simp)
      clear hg hbw hs0
      go_loopw [9, 11, 12, 14, 37] (fun v _ _ _ i wr => ∃ k : Nat, k ≤ n ∧ i = .int .i64 k ∧ Below w.heap.size w wr ∧ wr.ownsRow w.heap.size 3 1 v (tot (zss.take k)) (i64s (flatAll false (tot zss) (zss.take k) 0))) (fun _ _ _ _ i _ => n - (intOf i).toNat)
      case atStart => exact ⟨0, Nat.zero_le _, rfl, hb1, hown⟩
      case round =>
        obtain ⟨k, hk, rfl, hbw, hown'⟩ := hrel
        clear hown hb1
        by_cases hlt : k < n
        · obtain ⟨ad, A1, c1, z, rfl, hz, hcell, hrd⟩ := hS.at2 (hbw.mono hB) hlt
          have HZ := hide (unhide HP z (List.mem_of_getElem? hz))
          have hstep := hide (flat_part (s := false) (L := tot zss) hz)
          have hts := tot_step hz
          have htt := tot_take zss (k + 1)
          have hFl := flatAll_length false (tot zss) (zss.take k) 0
          obtain ⟨T, hT⟩ : ∃ T, tot (zss.take k) = T := ⟨_, rfl⟩
          rw [hT] at hown' hts hstep hFl
          obtain ⟨r, hr⟩ : ∃ r : Nat, r = T := ⟨_, rfl⟩
          have hr8 : r ≤ 8 := by omega
          obtain ⟨fl, hfl⟩ : ∃ fl, fl = flatAll false (tot zss) (zss.take k) 0 := ⟨_, rfl⟩
          rw [← hfl] at hown' hFl
          obtain ⟨A9, c9, rfl, _⟩ := Reads.of_own hown'
          have hst : wr.ownsRow w.heap.size 3 1 (.slice A9 T c9) (T + 0) (i64s (fl ++ (z.take 0).map (fun v => v + (r : Int)))) := by
            rw [List.take_zero, List.map_nil, List.append_nil, Nat.add_zero]
            exact hown'
          have HTS := hide hts
          have hTL : T + z.length ≤ 8 := by omega
          have HST := hide (show i64s (flatAll false (tot zss) (zss.take (k + 1)) 0) = i64s (fl ++ z.map (fun v => v + (r : Int))) by
            rw [unhide hstep, ← hfl]
            simp only [Bool.false_eq_true, if_false]
            rw [← hr])
          clear hstep hts htt hT hfl hown' hz hFl
          subst r
          obtain ⟨wo, rfl⟩ : ∃ wo : World, wo = wr := ⟨_, rfl⟩
          have hbo := hbw
          go_wp2
          go_loopw [9, 14, 53] (fun v _ i wr => ∃ j : Nat, j ≤ z.length ∧ i = .int .i64 j ∧ Below w.heap.size w wr ∧ wr.ownsRow w.heap.size 3 1 v (T + j) (i64s (fl ++ (z.take j).map (fun v => v + (T : Int))))) (fun _ _ i _ => z.length - (intOf i).toNat)
          case atStart => exact ⟨0, Nat.zero_le _, rfl, hbo, hst⟩
          case round =>
            obtain ⟨j, hj, rfl, hbw2, hown⟩ := hrel
            clear hst hbo
            by_cases hlj : j < z.length
            · obtain ⟨ad1, u, rfl, had, hu, hc⟩ := (hrd.below (hbw2.mono hB)).at_ hlj
              obtain ⟨x, hx, rfl⟩ := i64_at hu
              obtain ⟨hx1, hx2⟩ := unhide HZ j x hx
              have hnext := hide (map_take_step (r := (T : Int)) hx)
              have hs2 := hbw2.size
              clear hu hx hrd hbw hcell
              go_wp2_with (first
                | (at_builtin; refine wpList_append_one rfl (.tmp 57) (.tmp 61) 24 rfl w.heap.size 3 i0 (.int .i64 0) 8 Tryz.underlying24 hi hz0 hz1 hz2 rfl w wr _ _ _ rfl hown (.int .i64 (x + (T : Int))) rfl rfl rfl (by omega) (by unfold maxLen; omega) hbw2 hs2 ?_; intro v2 w2 hown2 hb2 _))
              have e2 : i64s (fl ++ (z.take j).map (fun v => v + (T : Int))) ++ [Value.int .i64 (x + (T : Int))] = i64s (fl ++ (z.take (j + 1)).map (fun v => v + (T : Int))) := by rw [unhide hnext, ← List.append_assoc, i64s_app (fl ++ _)]; rfl
              rw [e2] at hown2
              clear e2 hown hbw2 hnext
              go_roundw
              case rel => exact ⟨j + 1, by omega, by go_num, hb2, hown2⟩
              case measure => simp [intOf]; omega
            · obtain rfl : z.length = j := by omega
              have hown3 : wr.ownsRow w.heap.size 3 1 u9 (tot (zss.take (k + 1))) (i64s (flatAll false (tot zss) (zss.take (k + 1)) 0)) := by
                rw [unhide HST, unhide HTS]
                have h := hown
                rwa [List.take_length] at h
              clear hown hrd hbw hcell
              go_wp2
              go_roundw
              case rel => exact ⟨k + 1, by omega, by go_num, hbw2, hown3⟩
              case measure => simp [intOf]; omega
        · obtain rfl : n = k := by omega
          have hI : Ints wr w.heap.size u9 (joinsR false zss) := by
            have h := hown'
            rw [List.take_of_length_le (by rw [unhide HL]; exact Nat.le_refl _), flat_join, ← joinAll_length false zss] at h
            rw [joinsR_yes (unhide hyes)]
            exact Ints.of_own h
          clear hown'
          go_wp2
          go_ret2
          rw [unhide hyes]
          exact GivesIB.mk true hI hbw

set_option maxHeartbeats 1600000 in
theorem sumall_true (A : Option Addr) (n c B : Nat) (zss : List (List Int)) (w : World) (hS : ReadsS w B A n zss) (hB : B ≤ w.heap.size) (hn : n ≤ 1048576) (hsm : ∀ z ∈ zss, z.length ≤ 1048576 ∧ Small z) :
    Calls Tryz.prog 86 #[.bool true, .slice A n c] w (GivesIB w (joinsR true zss) (allFit zss)) := by
  obtain ⟨i0, hi, hz0, hz1, hz2⟩ := info_parts intInfo
  have hl := hS.len
  have HL := hide hl
  have HSM := hide hsm
  clear hl hsm
  go_enter Tryz.func86, Tryz.ntmps86
  go_wp2
  go_loopw [6, 8, 17] (fun lv _ i wr => ∃ k : Nat, k ≤ n ∧ i = .int .i64 k ∧ lv = .int .i64 (tot (zss.take k) : Int) ∧ tot (zss.take k) ≤ 8 ∧ Below w.heap.size w wr ∧ Hid (∀ z ∈ zss.take k, isP z = true)) (fun _ _ i _ => n - (intOf i).toNat)
  case atStart => exact ⟨0, Nat.zero_le _, rfl, rfl, by simp [tot], Below.refl _ _, fun z hz => by simp at hz⟩
  case round =>
    obtain ⟨k, hk, rfl, rfl, h8, hbw, hP⟩ := hrel
    by_cases hlt : k < n
    · obtain ⟨ad, A1, c1, z, rfl, hz, hcell, hrd⟩ := (hS.below (hbw.mono hB)).at_ hlt
      obtain ⟨hzl, hzs⟩ := unhide HSM z (List.mem_of_getElem? hz)
      obtain ⟨b, hb⟩ : ∃ b, isP z = b := ⟨_, rfl⟩
      have H1 := hide (iisperm_any A1 z.length c1 B z b hb wr hrd (Nat.le_trans hB hbw.size) hzl hzs)
      have HZ := hide hz
      have hts := hide (tot_step hz)
      have htt := hide (tot_take zss (k + 1))
      cases b with
      | false =>
        have hno := hide (allFit_no1 (List.mem_of_getElem? hz) hb)
        clear hz hb hrd hP hzs
        go_wp2_with fail
        refine (unhide H1).mono ?_
        rintro e w2 ⟨rfl, hb⟩
        have hb2 := below_after hbw hb
        clear H1 hb hbw
        go_wp2
        go_ret2
        rw [joinsR_no (unhide hno), unhide hno]
        exact GivesIB.mk false (v := .slice none 0 0) (Ints.nil _ _) hb2
      | true =>
        by_cases hle : tot (zss.take k) + z.length ≤ 8
        · have hnext : Hid (∀ z ∈ zss.take (k + 1), isP z = true) := hide (fun y hy => by
            rw [take_snoc_r hz] at hy
            rcases List.mem_append.1 hy with h | h
            · exact unhide hP y h
            · rw [List.mem_singleton] at h
              subst h
              exact hb)
          have hle2 : tot (zss.take (k + 1)) ≤ 8 := by rw [unhide hts]; exact hle
          have hcast : (tot (zss.take k) : Int) + (z.length : Int) = (tot (zss.take (k + 1)) : Int) := by rw [unhide hts]; omega
          have hgt : decide ((8 : Int) < (tot (zss.take (k + 1)) : Int)) = false := by simp; omega
          have hgt' : ¬ 8 < tot (zss.take (k + 1)) := by omega
          clear hz hb hrd hP hzs
          go_wp2_with fail
          refine (unhide H1).mono ?_
          rintro e w2 ⟨rfl, hb⟩
          have hb2 := below_after hbw hb
          clear H1 hb hbw
          go_wp2
          go_roundw
          case rel => exact ⟨k + 1, by omega, by go_num, rfl, hle2, hb2, hnext⟩
          case measure => simp [intOf]; omega
        · have hno := hide (allFit_no2 (l := zss) (by have := unhide htt; rw [unhide hts] at this; omega))
          have hgt : decide ((8 : Int) < (tot (zss.take k) : Int) + (z.length : Int)) = true := by simp; omega
          have hgt' : 8 < tot (zss.take k) + z.length := by omega
          clear hz hb hrd hP hzs
          go_wp2_with fail
          refine (unhide H1).mono ?_
          rintro e w2 ⟨rfl, hb⟩
          have hb2 := below_after hbw hb
          clear H1 hb hbw
          go_wp2
          go_ret2
          rw [joinsR_no (unhide hno), unhide hno]
          exact GivesIB.mk false (v := .slice none 0 0) (Ints.nil _ _) hb2
    · obtain rfl : n = k := by omega
      rw [List.take_of_length_le (by rw [unhide HL]; exact Nat.le_refl _)] at h8 hP ⊢
      have hyes := hide (allFit_yes (unhide hP) h8)
      have HP := hide (fun z (hz : z ∈ zss) k x hx => isP_range (unhide hP z hz) (k := k) (z := x) hx)
      clear hP
      have hs0 := hbw.size
      go_wp2_with (first
        | (at_make; refine wpList_make_own _ rfl (.const (.int .i64 0)) (.tmp 33) 24 rfl w.heap.size 3 i0 (.int .i64 0) 1 Tryz.underlying24 hi hz0 hz1 _ _ _ (tot zss) rfl rfl (by first | rfl | omega) (by rw [hz2]; omega) (by unfold maxLen; omega) (by omega) ?_; intro w1 hown hg))
      have hb1 := hbw.grown hg hs0 (by simp)
      clear hg hbw hs0
      go_loopw [9, 11, 12, 14, 37] (fun v _ _ _ i wr => ∃ k : Nat, k ≤ n ∧ i = .int .i64 k ∧ Below w.heap.size w wr ∧ wr.ownsRow w.heap.size 3 1 v (tot (zss.take k)) (i64s (flatAll true (tot zss) (zss.take k) 0))) (fun _ _ _ _ i _ => n - (intOf i).toNat)
      case atStart => exact ⟨0, Nat.zero_le _, rfl, hb1, hown⟩
      case round =>
        obtain ⟨k, hk, rfl, hbw, hown'⟩ := hrel
        clear hown hb1
        by_cases hlt : k < n
        · obtain ⟨ad, A1, c1, z, rfl, hz, hcell, hrd⟩ := hS.at2 (hbw.mono hB) hlt
          have HZ := hide (unhide HP z (List.mem_of_getElem? hz))
          have hstep := hide (flat_part (s := true) (L := tot zss) hz)
          have hts := tot_step hz
          have htt := tot_take zss (k + 1)
          have hFl := flatAll_length true (tot zss) (zss.take k) 0
          obtain ⟨T, hT⟩ : ∃ T, tot (zss.take k) = T := ⟨_, rfl⟩
          rw [hT] at hown' hts hstep hFl
          obtain ⟨r, hr⟩ : ∃ r : Nat, r = tot zss - T - z.length := ⟨_, rfl⟩
          have hr8 : r ≤ 8 := by omega
          have q1 : IntKind.i64.wrap ((tot zss : Int) - (T : Int)) = (tot zss : Int) - (T : Int) := by rw [IntKind.wrap_i64]; omega
          have q2 : IntKind.i64.wrap ((tot zss : Int) - (T : Int) - (z.length : Int)) = (r : Int) := by rw [IntKind.wrap_i64]; omega
          have q3 : (tot zss : Int) - (T : Int) - (z.length : Int) = (r : Int) := by omega
          obtain ⟨fl, hfl⟩ : ∃ fl, fl = flatAll true (tot zss) (zss.take k) 0 := ⟨_, rfl⟩
          rw [← hfl] at hown' hFl
          obtain ⟨A9, c9, rfl, _⟩ := Reads.of_own hown'
          have hst : wr.ownsRow w.heap.size 3 1 (.slice A9 T c9) (T + 0) (i64s (fl ++ (z.take 0).map (fun v => v + (r : Int)))) := by
            rw [List.take_zero, List.map_nil, List.append_nil, Nat.add_zero]
            exact hown'
          have HTS := hide hts
          have hTL : T + z.length ≤ 8 := by omega
          have HST := hide (show i64s (flatAll true (tot zss) (zss.take (k + 1)) 0) = i64s (fl ++ z.map (fun v => v + (r : Int))) by
            rw [unhide hstep, ← hfl]
            simp only [if_true]
            rw [← hr])
          clear hstep hts htt hT hfl hown' hz hFl
          clear hr
          obtain ⟨wo, rfl⟩ : ∃ wo : World, wo = wr := ⟨_, rfl⟩
          have hbo := hbw
          go_wp2
          go_loopw [9, 14, 53] (fun v _ i wr => ∃ j : Nat, j ≤ z.length ∧ i = .int .i64 j ∧ Below w.heap.size w wr ∧ wr.ownsRow w.heap.size 3 1 v (T + j) (i64s (fl ++ (z.take j).map (fun v => v + (r : Int))))) (fun _ _ i _ => z.length - (intOf i).toNat)
          case atStart => exact ⟨0, Nat.zero_le _, rfl, hbo, hst⟩
          case round =>
            obtain ⟨j, hj, rfl, hbw2, hown⟩ := hrel
            clear hst hbo
            by_cases hlj : j < z.length
            · obtain ⟨ad1, u, rfl, had, hu, hc⟩ := (hrd.below (hbw2.mono hB)).at_ hlj
              obtain ⟨x, hx, rfl⟩ := i64_at hu
              obtain ⟨hx1, hx2⟩ := unhide HZ j x hx
              have hnext := hide (map_take_step (r := (r : Int)) hx)
              have hs2 := hbw2.size
              clear hu hx hrd hbw hcell
              go_wp2_with (first
                | (at_builtin; refine wpList_append_one rfl (.tmp 57) (.tmp 61) 24 rfl w.heap.size 3 i0 (.int .i64 0) 8 Tryz.underlying24 hi hz0 hz1 hz2 rfl w wr _ _ _ rfl hown (.int .i64 (x + (r : Int))) rfl rfl rfl (by omega) (by unfold maxLen; omega) hbw2 hs2 ?_; intro v2 w2 hown2 hb2 _))
              have e2 : i64s (fl ++ (z.take j).map (fun v => v + (r : Int))) ++ [Value.int .i64 (x + (r : Int))] = i64s (fl ++ (z.take (j + 1)).map (fun v => v + (r : Int))) := by rw [unhide hnext, ← List.append_assoc, i64s_app (fl ++ _)]; rfl
              rw [e2] at hown2
              clear e2 hown hbw2 hnext
              go_roundw
              case rel => exact ⟨j + 1, by omega, by go_num, hb2, hown2⟩
              case measure => simp [intOf]; omega
            · obtain rfl : z.length = j := by omega
              have hown3 : wr.ownsRow w.heap.size 3 1 u9 (tot (zss.take (k + 1))) (i64s (flatAll true (tot zss) (zss.take (k + 1)) 0)) := by
                rw [unhide HST, unhide HTS]
                have h := hown
                rwa [List.take_length] at h
              clear hown hrd hbw hcell
              go_wp2
              go_roundw
              case rel => exact ⟨k + 1, by omega, by go_num, hbw2, hown3⟩
              case measure => simp [intOf]; omega
        · obtain rfl : n = k := by omega
          have hI : Ints wr w.heap.size u9 (joinsR true zss) := by
            have h := hown'
            rw [List.take_of_length_le (by rw [unhide HL]; exact Nat.le_refl _), flat_join, ← joinAll_length true zss] at h
            rw [joinsR_yes (unhide hyes)]
            exact Ints.of_own h
          clear hown'
          go_wp2
          go_ret2
          rw [unhide hyes]
          exact GivesIB.mk true hI hbw
end Go.Proofs.YtinnlhfdgbeibaaGreat


/-
  impl.SumOf, impl.SkewSumOf, impl.JoinParts; spec.JoinParts, by their contracts. (Written by wip/tools/mkjoins.py.)
-/

namespace Go.Proofs.YtinnlhfdgbeibaaGreat
set_option maxRecDepth 100000
open Go.RowKit

theorem sumall_any (s : Bool) (A : Option Addr) (n c B : Nat) (zss : List (List Int)) (w : World) (hS : ReadsS w B A n zss) (hB : B ≤ w.heap.size) (hn : n ≤ 1048576) (hsm : ∀ z ∈ zss, z.length ≤ 1048576 ∧ Small z) :
    Calls Tryz.prog 86 #[.bool s, .slice A n c] w (GivesIB w (joinsR s zss) (allFit zss)) := by
  cases s with
  | false => exact sumall_false A n c B zss w hS hB hn hsm
  | true => exact sumall_true A n c B zss w hS hB hn hsm
theorem IntsS.readsS {w : World} {B n c : Nat} {A : Option Addr} {zss : List (List Int)} (h : IntsS w B (.slice A n c) zss) : ReadsS w w.heap.size A n zss := by
  refine ⟨h.len, fun hn => ?_⟩
  obtain ⟨ad, A', c', z, e, _⟩ := h.at_ hn
  subst e
  refine ⟨ad, rfl, ?_, fun j z hz => ?_⟩
  · have hl := h.len
    subst hl
    obtain ⟨vs, hown, hin⟩ := h
    obtain ⟨ad', he, hb, _⟩ := (Reads.of_own_at hown).2 hn
    injection he with he
    subst he
    exact hb
  · have hj : j < n := by have := (List.getElem?_eq_some_iff.1 hz).1; have := h.len; omega
    obtain ⟨ad2, A2, c2, z2, e2, hz2, hc, hI⟩ := h.at_ hj
    injection e2 with e2
    subst e2
    rw [hz] at hz2
    injection hz2 with hz2
    subst hz2
    exact ⟨A2, c2, hc, hI.reads⟩
theorem allFit_two (p q : List Int) : allFit [p, q] = fit p q := by simp [allFit, allP, fit, tot]
theorem joins_two (s : Bool) (p q : List Int) : joinsR s [p, q] = joinR s p q := by
  have e : joinAll s [p, q] = joinL s p q := by
    have h0 : joinL s [] p = p := by cases s <;> simp [joinL]
    simp [joinAll, h0]
  unfold joinsR joinR
  rw [allFit_two, e]

theorem ijoins_any (A : Option Addr) (n c B : Nat) (s : Bool) (zss : List (List Int)) (w : World) (hS : IntsS w B (.slice A n c) zss) (hn : n ≤ 1048576) (hsm : ∀ z ∈ zss, z.length ≤ 1048576 ∧ Small z) :
    Calls Tryz.prog 60 #[.slice A n c, .bool s] w (GivesIB w (joinsR s zss) (allFit zss)) := by
  have H1 := hide (sumall_any s A n c w.heap.size zss w hS.readsS (Nat.le_refl _) hn hsm)
  clear hS hsm
  go_enter Tryz.func60, Tryz.ntmps60
  go_wp2_with fail
  refine (unhide H1).mono ?_
  rintro e w1 ⟨A1, c1, rfl, own1, hb1⟩
  clear H1
  go_wp2
  go_ret2
  exact GivesIB.mk _ own1 hb1

set_option maxHeartbeats 800000 in
theorem sjoinsA_any (A : Option Addr) (n c : Nat) (s : Bool) (zss : List (List Int)) (w : World) (hS : AtS w A n zss) (hn : n ≤ 1048576) :
    Calls Tryz.prog 70 #[.slice A n c, .bool s] w (GivesIB w (joinsR s zss) (allFit zss)) := by
  have hl := hS.1
  have HL := hide hl
  have HS := hide hS.2
  have hI0 := Ints.made0 w w.heap.size (Nat.le_refl _)
  have hbel := (Below.refl w.heap.size w).alloc (Nat.le_refl _) (.cells #[] 3)
  clear hl hS
  go_enter Tryz.func70, Tryz.ntmps70
  go_wp2
  go_loopw [6, 7] (fun v i wr => ∃ k : Nat, k ≤ n ∧ i = .int .i64 k ∧ Below w.heap.size w wr ∧ Ints wr w.heap.size v (joinAll s (zss.take k)) ∧ Hid (∀ z ∈ zss.take k, isP z = true) ∧ tot (zss.take k) ≤ 8) (fun _ i _ => n - (intOf i).toNat)
  case atStart => exact ⟨0, Nat.zero_le _, rfl, hbel, hI0, fun z hz => by simp at hz, by simp [tot]⟩
  case round =>
    obtain ⟨k, hk, rfl, hbw, hI, hP, h8⟩ := hrel
    clear hI0 hbel
    have hlen := joinAll_length s (zss.take k)
    have hisP := joinAll_isP (s := s) _ (allP_yes (unhide hP)) h8
    obtain ⟨out, hout⟩ : ∃ out, out = joinAll s (zss.take k) := ⟨_, rfl⟩
    rw [← hout] at hI hlen hisP
    obtain ⟨A6, c6, rfl⟩ := hI.slice
    by_cases hlt : k < n
    · obtain ⟨ad, A1, c1, z, rfl, hz, hcell, hAz⟩ := unhide HS wr hbw k hlt
      have hAo := hI.argP hisP
      obtain ⟨b, hb⟩ : ∃ b, fit out z = b := ⟨_, rfl⟩
      have H1 := hide (l4fit_any A6 A1 out.length c6 wr.heap.size z.length c1 wr.heap.size out z b hb wr hAo hAz)
      have hts := tot_step hz
      have htt := tot_take zss (k + 1)
      cases b with
      | false =>
        have hno : allFit zss = false := by
          cases hpz : isP z with
          | false => exact allFit_no1 (List.mem_of_getElem? hz) hpz
          | true =>
            refine allFit_no2 ?_
            by_cases h : out.length + z.length ≤ 8
            · rw [fit_yes hisP hpz h] at hb; cases hb
            · omega
        have HNO := hide hno
        rw [joinsR_no hno, hno]
        clear hb hts htt hno hz hI hAz hAo hP hisP hlen hout
        go_wp2_with fail
        refine (unhide H1).mono ?_
        rintro e w1 ⟨rfl, hd⟩
        have hb := hbw.trans (hd.below w.heap.size)
        clear hd H1
        go_wp2
        go_ret2
        exact GivesIB.mk false (Ints.made0 w1 w.heap.size hb.size) (hb.alloc hb.size _)
      | true =>
        obtain ⟨_, hpz, hle⟩ := fit_all hb
        have H2 := hide (fun w' (hb' : Below wr.heap.size wr w') => l4join_any A6 A1 out.length c6 wr.heap.size z.length c1 wr.heap.size s out z w' (hAo.below hb') (hAz.below hb') hb)
        have hnext : Hid (∀ z ∈ zss.take (k + 1), isP z = true) := hide (fun y hy => by
          rw [take_snoc_r hz] at hy
          rcases List.mem_append.1 hy with h | h
          · exact unhide hP y h
          · rw [List.mem_singleton] at h
            subst h
            exact hpz)
        have hje := hide (joinAll_take (s := s) hz)
        have h82 : tot (zss.take (k + 1)) ≤ 8 := by omega
        have HOUT := hide hout
        have hsz := hbw.size
        clear hb hpz hts htt hz hI hAz hAo hP hisP hlen hout
        go_wp2_with fail
        refine (unhide H1).mono ?_
        rintro e w1 ⟨rfl, hd⟩
        have hb1 := hd.below wr.heap.size
        have hcell1 := (hd.cell _).trans hcell
        have H3 := hide (unhide H2 w1 hb1)
        clear hd H1 H2 hcell
        go_wp2_with fail
        refine (unhide H3).mono ?_
        rintro e w2 ⟨A2, c2, rfl, own2, hb2⟩
        have hb3 := below_after hb1 hb2
        have hb4 := below_after hbw hb3
        have hI4 : Ints w2 w.heap.size (.slice A2 (joinL s out z).length c2) (joinAll s (zss.take (k + 1))) := by
          rw [unhide hje, ← unhide HOUT]
          exact own2.low (Nat.le_trans hsz hb1.size)
        clear H3 own2 hb2 hb3 hb1
        go_wp2
        go_roundw
        case rel => exact ⟨k + 1, by omega, by go_num, hb4, hI4, hnext, h82⟩
        case measure => simp [intOf]; omega
    · obtain rfl : n = k := by omega
      have hfull : zss.take n = zss := List.take_of_length_le (by rw [unhide HL]; exact Nat.le_refl _)
      rw [hfull] at hout h8 hP
      have hyes := allFit_yes (unhide hP) h8
      have hE : joinsR s zss = out := by rw [joinsR_yes hyes, hout]
      have HE := hide hE
      have HY := hide hyes
      clear hlen hisP hout h8 hP hyes hfull hE
      go_wp2
      go_ret2
      rw [unhide HE, unhide HY]
      exact GivesIB.mk true hI hbw
theorem sjoins_any (A : Option Addr) (n c B : Nat) (s : Bool) (zss : List (List Int)) (w : World) (hS : IntsS w B (.slice A n c) zss) (hn : n ≤ 1048576) (hsm : ∀ z ∈ zss, z.length ≤ 1048576 ∧ Small z) :
    Calls Tryz.prog 70 #[.slice A n c, .bool s] w (GivesIB w (joinsR s zss) (allFit zss)) := sjoinsA_any A n c s zss w (hS.atS hsm) hn
end Go.Proofs.YtinnlhfdgbeibaaGreat


/-
  spec.IdentityPerm and impl.IdentityPerm, by their contracts.
-/

namespace Go.Proofs.YtinnlhfdgbeibaaGreat
set_option maxRecDepth 100000
open Go.RowKit

theorem Ints.of_whole {w : World} {g B n c : Nat} {t : TypeId} (ht : t ≠ 24) {l : List Int} (hg : Whole w g t (arr l)) (hB : B ≤ g) (hn : n ≤ l.length) (hnc : n ≤ c) : Ints w B (.slice (some ⟨g, 0, none⟩) n c) (l.take n) := by
  have hl : (l.take n).length = n := by rw [List.length_take]; omega
  unfold Ints
  rw [hl]
  refine ⟨by rw [i64_length, hl], .inr ⟨g, c, arr l, t, rfl, hB, hg, ⟨hnc, by rw [arr_size]; exact hn⟩, ?_, ht⟩⟩
  unfold arr i64s
  rw [List.map_take]

end Go.Proofs.YtinnlhfdgbeibaaGreat


/-
  spec.l3Reverse, spec.l3Complement, spec.ReversePerm, spec.ComplementPerm; slices.Clone, impl.ComplementPerm, by their contracts.
-/

namespace Go.Proofs.YtinnlhfdgbeibaaGreat
set_option maxRecDepth 100000
open Go.RowKit

theorem rev_step {zs : List Int} {k : Nat} {z : Int} (h : zs[k]? = some z) : (zs.drop k).reverse = (zs.drop (k + 1)).reverse ++ [z] := by
  have hk : k < zs.length := (List.getElem?_eq_some_iff.1 h).1
  rw [List.drop_eq_getElem_cons hk, List.reverse_cons]
  rw [List.getElem?_eq_getElem hk] at h
  rw [Option.some.inj h]
theorem i64_snoc (xs : List Int) (z : Int) : i64s xs ++ [Value.int .i64 z] = i64s (xs ++ [z]) := by unfold i64s; simp
set_option maxHeartbeats 400000 in
theorem l3cpl_any (A : Option Addr) (n c B : Nat) (zs : List Int) (w : World) (h : Arg w B A n c zs) (hp : isP zs = true) :
    Calls Tryz.prog 88 #[.slice A n c] w (GivesI w (cplL zs)) := by
  obtain ⟨i0, hi, hz0, hz1, hz2⟩ := info_parts intInfo
  have hl := h.len
  have hr := h.reads
  have hB := h.under
  have hn8 : n ≤ 8 := by have := isP_le hp; omega
  have HP := hide (fun k z hz => isP_range hp (k := k) (z := z) hz)
  have HL := hide hl
  have hst := own0 w w.heap.size (Nat.le_refl _)
  have hbel := (Below.refl w.heap.size w).alloc (Nat.le_refl _) (.cells #[] 3)
  clear h hl hp
  go_enter Tryz.func88, Tryz.ntmps88
  go_wp2
  go_loopw [3, 4] (fun v i wr => ∃ k : Nat, k ≤ n ∧ i = .int .i64 k ∧ Below w.heap.size w wr ∧ wr.ownsRow w.heap.size 3 1 v k (i64s ((cplL zs).take k))) (fun _ i _ => n - (intOf i).toNat)
  case atStart => exact ⟨0, Nat.zero_le _, rfl, hbel, hst⟩
  case round =>
    obtain ⟨k, hk, rfl, hbw, hown⟩ := hrel
    clear hst hbel
    by_cases hlt : k < n
    · obtain ⟨ad, u, rfl, had, hu, hc⟩ := ((hr.more hB).below hbw).at_ hlt
      obtain ⟨z, hz, rfl⟩ := i64_at hu
      obtain ⟨hz1', hz2'⟩ := unhide HP k z hz
      have hst := cplL_at hz
      rw [unhide HL] at hz2' hst
      have hstep := hide (take_snoc_i hst)
      clear hu hz hst
      go_wp2_with (first
        | (at_builtin; refine wpList_append_one rfl (.tmp 12) (.tmp 21) 24 rfl w.heap.size 3 i0 (.int .i64 0) 8 Tryz.underlying24 hi hz0 hz1 hz2 rfl w wr _ _ _ rfl hown (.int .i64 ((n : Int) + 1 - z)) rfl rfl rfl (by omega) (by simp only [maxLen]; omega) hbw hbw.size ?_; intro v2 w2 hown2 hb2 hg2; clear hg2))
      rw [i64_snoc, ← unhide hstep] at hown2
      clear hown hbw hstep
      go_roundw
      case rel => exact ⟨k + 1, by omega, by go_num, hb2, hown2⟩
      case measure => simp [intOf]; omega
    · obtain rfl : n = k := by omega
      have hI : Ints wr w.heap.size u3 (cplL zs) := by
        have h := hown
        rw [List.take_of_length_le (by rw [cplL_length, unhide HL]; exact Nat.le_refl _), ← unhide HL, ← cplL_length zs] at h
        exact Ints.of_own h
      clear hown
      go_wp2
      go_ret
      exact GivesI.mk hI hbw
set_option maxHeartbeats 400000 in
theorem clone_any (A : Option Addr) (n c B : Nat) (zs : List Int) (w : World) (h : Arg w B A n c zs) :
    Calls Tryz.prog 75 #[.slice A n c] w (GivesI w zs) := by
  obtain ⟨i0, hi, hz0, hz1, hz2⟩ := info_parts intInfo
  have hl := h.len
  have hn := h.le
  have hr := h.reads
  have q22 : ∀ (w : World) (a : Option Addr) (n c n' c' : Nat), (binOp .eql 24 (.slice a n c) (.slice none n' c')).run Tryz.prog w = .ok (.bool a.isNone) w := fun w a n c n' c' => Lib.run_eql_slice_nil w _ _ a n c n' c' Tryz.underlying24
  cases A with
  | none =>
    obtain rfl : n = 0 := by
      by_cases h0 : 0 < n
      · obtain ⟨ad, he, _⟩ := hr.2 h0
        cases he
      · omega
    obtain rfl := List.eq_nil_of_length_eq_zero hl
    clear h hr hl
    go_enter Tryz.func75, Tryz.ntmps75
    go_wp2
    go_ret
    exact GivesI.mk (Ints.nil _ _) (Below.refl _ _)
  | some ad =>
    have hcl : ∀ j u, (i64s zs)[j]? = some u → w.cell? (ad.add j) = some u := fun j u hu => by
      have hj : j < n := by have := (List.getElem?_eq_some_iff.1 hu).1; rw [i64_length, hl] at this; exact this
      obtain ⟨ad', he, _, hc⟩ := hr.2 (by omega)
      injection he with he
      subst he
      exact hc j u hu
    have hbl : 0 < n → ad.block < w.heap.size := fun h0 => by
      obtain ⟨ad', he, hb', _⟩ := hr.2 h0
      injection he with he
      subst he
      exact Nat.lt_of_lt_of_le hb' h.under
    have hcl2 : ∀ j u, (i64s zs)[j]? = some u → (w.alloc (.cells #[] 3)).cell? (ad.add j) = some u := fun j u hu => by
      have hj : j < n := by have := (List.getElem?_eq_some_iff.1 hu).1; rw [i64_length, hl] at this; exact this
      rw [World.cell?_alloc_lt]
      · exact hcl j u hu
      · rw [block_of_add]; exact hbl (by omega)
    have hone : ∀ u ∈ i64s zs, u.oneCell' = true := fun u hu => by
      unfold i64s at hu
      obtain ⟨z, _, rfl⟩ := List.mem_map.1 hu
      rfl
    have hln : (i64s zs).length = n * 1 := by rw [i64_length, hl]; omega
    have HCL := hide hcl2
    have HONE := hide hone
    have HLN := hide hln
    have HL := hide hl
    have hst := own0 w w.heap.size (Nat.le_refl _)
    have hbel := (Below.refl w.heap.size w).alloc (Nat.le_refl _) (.cells #[] 3)
    clear h hr hl hcl hcl2 hbl hone hln
    go_enter Tryz.func75, Tryz.ntmps75
    go_wp2_with (at_builtin; refine wpList_append_own _ rfl (.tmp 5) (.tmp 6) 24 rfl w.heap.size 3 i0 (.int .i64 0) 1 8 Tryz.underlying24 hi hz0 hz1 hz2 rfl (by decide) _ _ _ rfl hst ad n c (i64s zs) rfl ?_ ?_ ?_ ?_ ?_ ?_ ?_)
    · exact unhide HLN
    · exact unhide HCL
    · exact unhide HONE
    · unfold maxLen; omega
    · omega
    · simp
    intro v1 w1 hown1 hg1 _
    have hb1 : Below w.heap.size w w1 := hbel.grown hg1 (by simp) (fun q hq => by simp [Value.ownBlock] at hq; omega)
    have hI : Ints w1 w.heap.size v1 zs := by
      have h := hown1
      rw [← unhide HL] at h
      exact Ints.of_own h
    clear hg1 hown1
    go_wp2
    go_ret
    exact GivesI.mk hI hb1
set_option maxHeartbeats 400000 in
theorem icpl_any (A : Option Addr) (n c B : Nat) (zs : List Int) (w : World) (h : Arg w B A n c zs) :
    Calls Tryz.prog 61 #[.slice A n c] w (GivesI w (cplR zs)) := by
  obtain ⟨b, hb⟩ : ∃ b, isP zs = b := ⟨_, rfl⟩
  have H1 := hide (iisperm_any A n c B zs b hb w h.reads h.under h.le h.small)
  cases b with
  | false =>
    rw [cplR_no hb]
    clear hb h
    go_enter Tryz.func61, Tryz.ntmps61
    go_wp2_with fail
    refine (unhide H1).mono ?_
    rintro e w1 ⟨rfl, hb⟩
    clear H1
    go_wp2
    go_ret
    exact GivesI.mk (v := .slice none 0 0) (Ints.nil _ _) hb
  | true =>
    rw [cplR_yes hb]
    obtain ⟨i0, hi, hz0, hz1, hz2⟩ := info_parts intInfo
    have hl := h.len
    have hr := h.reads
    have hB := h.under
    have hn8 : n ≤ 8 := by have := isP_le hb; omega
    have HL := hide hl
    have HP := hide (fun k z hz => isP_range hb (k := k) (z := z) hz)
    clear hl h hb
    go_enter Tryz.func61, Tryz.ntmps61
    go_wp2_with fail
    refine (unhide H1).mono ?_
    rintro e w0 ⟨rfl, hb0⟩
    have hs0 := hb0.size
    clear H1
    go_wp2_with (first
      | (at_make; refine wpList_make_full _ rfl (.tmp 10) (.tmp 10) 24 rfl w.heap.size 3 i0 (.int .i64 0) 1 Tryz.underlying24 hi hz0 hz1 _ _ _ _ n rfl rfl (by first | rfl | omega) (by first | rfl | omega) (by rw [hz2]; omega) (by unfold maxLen; omega) hs0 ?_; intro w1 hown hg))
    have hb1 := hb0.grown hg hs0 (by simp)
    clear hg hb0
    obtain ⟨g, hg⟩ : ∃ g, g = w0.heap.size := ⟨_, rfl⟩
    rw [← hg] at hown ⊢
    clear hg hs0
    go_loopw [4, 5, 14] (fun _ _ i wr => ∃ (k : Nat) (xs : List Value), k ≤ n ∧ i = .int .i64 k ∧ Below w.heap.size w wr ∧ wr.ownsRow w.heap.size 3 1 (.slice (some ⟨g, 0, none⟩) n n) n xs ∧ Hid (xs.take k = (i64s (cplL zs)).take k)) (fun _ _ i _ => n - (intOf i).toNat)
    case atStart => exact ⟨0, _, Nat.zero_le _, rfl, hb1, hown, by exact rfl⟩
    case round =>
      obtain ⟨k, xs, hk, rfl, hb, hown', hx⟩ := hrel
      clear hown hb1
      have hlx : xs.length = n := by simpa using hown'.1
      by_cases hlt : k < n
      · obtain ⟨ad, u, rfl, had, hu, hc⟩ := ((hr.more hB).below hb).at_ hlt
        obtain ⟨z, hz, rfl⟩ := i64_at hu
        obtain ⟨hz1', hz2'⟩ := unhide HP k z hz
        have hst := cplL_at hz
        rw [unhide HL] at hz2' hst
        obtain ⟨old, hold⟩ : ∃ old, wr.cell? ⟨g, k, none⟩ = some old := ⟨_, by rw [hown'.cellAt k (by omega)]; exact List.getElem?_eq_getElem (by omega)⟩
        have hfz := hown'.frozenAt k
        have ho2 := (hown'.stored k (.int .i64 ((n : Int) + 1 - z))).1
        have hb2 := below_set_i hb hown' k (.int .i64 ((n : Int) + 1 - z))
        have hnext := hide (take_set_i (unhide hx) (i64_get hst) (by omega))
        clear hu hz hst hx hown' hb hlx
        go_wp2
        go_roundw
        case rel => exact ⟨k + 1, _, by omega, by go_num, hb2, ho2, hnext⟩
        case measure => simp [intOf]; omega
      · obtain rfl : n = k := by omega
        have hE : xs = i64s (cplL zs) := by
          have h := unhide hx
          rwa [List.take_of_length_le (by omega), List.take_of_length_le (by rw [i64_length, cplL_length, unhide HL]; exact Nat.le_refl _)] at h
        subst hE
        have hI : Ints wr w.heap.size (.slice (some ⟨g, 0, none⟩) n n) (cplL zs) := by
          have h := hown'
          rw [← unhide HL, ← cplL_length zs] at h ⊢
          exact Ints.of_own h
        clear hown' hx hlx
        go_wp2
        go_ret
        exact GivesI.mk hI hb
end Go.Proofs.YtinnlhfdgbeibaaGreat


/-
  DRAWS OF LISTS AND OF SUMS: spec.l3List, spec.l4Two, spec.l4Summed, spec.l4Bent; spec.DrawSumParts, spec.DrawSumOf, spec.DrawJoinParts, spec.DrawIsLayered, by their contracts.
-/

namespace Go.Proofs.YtinnlhfdgbeibaaGreat
set_option maxRecDepth 100000
open Go.RowKit

theorem idR_nat' {n : Nat} (h : n ≤ 8) : idR (n : Int) = upTo n := by
  by_cases h1 : 1 ≤ n
  · rw [idR_yes (by omega) (by omega)]; congr 1
  · obtain rfl : n = 0 := by omega
    rfl
theorem isP_upTo' {n : Nat} (h : n ≤ 8) : isP (upTo n) = true := isP_true.2 ⟨by rw [upTo_length]; exact h, fun x hx => by rw [upTo_length]; exact mem_upTo.1 hx, upTo_nodup n⟩
theorem joinsR_lite (s : Bool) (l : List (List Int)) : Lite 9 (joinsR s l) := by
  have h := joinsR_le s l
  refine ⟨by omega, ?_⟩
  cases hf : allFit l with
  | false => rw [joinsR_no hf]; exact small_nil
  | true =>
    rw [joinsR_yes hf]
    simp only [allFit, Bool.and_eq_true, decide_eq_true_eq] at hf
    exact isP_small (joinAll_isP l hf.1 hf.2)

set_option maxHeartbeats 1600000 in
theorem l4summed_any (B cb : Nat) (w : World) (hc : Cur w B cb) : Calls Tryz.prog 36 #[.pointer (some ⟨cb, 0, none⟩)] w (DrawnI B cb w 9) := by
  have hS0 := Side.start hc
  have H1 := hide (below_any B cb 4 (by omega) _ hc)
  clear hc
  go_enter Tryz.func36, Tryz.ntmps36
  go_wp2_with fail
  refine (unhide H1).mono ?_
  rintro e w1 ⟨v, rfl, ⟨x, rfl, hx0, hx1⟩, hc1, hg1⟩
  rw [if_pos (by omega)] at hx1
  obtain ⟨m, rfl⟩ : ∃ m : Nat, x = m := ⟨x.toNat, by omega⟩
  have hm : m ≤ 9 := by omega
  have hS1 := hS0.drawn hc1 hg1
  have H2 := hide (l2draw_any B cb m (by omega) w1 hc1)
  clear H1 hS0 hc1 hg1 hx0 hx1
  go_wp2_with fail
  refine (unhide H2).mono ?_
  rintro e w2 ⟨A2, c2, zs, rfl, hl, hown, hc2, hg2⟩
  have hS2 := hS1.drawn hc2 hg2
  have hI2 := (Ints.of_own hown).low hS1.size
  have hL2 : Hid (Lite 9 zs) := hide (hl.more hm)
  clear H2 hS1 hl hown hc2 hg2
  go_wp2
  go_loopw [3, 4, 5, 6] (fun v i _ _ wr => ∃ (k : Nat) (p : List Int), k ≤ 3 ∧ i = .int .i64 k ∧ Ints wr w.heap.size v p ∧ Hid (Lite 9 p) ∧ Side B cb w wr) (fun _ i _ _ _ => 3 - (intOf i).toNat)
  case atStart => exact ⟨0, zs, by omega, rfl, hI2, hL2, hS2⟩
  case round =>
    obtain ⟨k, p, hk, rfl, hI, hL, hS⟩ := hrel
    clear hI2 hS2 hL2
    obtain ⟨A3, c3, rfl⟩ := hI.slice
    by_cases hlt : k < 3
    · have H3 := hide (below_any B cb 3 (by omega) wr hS.cur)
      have hlt' : (k : Int) < 3 := by omega
      go_wp2_with fail
      refine (unhide H3).mono ?_
      rintro e w3 ⟨v, rfl, ⟨y, rfl, hy0, hy1⟩, hc3, hg3⟩
      rw [if_pos (by omega)] at hy1
      obtain ⟨n, rfl⟩ : ∃ n : Nat, y = n := ⟨y.toNat, by omega⟩
      have hn : n ≤ 9 := by omega
      have hS3 := hS.drawn hc3 hg3
      have hI3 := hI.drawn hg3 hS.lt
      have H4 := hide (l2draw_any B cb n (by omega) w3 hc3)
      clear H3 hS hI hc3 hg3 hy0 hy1
      go_wp2_with fail
      refine (unhide H4).mono ?_
      rintro e w4 ⟨A4, c4, q, rfl, hl, hown, hc4, hg4⟩
      have hq := Ints.of_own hown
      have haw := away_since hI3 hq.since
      have hS4 := hS3.drawn hc4 hg4
      have hI4 := hI3.drawn hg4 hS3.lt
      have hT := IntsS.two hI4 (hq.low hS3.size) haw hS4.size
      have hLL : Hid (∀ z ∈ [p, q], z.length ≤ 1048576 ∧ Small z) := hide (fun z hz => by
        rcases List.mem_cons.1 hz with rfl | hz
        · exact ⟨Nat.le_trans (unhide hL).1 (by omega), (unhide hL).2⟩
        · rw [List.mem_singleton] at hz
          subst hz
          exact ⟨Nat.le_trans hl.1 (by omega), hl.2⟩)
      have hal := (Below.refl w4.heap.size w4).alloc (Nat.le_refl _) (.cells #[.slice A3 p.length c3, .slice A4 q.length c4] 24)
      have hS5 := hS4.below hal
      have hI5 := hI4.below hal
      have H5 := hide (once_any B cb 2 (by omega) _ hS5.cur)
      clear H4 hl hown hq haw hS3 hI3 hc4 hg4 hS4 hI4 hal
      go_wp2_with fail
      refine (unhide H5).mono ?_
      rintro e w6 ⟨v, rfl, ⟨b, rfl⟩, hc6, hg6⟩
      have hT6 := hT.drawn hg6 hS5.lt
      have hS6 := hS5.drawn hc6 hg6
      have hI6 := hI5.drawn hg6 hS5.lt
      have H6 := hide (sjoins_any _ 2 2 _ b [p, q] w6 hT6 (by omega) (unhide hLL))
      clear H5 hT hS5 hI5 hc6 hg6 hT6
      obtain ⟨f, hf⟩ : ∃ f, allFit [p, q] = f := ⟨_, rfl⟩
      rw [hf] at H6
      go_wp2_with fail
      refine (unhide H6).mono ?_
      rintro e w7 ⟨A7, c7, rfl, own7, hb7⟩
      have hS7 := hS6.below hb7
      have hI7 := hI6.below hb7
      have own8 := own7.low hS6.size
      have hL8 : Hid (Lite 9 (joinsR b [p, q])) := hide (joinsR_lite b _)
      clear H6 hS6 hI6 own7 hb7 hf
      cases f with
      | true =>
        go_wp2
        go_roundw
        case rel => exact ⟨k + 1, _, by omega, by go_num, own8, hL8, hS7⟩
        case measure => simp [intOf]; omega
      | false =>
        go_wp2
        go_roundw
        case rel => exact ⟨k + 1, p, by omega, by go_num, hI7, hL, hS7⟩
        case measure => simp [intOf]; omega
    · obtain rfl : k = 3 := by omega
      have HS := hide hS
      clear hS
      go_wp2
      go_ret
      exact DrawnI.mk hI (unhide hL) (unhide HS)

end Go.Proofs.YtinnlhfdgbeibaaGreat


/-
  spec.l2Copy by its contract.
-/

namespace Go.Proofs.YtinnlhfdgbeibaaGreat
set_option maxRecDepth 100000
open Go.RowKit
/-- A copy: rows of the call's own, at a block's head. -/
def CopyEnds (w : World) (zss : List (List Int)) (e : Ending) (w' : World) : Prop := ∃ g c, e = .returned (.slice (some ⟨g, 0, none⟩) zss.length c) ∧ IntsS w' w.heap.size (.slice (some ⟨g, 0, none⟩) zss.length c) zss ∧ Below w.heap.size w w'
set_option maxHeartbeats 1600000 in
theorem l2copy_any (P : Option Addr) (m d : Nat) (S : List (List Int)) (w : World) (hS : AtS w P m S) (hm : m ≤ 1048576) :
    Calls Tryz.prog 35 #[.slice P m d] w (CopyEnds w S) := by
  have hl := hS.1
  have HS := hide hS
  have HL := hide hl
  have hI0 := IntsS.made0 w w.heap.size (Nat.le_refl _)
  have hb0 : Below w.heap.size w (w.alloc (.cells #[] 24)) := (Below.refl _ w).alloc (Nat.le_refl _) _
  clear hS hl
  go_enter Tryz.func35, Tryz.ntmps35
  go_wp2
  go_loopw [3, 4] (fun v i wr => ∃ (k g c : Nat), k ≤ m ∧ i = .int .i64 k ∧ v = .slice (some ⟨g, 0, none⟩) k c ∧ IntsS wr w.heap.size (.slice (some ⟨g, 0, none⟩) k c) (S.take k) ∧ Below w.heap.size w wr) (fun _ i _ => m - (intOf i).toNat)
  case atStart => exact ⟨0, w.heap.size, 0, Nat.zero_le _, rfl, rfl, hI0, hb0⟩
  case round =>
    obtain ⟨k, g, c, hk, rfl, rfl, hI, hb⟩ := hrel
    clear hI0 hb0
    by_cases hlt : k < m
    · obtain ⟨ad, A', c', z, rfl, hz, hcell, hA⟩ := (unhide HS).2 wr hb k hlt
      have hzl := hA.le
      have hnext := hide (show S.take (k + 1) = S.take k ++ [z] from by rw [List.take_add_one, hz]; rfl)
      have hb1e : Below wr.heap.size wr (wr.alloc (.cells #[] 3)) := (Below.refl _ wr).alloc (Nat.le_refl _) _
      have hown0 := own0 wr wr.heap.size (Nat.le_refl _)
      have hAe := hA.below hb1e
      have hze : wr.heap.size ≤ (wr.alloc (.cells #[] 3)).heap.size := hb1e.size
      have lc : (ad.add k).block < wr.heap.size := World.block_lt_of_cell? _ _ hcell
      have htk : (S.take k).length ≤ 1048576 := by rw [List.length_take]; omega
      have hsz := hb.size
      clear hz hA
      go_wp2_with (first
        | (at_builtin; refine wpList_append_arg rfl (.tmp 13) (.tmp 17) rfl wr.heap.size wr.heap.size 0 z.length c' wr _ A' [] z rfl rfl hown0 hAe (by omega) hb1e hze ?_; intro v6 w6 hown6 hb6 hg6; have hI6 := Ints.of_own hown6; rw [List.nil_append] at hI6; obtain ⟨A6, c6, rfl⟩ := hI6.slice; clear hown6 hg6 hown0 hAe hb1e hze)
        | (at_builtin; refine wpList_push_row rfl (.tmp 12) (.tmp 19) rfl w.heap.size w wr w6 _ _ (S.take k) z rfl rfl rfl hI hb6 hI6 htk (below_after hb hb6) hsz ?_; intro v8 w8 hI8 hb8))
      rw [← unhide hnext] at hI8
      obtain ⟨A8, c8, rfl⟩ := hI8.slice
      have hl8 : (S.take (k + 1)).length = k + 1 := by rw [List.length_take]; have := unhide HL; omega
      rw [hl8] at hI8
      obtain ⟨g8, rfl⟩ := hI8.shape (Nat.succ_pos k)
      have HI8 := hide hI8
      rw [hl8]
      clear hI hI8 hI6 hb6 hb hcell
      go_wp2
      go_roundw
      case rel => exact ⟨k + 1, g8, c8, by omega, by go_num, rfl, unhide HI8, hb8⟩
      case measure => simp [intOf]; omega
    · obtain rfl : m = k := by omega
      have hfin : Hid (IntsS wr w.heap.size (.slice (some ⟨g, 0, none⟩) S.length c) S) := hide (by
        have e : S.take m = S := by rw [← unhide HL, List.take_length]
        rw [e] at hI
        rw [unhide HL]; exact hI)
      clear hI
      go_wp2
      go_ret
      exact ⟨g, c, by rw [unhide HL]; rfl, unhide hfin, hb⟩
end Go.Proofs.YtinnlhfdgbeibaaGreat


/-
  PLAIN: the parts of a sum, joined, are the sum; no permutation is a sum and a skew sum; parts of a sum of two.
-/

namespace Go.Proofs.YtinnlhfdgbeibaaGreat
set_option maxRecDepth 100000

theorem most_from : ∀ (l : List Int) (a : Int), a ≤ l.foldl max a ∧ (∀ x ∈ l, x ≤ l.foldl max a) ∧ (l.foldl max a = a ∨ l.foldl max a ∈ l)
  | [], a => ⟨Int.le_refl _, fun x hx => by simp at hx, .inl rfl⟩
  | y :: l, a => by
    obtain ⟨h1, h2, h3⟩ := most_from l (max a y)
    rw [List.foldl_cons]
    refine ⟨by omega, fun x hx => ?_, ?_⟩
    · rcases List.mem_cons.1 hx with rfl | hx
      · omega
      · exact h2 x hx
    · rcases h3 with h3 | h3
      · by_cases h : a ≤ y
        · right; rw [h3, show max a y = y by omega]; simp
        · left; rw [h3]; omega
      · exact .inr (List.mem_cons_of_mem _ h3)
theorem le_most {l : List Int} {x : Int} (h : x ∈ l) : x ≤ most l := (most_from l 0).2.1 x h
theorem most_mem {l : List Int} : most l = 0 ∨ most l ∈ l := (most_from l 0).2.2
theorem most_isP {p : List Int} (h : isP p = true) : most p = p.length := by
  obtain ⟨_, hr, hn⟩ := isP_true.1 h
  have h1 : most p ≤ p.length := by
    rcases most_mem (l := p) with e | e
    · omega
    · exact (hr _ e).2
  by_cases h0 : p.length = 0
  · have := (most_from p 0).1; unfold most; unfold most at h1; omega
  · have h2 := (nodup_iff_all hr).1 hn (p.length - 1) (by omega)
    have h3 := le_most h2
    omega
/-- At a cut the numbers so far are a permutation. -/
theorem cut_isP {p : List Int} (h : isP p = true) {j : Nat} (hj : j ≤ p.length) (hc : most (p.take j) = j) : isP (p.take j) = true := by
  obtain ⟨h8, hr, hn⟩ := isP_true.1 h
  refine isP_true.2 ⟨by rw [List.length_take]; omega, fun x hx => ?_, ?_⟩
  · rw [List.length_take, Nat.min_eq_left hj]
    exact ⟨(hr x (List.mem_of_mem_take hx)).1, by rw [← hc]; exact le_most hx⟩
  · exact nodup_cut (a := 0) hn (b := j)
theorem cnt_app (a b : List Int) (v : Int) : cnt (a ++ b) v = cnt a v + cnt b v := by unfold cnt; rw [List.filter_append, List.length_append]
theorem cnt_upTo (n : Nat) (v : Int) (h1 : 1 ≤ v) (h2 : v ≤ n) : (cnt (upTo n) v : Int) = v - 1 := by
  have : ∀ k : Nat, (cnt (upTo k) v : Int) = min (v - 1) k := fun k => by
    induction k with
    | zero =>
      have : cnt (upTo 0) v = 0 := rfl
      rw [this]; omega
    | succ k ih =>
      rw [upTo_step, cnt_snoc]
      by_cases h : (k : Int) + 1 < v
      · rw [if_pos h]; omega
      · rw [if_neg h]; omega
  rw [this n]; omega
theorem perm_upTo {l : List Int} (h : isP l = true) : l.Perm (upTo l.length) := by
  obtain ⟨_, hr, hn⟩ := isP_true.1 h
  refine (List.perm_ext_iff_of_nodup hn (upTo_nodup _)).2 fun x => ⟨fun hx => mem_upTo.2 (hr x hx), fun hx => ?_⟩
  obtain ⟨h1, h2⟩ := mem_upTo.1 hx
  have := (nodup_iff_all hr).1 hn (x - 1).toNat (by omega)
  rwa [show (((x - 1).toNat : Nat) : Int) + 1 = x by omega] at this
theorem cnt_isP {l : List Int} (h : isP l = true) {v : Int} (hv : v ∈ l) : (cnt l v : Int) = v - 1 := by
  obtain ⟨h1, h2⟩ := (isP_true.1 h).2.1 v hv
  have e : cnt l v = cnt (upTo l.length) v := by unfold cnt; exact ((perm_upTo h).filter _).length_eq
  rw [e]
  exact cnt_upTo _ _ h1 h2
theorem cnt_all {l : List Int} {v : Int} (h : ∀ x ∈ l, x < v) : cnt l v = l.length := by
  unfold cnt
  rw [List.filter_eq_self.2 (fun x hx => by simpa using h x hx)]
/-- The pattern of a part, raised to where it began, is the part. -/
theorem part_back {p : List Int} (h : isP p = true) {f k : Nat} (hfk : f ≤ k) (hk : k < p.length) (hf : most (p.take f) = f) (hc : most (p.take (k + 1)) = (k : Int) + 1) :
    (patL ((p.drop f).take (k + 1 - f))).map (fun v => v + (f : Int)) = (p.drop f).take (k + 1 - f) := by
  obtain ⟨seg, hseg⟩ : ∃ seg, seg = (p.drop f).take (k + 1 - f) := ⟨_, rfl⟩
  rw [← hseg]
  have hsplit : p.take (k + 1) = p.take f ++ seg := by
    rw [hseg, ← List.drop_take, show p.take f = (p.take (k + 1)).take f by rw [List.take_take, Nat.min_eq_left (by omega)], List.take_append_drop]
  have h1 := cut_isP h (j := f) (by omega) hf
  have h2 := cut_isP h (j := k + 1) (by omega) (by rw [hc]; omega)
  have hn := (isP_true.1 h2).2.2
  rw [hsplit] at hn
  have hdis := (List.nodup_append.1 hn).2.2
  unfold patL
  rw [List.map_map]
  refine (List.map_congr_left fun v hv => ?_).trans (List.map_id _)
  simp only [Function.comp, id]
  have hv2 : v ∈ p.take (k + 1) := by rw [hsplit]; exact List.mem_append_right _ hv
  have e1 := cnt_isP h2 hv2
  rw [hsplit, cnt_app] at e1
  have hfl : (p.take f).length = f := by rw [List.length_take]; omega
  have hbig : ∀ x ∈ p.take f, x < v := fun x hx => by
    have hxf := (isP_true.1 h1).2.1 x hx
    rw [hfl] at hxf
    have hvpos := ((isP_true.1 h2).2.1 v hv2).1
    by_cases hvf : v ≤ (f : Int)
    · have hin := (nodup_iff_all (isP_true.1 h1).2.1).1 (isP_true.1 h1).2.2 (v - 1).toNat (by rw [hfl]; omega)
      rw [show (((v - 1).toNat : Nat) : Int) + 1 = v by omega] at hin
      exact absurd rfl (hdis v hin v hv)
    · omega
  rw [cnt_all hbig, hfl] at e1
  omega
theorem prt_cut {p : List Int} (h : isP p = true) : ∀ k, k ≤ p.length → most (p.take (frm p k)) = (frm p k : Int) ∧ joinAll false (prt p k) = p.take (frm p k)
  | 0, _ => by simp [frm, prt, most, joinAll]
  | k + 1, hk => by
    obtain ⟨h1, h2⟩ := prt_cut h k (by omega)
    by_cases hc : most (p.take (k + 1)) = (k : Int) + 1
    · rw [frm_yes hc, prt_yes hc]
      refine ⟨by rw [hc]; omega, ?_⟩
      rw [joinAll_snoc, h2]
      have hfk := frm_le p k
      have hb := part_back h hfk (by omega) h1 hc
      have hfl : (p.take (frm p k)).length = frm p k := by rw [List.length_take]; omega
      simp only [joinL, Bool.false_eq_true, if_false, hfl]
      rw [hb, ← List.drop_take, show p.take (frm p k) = (p.take (k + 1)).take (frm p k) by rw [List.take_take, Nat.min_eq_left (by omega)], List.take_append_drop]
    · rw [frm_no hc, prt_no hc]
      exact ⟨h1, h2⟩
theorem frm_full {p : List Int} (h : isP p = true) : frm p p.length = p.length := by
  cases hn : p.length with
  | zero => rfl
  | succ n =>
    refine frm_yes ?_
    rw [← hn, List.take_length, most_isP h]; omega
theorem join_parts {p : List Int} (h : isP p = true) : joinAll false (partsR p) = p := by
  rw [partsR_yes h, (prt_cut h p.length (Nat.le_refl _)).2, frm_full h, List.take_length]
theorem parts_fit (p : List Int) : allFit (partsR p) = true := allFit_yes (fun _ hz => partsR_isP hz) (partsR_small p).2
theorem skews_fit (p : List Int) : allFit (skewsR p) = true := allFit_yes (fun _ hz => skewsR_isP hz) (skewsR_small p).2
theorem joins_parts {p : List Int} (h : isP p = true) : joinsR false (partsR p) = p := by rw [joinsR_yes (parts_fit p), join_parts h]
theorem cpl_cpl (p : List Int) : cplL (cplL p) = p := by
  unfold cplL
  rw [List.map_map, List.length_map]
  refine (List.map_congr_left fun v _ => ?_).trans (List.map_id _)
  simp only [Function.comp, id]
  omega
theorem cpl_join (a b : List Int) : joinL true (cplL a) (cplL b) = cplL (joinL false a b) := by
  simp only [joinL, if_true, Bool.false_eq_true, if_false, cplL_length]
  unfold cplL
  rw [List.map_append, List.map_map, List.map_map, List.length_append, List.length_map]
  congr 1
  · refine List.map_congr_left fun v _ => ?_
    simp only [Function.comp]; omega
  · refine List.map_congr_left fun v _ => ?_
    simp only [Function.comp]; omega
theorem cpl_joins (l : List (List Int)) : joinAll true (l.map cplL) = cplL (joinAll false l) := by
  have : ∀ (l : List (List Int)) (a : List Int), (l.map cplL).foldl (joinL true) (cplL a) = cplL (l.foldl (joinL false) a) := fun l => by
    induction l with
    | nil => intro a; rfl
    | cons z l ih => intro a; rw [List.map_cons, List.foldl_cons, List.foldl_cons, cpl_join, ih]
  exact this l []
theorem joins_skews {p : List Int} (h : isP p = true) : joinsR true (skewsR p) = p := by
  rw [joinsR_yes (skews_fit p), skewsR_yes h, cpl_joins, join_parts (isP_cpl h), cpl_cpl]
/-- Two parts: there is a cut in between. -/
theorem cut_between {p : List Int} (h : 1 < (prt p p.length).length) : ∃ j, 0 < j ∧ j < p.length ∧ most (p.take j) = j := by
  have hno : ∀ k, (∀ j, 0 < j → j ≤ k → most (p.take j) ≠ j) → prt p k = [] := fun k => by
    induction k with
    | zero => intro _; rfl
    | succ k ih =>
      intro hk
      have : ¬ most (p.take (k + 1)) = (k : Int) + 1 := fun e => hk (k + 1) (by omega) (Nat.le_refl _) (by rw [e]; omega)
      rw [prt_no this]
      exact ih fun j h1 h2 => hk j h1 (by omega)
  cases hn : p.length with
  | zero => rw [hn] at h; simp [prt] at h
  | succ n =>
    rw [hn] at h
    by_cases hall : ∀ j, 0 < j → j ≤ n → most (p.take j) ≠ j
    · have e := hno n hall
      rw [prt, e] at h
      split at h <;> simp at h
    · have : ∃ j, 0 < j ∧ j ≤ n ∧ most (p.take j) = j := by
        refine Classical.byContradiction fun hc => hall fun j h1 h2 e => hc ⟨j, h1, h2, e⟩
      obtain ⟨j, h1, h2, h3⟩ := this
      exact ⟨j, h1, by omega, h3⟩
theorem not_both {p : List Int} (h1 : 1 < (partsR p).length) (h2 : 1 < (skewsR p).length) : False := by
  cases h : isP p with
  | false => rw [partsR_no h] at h1; simp at h1
  | true =>
    rw [partsR_yes h] at h1
    rw [skewsR_yes h, List.length_map, partsR_yes (isP_cpl h)] at h2
    obtain ⟨j, hj0, hjn, hjc⟩ := cut_between h1
    obtain ⟨i, hi0, hin, hic⟩ := cut_between h2
    rw [cplL_length] at hin
    have a1 := cut_isP h (Nat.le_of_lt hjn) hjc
    have a2 := cut_isP (isP_cpl h) (by rw [cplL_length]; omega) hic
    have lj : (p.take j).length = j := by rw [List.length_take]; omega
    have li : ((cplL p).take i).length = i := by rw [List.length_take, cplL_length]; omega
    have one_j : (1 : Int) ∈ p.take j := by
      have := (nodup_iff_all (isP_true.1 a1).2.1).1 (isP_true.1 a1).2.2 0 (by omega)
      simpa using this
    have top_j : ∀ x ∈ p.take j, x ≤ (j : Int) := fun x hx => by have := ((isP_true.1 a1).2.1 x hx).2; rwa [lj] at this
    have emap : (cplL p).take i = (p.take i).map fun v => (p.length : Int) + 1 - v := by unfold cplL; rw [List.map_take]
    have top_i : (p.length : Int) ∈ p.take i := by
      have := (nodup_iff_all (isP_true.1 a2).2.1).1 (isP_true.1 a2).2.2 0 (by omega)
      rw [emap] at this
      obtain ⟨v, hv, e⟩ := List.mem_map.1 this
      rwa [show v = (p.length : Int) by omega] at hv
    have one_i : (1 : Int) ∉ p.take i := fun hx => by
      have h3 : (p.length : Int) + 1 - 1 ∈ (cplL p).take i := by rw [emap]; exact List.mem_map.2 ⟨1, hx, rfl⟩
      have := ((isP_true.1 a2).2.1 _ h3).2
      rw [li] at this
      omega
    by_cases hij : j ≤ i
    · exact one_i (by rw [show p.take j = (p.take i).take j by rw [List.take_take, Nat.min_eq_left hij]] at one_j; exact List.mem_of_mem_take one_j)
    · have := top_j _ (by rw [show p.take i = (p.take j).take i by rw [List.take_take, Nat.min_eq_left (by omega)]] at top_i; exact List.mem_of_mem_take top_i)
      omega
theorem most_map (c : Int) : ∀ (l : List Int) (a : Int), (l.map fun v => v + c).foldl max (a + c) = l.foldl max a + c
  | [], _ => rfl
  | y :: l, a => by
    rw [List.map_cons, List.foldl_cons, List.foldl_cons, show max (a + c) (y + c) = max a y + c by omega]
    exact most_map c l (max a y)
theorem parts_join {x y : List Int} (h : fit x y = true) : (partsR (joinR false x y)).length = (partsR x).length + (partsR y).length := by
  obtain ⟨hx, hy, _⟩ := fit_all h
  rw [joinR_yes h, partsR_yes (isP_join h), partsR_yes hx, partsR_yes hy, joinL_length]
  have es : joinL false x y = x ++ y.map (fun v => v + (x.length : Int)) := by simp [joinL]
  rw [es]
  obtain ⟨s, hs⟩ : ∃ s, s = x ++ y.map (fun v => v + (x.length : Int)) := ⟨_, rfl⟩
  rw [← hs]
  have h1 : ∀ k, k ≤ x.length → (prt s k).length = (prt x k).length := fun k => by
    induction k with
    | zero => intro _; rfl
    | succ k ih =>
      intro hk
      have e : s.take (k + 1) = x.take (k + 1) := by rw [hs, List.take_append_of_le_length hk]
      rw [prt, prt, e]
      split
      · rw [List.length_append, List.length_append, ih (by omega)]; rfl
      · exact ih (by omega)
  have h2 : ∀ j, j ≤ y.length → (prt s (x.length + j)).length = (prt x x.length).length + (prt y j).length := fun j => by
    induction j with
    | zero => intro _; rw [Nat.add_zero, h1 _ (Nat.le_refl _)]; rfl
    | succ j ih =>
      intro hj
      have e : s.take (x.length + j + 1) = x ++ (y.take (j + 1)).map (fun v => v + (x.length : Int)) := by
        rw [hs, Nat.add_assoc, List.take_append, List.take_of_length_le (by omega), Nat.add_sub_cancel_left, List.map_take]
      have em : most (s.take (x.length + j + 1)) = most (y.take (j + 1)) + (x.length : Int) := by
        rw [e]
        unfold most
        rw [List.foldl_append]
        have h3 : x.foldl max 0 = 0 + (x.length : Int) := by have := most_isP hx; unfold most at this; omega
        rw [h3]
        exact most_map _ _ 0
      rw [← Nat.add_assoc, prt, prt, em]
      by_cases hc : most (y.take (j + 1)) = (j : Int) + 1
      · rw [if_pos hc, if_pos (by rw [hc]; omega), List.length_append, List.length_append, ih (by omega)]
        simp only [List.length_singleton]; omega
      · rw [if_neg hc, if_neg (by omega)]
        exact ih (by omega)
  exact h2 y.length (Nat.le_refl _)
end Go.Proofs.YtinnlhfdgbeibaaGreat


/-
  PLAIN: the root and the parts of a permutation. Nothing here speaks of the program.
-/

namespace Go.Proofs.YtinnlhfdgbeibaaGreat
set_option maxRecDepth 100000

theorem prt_pos {p : List Int} : ∀ k, k ≤ p.length → ∀ z ∈ prt p k, 0 < z.length
  | 0, _, z, hz => by simp [prt] at hz
  | k + 1, hk, z, hz => by
    by_cases hm : most (p.take (k + 1)) = (k : Int) + 1
    · rw [prt_yes hm, List.mem_append, List.mem_singleton] at hz
      rcases hz with hz | rfl
      · exact prt_pos k (by omega) z hz
      · have := frm_le p k
        rw [patL_length, List.length_take, List.length_drop]; omega
    · rw [prt_no hm] at hz
      exact prt_pos k (by omega) z hz
theorem partsR_pos {p z : List Int} (hz : z ∈ partsR p) : 0 < z.length := by
  cases h : isP p with
  | false => rw [partsR_no h] at hz; cases hz
  | true => rw [partsR_yes h] at hz; exact prt_pos _ (Nat.le_refl _) z hz
theorem partsR_tot {p : List Int} (h : isP p = true) : tot (partsR p) = p.length := by
  have := congrArg List.length (join_parts h)
  rwa [joinAll_length] at this
theorem skewsR_pos {p z : List Int} (hz : z ∈ skewsR p) : 0 < z.length := by
  cases h : isP p with
  | false => rw [skewsR_no h] at hz; cases hz
  | true =>
    rw [skewsR_yes h] at hz
    obtain ⟨y, hy, rfl⟩ := List.mem_map.1 hz
    rw [cplL_length]
    exact partsR_pos hy
theorem skewsR_tot {p : List Int} (h : isP p = true) : tot (skewsR p) = p.length := by
  have h1 := congrArg List.length (joins_skews h)
  rw [joinsR_yes (skews_fit p), joinAll_length] at h1
  exact h1

/-- How far the longest interval from place a on goes that has not all places. -/
def topK (p : List Int) (a : Nat) : Nat → Nat
  | 0 => 0
  | k + 1 => if k + 2 = p.length ∨ iv p a (k + 1) = false then topK p a k else k + 1
theorem topK_le (p : List Int) (a : Nat) : ∀ m, topK p a m ≤ m
  | 0 => Nat.le_refl _
  | k + 1 => by
    have := topK_le p a k
    rw [topK]; split <;> omega
theorem topK_ne {p : List Int} {a : Nat} (h : 2 ≤ p.length) : ∀ m, topK p a m + 1 ≠ p.length
  | 0 => by rw [topK]; omega
  | k + 1 => by
    have := topK_ne (a := a) h k
    rw [topK]
    by_cases hc : k + 2 = p.length ∨ iv p a (k + 1) = false
    · rw [if_pos hc]; exact this
    · rw [if_neg hc]; omega
theorem topK_iv {p : List Int} {a : Nat} (hp : isP p = true) (ha : a < p.length) : ∀ m, iv p a (topK p a m) = true
  | 0 => by rw [topK]; exact iv_one hp ha
  | k + 1 => by
    have := topK_iv (a := a) hp ha k
    rw [topK]
    by_cases hc : k + 2 = p.length ∨ iv p a (k + 1) = false
    · rw [if_pos hc]; exact this
    · rw [if_neg hc]
      simp only [not_or, Bool.not_eq_false] at hc
      exact hc.2
/-- Where the longest intervals begin, and how far they go. -/
def cuts (p : List Int) (a : Nat) : List (Nat × Nat) :=
  if a < p.length then (a, topK p a (p.length - 1 - a)) :: cuts p (a + topK p a (p.length - 1 - a) + 1) else []
  termination_by p.length - a
theorem cuts_yes {p : List Int} {a : Nat} (h : a < p.length) : cuts p a = (a, topK p a (p.length - 1 - a)) :: cuts p (a + topK p a (p.length - 1 - a) + 1) := by rw [cuts, if_pos h]
theorem cuts_no {p : List Int} {a : Nat} (h : ¬ a < p.length) : cuts p a = [] := by rw [cuts, if_neg h]
theorem cuts_ind {p : List Int} {P : Nat → Prop} (h0 : ∀ a, ¬ a < p.length → P a) (h1 : ∀ a, a < p.length → P (a + topK p a (p.length - 1 - a) + 1) → P a) (a : Nat) : P a := by
  have : ∀ m a, p.length - a ≤ m → P a := fun m => by
    induction m with
    | zero => intro a ha; exact h0 a (by omega)
    | succ m ih =>
      intro a ha
      by_cases hl : a < p.length
      · exact h1 a hl (ih _ (by omega))
      · exact h0 a hl
  exact this _ a (Nat.le_refl _)
theorem mem_cuts {p : List Int} {c : Nat × Nat} (a : Nat) : c ∈ cuts p a → a ≤ c.1 ∧ c.1 + c.2 < p.length ∧ c.2 = topK p c.1 (p.length - 1 - c.1) := by
  induction a using cuts_ind (p := p) with
  | h0 a h => rw [cuts_no h]; intro hc; cases hc
  | h1 a h ih =>
    rw [cuts_yes h]
    intro hc
    rcases List.mem_cons.1 hc with rfl | hc
    · have := topK_le p a (p.length - 1 - a)
      exact ⟨Nat.le_refl _, by simp only; omega, rfl⟩
    · have := ih hc
      omega
theorem cuts_length (p : List Int) (a : Nat) : (cuts p a).length ≤ p.length - a := by
  induction a using cuts_ind (p := p) with
  | h0 a h => rw [cuts_no h]; simp
  | h1 a h ih => rw [cuts_yes h, List.length_cons]; omega
def topsOf (p : List Int) (l : List (Nat × Nat)) : List Int := l.map fun c => at0 p c.1
def pcsOf (p : List Int) (l : List (Nat × Nat)) : List (List Int) := l.map fun c => patL (seg p c.1 (c.2 + 1))
theorem tops_snoc (p : List Int) (l : List (Nat × Nat)) (a k : Nat) : topsOf p (l ++ [(a, k)]) = topsOf p l ++ [at0 p a] := by simp [topsOf]
theorem pcs_snoc (p : List Int) (l : List (Nat × Nat)) (a k : Nat) : pcsOf p (l ++ [(a, k)]) = pcsOf p l ++ [patL (seg p a (k + 1))] := by simp [pcsOf]

def sumRoot (s : Bool) : List Int := if s then [2, 1] else [1, 2]
def sumPcs (s : Bool) (l : List (List Int)) : List (List Int) := [l.headD [], joinsR s (l.drop 1)]
/-- The root, the parts of a permutation that is not empty. -/
def rootP (p : List Int) : List Int :=
  if p.length = 1 then [1] else if 1 < (partsR p).length then sumRoot false else if 1 < (skewsR p).length then sumRoot true else patL (topsOf p (cuts p 0))
def pcsP (p : List Int) : List (List Int) :=
  if p.length = 1 then [[1]] else if 1 < (partsR p).length then sumPcs false (partsR p) else if 1 < (skewsR p).length then sumPcs true (skewsR p) else pcsOf p (cuts p 0)
def splitOK (p : List Int) : Bool := isP p && decide (0 < p.length)
def rootR (p : List Int) : List Int := if splitOK p then rootP p else []
def pcsR (p : List Int) : List (List Int) := if splitOK p then pcsP p else []
theorem rootR_yes {p : List Int} (h : splitOK p = true) : rootR p = rootP p := by unfold rootR; rw [if_pos h]
theorem rootR_no {p : List Int} (h : splitOK p = false) : rootR p = [] := by unfold rootR; rw [if_neg (by simp [h])]
theorem pcsR_yes {p : List Int} (h : splitOK p = true) : pcsR p = pcsP p := by unfold pcsR; rw [if_pos h]
theorem pcsR_no {p : List Int} (h : splitOK p = false) : pcsR p = [] := by unfold pcsR; rw [if_neg (by simp [h])]
theorem splitOK_all {p : List Int} (h : splitOK p = true) : isP p = true ∧ 0 < p.length := by simpa [splitOK] using h
theorem splitOK_no1 {p : List Int} (h : isP p = false) : splitOK p = false := by simp [splitOK, h]
theorem splitOK_no2 {p : List Int} (h : p.length = 0) : splitOK p = false := by simp [splitOK, h]
theorem splitOK_yes {p : List Int} (h : isP p = true) (h0 : 0 < p.length) : splitOK p = true := by simp [splitOK, h, h0]

theorem sumPcs_at {s : Bool} {l : List (List Int)} {n : Nat} (hp : ∀ z ∈ l, isP z = true ∧ 0 < z.length) (ht : tot l = n) (hn : n ≤ 8) (h1 : 1 < l.length) : ∀ z ∈ sumPcs s l, isP z = true ∧ 0 < z.length ∧ z.length < n := by
  match l, h1 with
  | x :: y :: r, _ =>
    have hx := hp x (by simp)
    have hy := hp y (by simp)
    have e1 : tot (x :: y :: r) = x.length + (y.length + tot r) := by simp [tot]
    have e2 : tot (y :: r) = y.length + tot r := by simp [tot]
    have hf : allFit (y :: r) = true := allFit_yes (fun z hz => (hp z (by simp at hz ⊢; right; exact hz)).1) (by omega)
    intro z hz
    simp only [sumPcs, List.headD_cons, List.drop_succ_cons, List.drop_zero, List.mem_cons, List.not_mem_nil, or_false] at hz
    rcases hz with rfl | rfl
    · exact ⟨hx.1, hx.2, by omega⟩
    · rw [joinsR_yes hf, joinAll_length]
      simp only [allFit, Bool.and_eq_true, decide_eq_true_eq] at hf
      exact ⟨joinAll_isP _ hf.1 hf.2, by omega, by omega⟩
theorem pcsP_at {p : List Int} (hp : isP p = true) : ∀ z ∈ pcsP p, isP z = true ∧ 0 < z.length ∧ z.length ≤ p.length ∧ (2 ≤ p.length → z.length < p.length) := fun z hz => by
  have h8 := isP_le hp
  unfold pcsP at hz
  by_cases h1 : p.length = 1
  · rw [if_pos h1, List.mem_singleton] at hz
    subst hz
    exact ⟨by decide, by simp, by simp; omega, fun h => by omega⟩
  · rw [if_neg h1] at hz
    by_cases h2 : 1 < (partsR p).length
    · rw [if_pos h2] at hz
      have := sumPcs_at (fun y hy => ⟨partsR_isP hy, partsR_pos hy⟩) (partsR_tot hp) h8 h2 z hz
      exact ⟨this.1, this.2.1, by omega, fun _ => this.2.2⟩
    · rw [if_neg h2] at hz
      by_cases h3 : 1 < (skewsR p).length
      · rw [if_pos h3] at hz
        have := sumPcs_at (fun y hy => ⟨skewsR_isP hy, skewsR_pos hy⟩) (skewsR_tot hp) h8 h3 z hz
        exact ⟨this.1, this.2.1, by omega, fun _ => this.2.2⟩
      · rw [if_neg h3] at hz
        obtain ⟨c, hc, rfl⟩ := List.mem_map.1 hz
        obtain ⟨m1, m2, m3⟩ := mem_cuts 0 hc
        have hl : (seg p c.1 (c.2 + 1)).length = c.2 + 1 := seg_length (by omega)
        refine ⟨by rw [isP_pat]; exact patOK_cut hp c.1 (c.2 + 1), by rw [patL_length]; omega, by rw [patL_length]; omega, fun h => ?_⟩
        have := topK_ne (p := p) (a := c.1) h (p.length - 1 - c.1)
        rw [← m3] at this
        rw [patL_length]; omega
theorem pcsP_len {p : List Int} (hp : isP p = true) : (pcsP p).length ≤ 8 := by
  have h8 := isP_le hp
  unfold pcsP sumPcs
  have := cuts_length p 0
  repeat' split
  all_goals simp [pcsOf]
  all_goals omega
theorem rootP_len {p : List Int} (hp : isP p = true) : (rootP p).length ≤ 8 := by
  have h8 := isP_le hp
  unfold rootP sumRoot
  have := cuts_length p 0
  repeat' split
  all_goals simp [topsOf, patL_length]
  all_goals omega
end Go.Proofs.YtinnlhfdgbeibaaGreat


/-
  A struct of a row and a list of rows: the words for it (of the tree's chapter and of the boxes').
-/

namespace Go.Proofs.YtinnlhfdgbeibaaGreat
set_option maxRecDepth 100000
open Go.RowKit

/-- The root and the parts of an Inflation, rows of the call's own, apart from each other. -/
structure InfAt (w : World) (B : Nat) (rv pv : Value) (root : List Int) (pcs : List (List Int)) : Prop where
  row : Ints w B rv root
  pcs : Fresh w B pv pcs rv
theorem Fresh.below {w w' : World} {B : Nat} {v u : Value} {zss : List (List Int)} (h : Fresh w B v zss u) (hb : Below w.heap.size w w') : Fresh w' B v zss u := by
  obtain ⟨vs, h1, h2, h3⟩ := h
  exact ⟨vs, own_below h1 hb, h2.keepI (KeepI.of_below hb), h3⟩
theorem Fresh.intsS {w : World} {B : Nat} {v u : Value} {zss : List (List Int)} (h : Fresh w B v zss u) : IntsS w B v zss := by
  obtain ⟨vs, h1, h2, _⟩ := h
  exact ⟨vs, h1, h2⟩
theorem Fresh.low {w : World} {B B' : Nat} {v u : Value} {zss : List (List Int)} (h : Fresh w B v zss u) (hB : B' ≤ B) : Fresh w B' v zss u := by
  obtain ⟨vs, h1, h2, h3⟩ := h
  refine ⟨vs, ⟨h1.1, ?_⟩, h2.low hB, h3⟩
  rcases h1.2 with h0 | ⟨g, cap, cur, hv, hb, hr⟩
  · exact .inl h0
  · exact .inr ⟨g, cap, cur, hv, Nat.le_trans hB hb, hr⟩
theorem InfAt.below {w w' : World} {B : Nat} {rv pv : Value} {root : List Int} {pcs : List (List Int)} (h : InfAt w B rv pv root pcs) (hb : Below w.heap.size w w') : InfAt w' B rv pv root pcs := ⟨h.row.below hb, h.pcs.below hb⟩
theorem InfAt.low {w : World} {B B' : Nat} {rv pv : Value} {root : List Int} {pcs : List (List Int)} (h : InfAt w B rv pv root pcs) (hB : B' ≤ B) : InfAt w B' rv pv root pcs := ⟨h.row.low hB, h.pcs.low hB⟩
def GivesX (w : World) (root : List Int) (pcs : List (List Int)) (e : Ending) (w' : World) : Prop :=
  ∃ A c A' c', e = .returned (.agg #[.slice A root.length c, .slice A' pcs.length c']) ∧ InfAt w' w.heap.size (.slice A root.length c) (.slice A' pcs.length c') root pcs ∧ Below w.heap.size w w'
def GivesXB (w : World) (root : List Int) (pcs : List (List Int)) (b : Bool) (e : Ending) (w' : World) : Prop :=
  ∃ A c A' c', e = .returned (.tuple #[.agg #[.slice A root.length c, .slice A' pcs.length c'], .bool b]) ∧ InfAt w' w.heap.size (.slice A root.length c) (.slice A' pcs.length c') root pcs ∧ Below w.heap.size w w'
theorem GivesX.mk {w w' : World} {rv pv : Value} {root : List Int} {pcs : List (List Int)} (h : InfAt w' w.heap.size rv pv root pcs) (hb : Below w.heap.size w w') : GivesX w root pcs (.returned (.agg #[rv, pv])) w' := by
  obtain ⟨A, c, rfl⟩ := h.row.slice
  obtain ⟨A', c', rfl⟩ := h.pcs.intsS.slice
  exact ⟨A, c, A', c', rfl, h, hb⟩
theorem GivesXB.mk {w w' : World} {rv pv : Value} {root : List Int} {pcs : List (List Int)} (b : Bool) (h : InfAt w' w.heap.size rv pv root pcs) (hb : Below w.heap.size w w') : GivesXB w root pcs b (.returned (.tuple #[.agg #[rv, pv], .bool b])) w' := by
  obtain ⟨A, c, rfl⟩ := h.row.slice
  obtain ⟨A', c', rfl⟩ := h.pcs.intsS.slice
  exact ⟨A, c, A', c', rfl, h, hb⟩

theorem IntsS.cap {w : World} {B n c : Nat} {A : Option Addr} {zss : List (List Int)} (h : IntsS w B (.slice A n c) zss) : n ≤ c := by
  have hl := h.len
  obtain ⟨vs, h1, _⟩ := h
  rcases h1.2 with ⟨hv, hz⟩ | ⟨g, cap, cur, hv, _, _, hnc, _⟩
  · injection hv with _ h3; omega
  · injection hv with _ h3 h4
    omega

/-- A row that lies over a block is not met by what is put into that block. -/
theorem Ints.aside {w : World} {B : Nat} {v : Value} {zs : List Int} (h : Ints w B v zs) {p : Addr} (hp : p.block < B) (u : Value) : Ints (w.setCell p u) B v zs := by
  refine ⟨h.1, ?_⟩
  rcases h.2 with hn | ⟨g, cap, cur, e, rfl, hb, hgg, h1, h2, he⟩
  · exact .inl hn
  · exact .inr ⟨g, cap, cur, e, rfl, hb, (Below.heap_setCell w p u g (by omega)).trans hgg, h1, h2, he⟩

theorem own_aside {w : World} {B n k : Nat} {e : TypeId} {v : Value} {xs : List Value} (h : w.ownsRow B e k v n xs) {p : Addr} (hp : p.block < B) (u : Value) : (w.setCell p u).ownsRow B e k v n xs := by
  refine ⟨h.1, ?_⟩
  rcases h.2 with hn | ⟨g, cap, cur, rfl, hb, hgg, hr⟩
  · exact .inl hn
  · exact .inr ⟨g, cap, cur, rfl, hb, (Below.heap_setCell w p u g (by omega)).trans hgg, hr⟩
theorem Fresh.aside {w : World} {B : Nat} {v r : Value} {zss : List (List Int)} (h : Fresh w B v zss r) {p : Addr} (hp : p.block < B) (u : Value) : Fresh (w.setCell p u) B v zss r := by
  obtain ⟨vs, h1, h2, h3⟩ := h
  exact ⟨vs, own_aside h1 hp u, ⟨h2.len, fun i x zs hx hz => (h2.row i x zs hx hz).aside hp u, h2.away⟩, h3⟩
theorem InfAt.aside {w : World} {B : Nat} {rv pv : Value} {root : List Int} {pcs : List (List Int)} (h : InfAt w B rv pv root pcs) {p : Addr} (hp : p.block < B) (u : Value) : InfAt (w.setCell p u) B rv pv root pcs :=
  ⟨h.row.aside hp u, h.pcs.aside hp u⟩
/-- What a call gave is put into the block of its own result. -/
theorem inf_end {w w3 : World} {B : Nat} {rv pv : Value} {root : List Int} {pcs : List (List Int)} (hIn : InfAt w3 B rv pv root pcs) (hB : w.heap.size < B) (hb : Below w.heap.size w w3) :
    GivesX w root pcs (.returned (.agg #[rv, pv])) ((w3.setCell ⟨w.heap.size, 0, none⟩ rv).setCell ⟨w.heap.size, 1, none⟩ pv) :=
  GivesX.mk (((hIn.aside (by simpa using hB) _).aside (by simpa using hB) _).low (by omega)) ((hb.setCell (Nat.le_refl _) _).setCell (Nat.le_refl _) _)
end Go.Proofs.YtinnlhfdgbeibaaGreat
