
/-
  impl.sumOfAll: a list of rows that reads, by its contract. (Written by wip/tools/mkall.py.)
-/
import Derived.Test.YtjfdjjigamlhfaaSumM
import Derived.Test.YtjfdjjigamlhfaaIsPerm
import Derived.Test.YtjfdjjigamlhfaaIntsA
namespace Go.Proofs.Ytjfdjjigamlhfaa
open Go.RowKit

theorem flat_part {s : Bool} {L : Nat} {zss : List (List Int)} {k : Nat} {z : List Int} (h : zss[k]? = some z) :
    flatAll s L (zss.take (k + 1)) 0 = flatAll s L (zss.take k) 0 ++ z.map (fun v => v + ((if s then L - tot (zss.take k) - z.length else tot (zss.take k) : Nat) : Int)) := by
  rw [take_snoc_r h, flatAll_snoc]
  simp only [Nat.zero_add]
theorem ReadsS.at2 {w wr : World} {B n k : Nat} {A : Option Addr} {zss : List (List Int)} (h : ReadsS w B A n zss) (hb : Below B w wr) (hk : k < n) : ∃ ad A' c' z, A = some ad ∧ zss[k]? = some z ∧ wr.cell? (ad.add k) = some (.slice A' z.length c') ∧ Reads w B A' z.length (i64s z) := by
  obtain ⟨ad, e, h1, h2⟩ := h.rows (by omega)
  have hz : zss[k]? = some (zss[k]'(by rw [h.len]; exact hk)) := List.getElem?_eq_getElem _
  obtain ⟨A', c', h3, h4⟩ := h2 k _ hz
  exact ⟨ad, A', c', _, e, hz, (hb.cell (by rw [block_of_add]; exact h1)).trans h3, h4⟩
theorem flatAll_length (s : Bool) (L : Nat) : ∀ (l : List (List Int)) (n : Nat), (flatAll s L l n).length = tot l
  | [], _ => by simp [flatAll, tot]
  | z :: l, n => by
    rw [flatAll, List.length_append, flatAll_length s L l]
    simp [tot]
theorem map_take_step {z : List Int} {j : Nat} {x r : Int} (h : z[j]? = some x) : (z.take (j + 1)).map (fun v => v + r) = (z.take j).map (fun v => v + r) ++ [x + r] := by rw [take_snoc_i h, List.map_append]; rfl
theorem i64s_app (a b : List Int) : i64s (a ++ b) = i64s a ++ i64s b := by unfold i64s; rw [List.map_append]

set_option maxHeartbeats 1600000 in
theorem sumall_false (A : Option Addr) (n c B : Nat) (zss : List (List Int)) (w : World) (hS : ReadsS w B A n zss) (hB : B ≤ w.heap.size) (hn : n ≤ 1048576) (hsm : ∀ z ∈ zss, z.length ≤ 1048576 ∧ Small z) :
    Calls Try.prog 41 #[.bool false, .slice A n c] w (GivesIB w (joinsR false zss) (allFit zss)) := by
  obtain ⟨i0, hi, hz0, hz1, hz2⟩ := info_parts intInfo
  have hl := hS.len
  have HL := hide hl
  have HSM := hide hsm
  clear hl hsm
  go_enter Try.func41, Try.ntmps41
  go_wp2
  go_loopw [6, 8, 17] (fun lv _ i wr => ∃ k : Nat, k ≤ n ∧ i = .int .i64 k ∧ lv = .int .i64 (tot (zss.take k) : Int) ∧ tot (zss.take k) ≤ 8 ∧ Below w.heap.size w wr ∧ Hid (∀ z ∈ zss.take k, isP z = true)) (fun _ _ i _ => n - (intOf i).toNat)
  case atStart => exact ⟨0, Nat.zero_le _, rfl, rfl, by simp [tot], Below.refl _ _, fun z hz => by simp at hz⟩
  case round =>
    obtain ⟨k, hk, rfl, rfl, h8, hbw, hP⟩ := hrel
    by_cases hlt : k < n
    · obtain ⟨ad, A1, c1, z, rfl, hz, hcell, hrd⟩ := (hS.below (hbw.mono hB)).at_ hlt
      obtain ⟨hzl, hzs⟩ := unhide HSM z (List.mem_of_getElem? hz)
      obtain ⟨b, hb⟩ : ∃ b, isP z = b := ⟨_, rfl⟩
      have H1 := hide (iisperm_any A1 z.length c1 B z b hb wr hrd (Nat.le_trans hB hbw.size) hzl hzs)
      have HZ := hide hz
      have hts := hide (tot_step hz)
      have htt := hide (tot_take zss (k + 1))
      cases b with
      | false =>
        have hno := hide (allFit_no1 (List.mem_of_getElem? hz) hb)
        clear hz hb hrd hP hzs
        go_wp2_with fail
        refine (unhide H1).mono ?_
        rintro e w2 ⟨rfl, hb⟩
        have hb2 := below_after hbw hb
        clear H1 hb hbw
        go_wp2
        go_ret2
        rw [joinsR_no (unhide hno), unhide hno]
        exact GivesIB.mk false (v := .slice none 0 0) (Ints.nil _ _) hb2
      | true =>
        by_cases hle : tot (zss.take k) + z.length ≤ 8
        · have hnext : Hid (∀ z ∈ zss.take (k + 1), isP z = true) := hide (fun y hy => by
            rw [take_snoc_r hz] at hy
            rcases List.mem_append.1 hy with h | h
            · exact unhide hP y h
            · rw [List.mem_singleton] at h
              subst h
              exact hb)
          have hle2 : tot (zss.take (k + 1)) ≤ 8 := by rw [unhide hts]; exact hle
          have hcast : (tot (zss.take k) : Int) + (z.length : Int) = (tot (zss.take (k + 1)) : Int) := by rw [unhide hts]; omega
          have hgt : decide ((8 : Int) < (tot (zss.take (k + 1)) : Int)) = false := by simp; omega
          have hgt' : ¬ 8 < tot (zss.take (k + 1)) := by omega
          clear hz hb hrd hP hzs
          go_wp2_with fail
          refine (unhide H1).mono ?_
          rintro e w2 ⟨rfl, hb⟩
          have hb2 := below_after hbw hb
          clear H1 hb hbw
          go_wp2
          go_roundw
          case rel => exact ⟨k + 1, by omega, by go_num, rfl, hle2, hb2, hnext⟩
          case measure => simp [intOf]; omega
        · have hno := hide (allFit_no2 (l := zss) (by have := unhide htt; rw [unhide hts] at this; omega))
          have hgt : decide ((8 : Int) < (tot (zss.take k) : Int) + (z.length : Int)) = true := by simp; omega
          have hgt' : 8 < tot (zss.take k) + z.length := by omega
          clear hz hb hrd hP hzs
          go_wp2_with fail
          refine (unhide H1).mono ?_
          rintro e w2 ⟨rfl, hb⟩
          have hb2 := below_after hbw hb
          clear H1 hb hbw
          go_wp2
          go_ret2
          rw [joinsR_no (unhide hno), unhide hno]
          exact GivesIB.mk false (v := .slice none 0 0) (Ints.nil _ _) hb2
    · obtain rfl : n = k := by omega
      rw [List.take_of_length_le (by rw [unhide HL]; exact Nat.le_refl _)] at h8 hP ⊢
      have hyes := hide (allFit_yes (unhide hP) h8)
      have HP := hide (fun z (hz : z ∈ zss) k x hx => isP_range (unhide hP z hz) (k := k) (z := x) hx)
      clear hP
      have hs0 := hbw.size
      go_wp2_with (first
        | (at_make; refine wpList_make_own _ rfl (.const (.int .i64 0)) (.tmp 33) 22 rfl w.heap.size 3 i0 (.int .i64 0) 1 Try.underlying22 hi hz0 hz1 _ _ _ (tot zss) rfl rfl (by first | rfl | omega) (by rw [hz2]; omega) (by unfold maxLen; omega) (by omega) ?_; intro w1 hown hg))
      have hb1 := hbw.grown hg hs0 (by simp)
      clear hg hbw hs0
      go_loopw [9, 11, 12, 14, 37] (fun v _ _ _ i wr => ∃ k : Nat, k ≤ n ∧ i = .int .i64 k ∧ Below w.heap.size w wr ∧ wr.ownsRow w.heap.size 3 1 v (tot (zss.take k)) (i64s (flatAll false (tot zss) (zss.take k) 0))) (fun _ _ _ _ i _ => n - (intOf i).toNat)
      case atStart => exact ⟨0, Nat.zero_le _, rfl, hb1, hown⟩
      case round =>
        obtain ⟨k, hk, rfl, hbw, hown'⟩ := hrel
        clear hown hb1
        by_cases hlt : k < n
        · obtain ⟨ad, A1, c1, z, rfl, hz, hcell, hrd⟩ := hS.at2 (hbw.mono hB) hlt
          have HZ := hide (unhide HP z (List.mem_of_getElem? hz))
          have hstep := hide (flat_part (s := false) (L := tot zss) hz)
          have hts := tot_step hz
          have htt := tot_take zss (k + 1)
          have hFl := flatAll_length false (tot zss) (zss.take k) 0
          obtain ⟨T, hT⟩ : ∃ T, tot (zss.take k) = T := ⟨_, rfl⟩
          rw [hT] at hown' hts hstep hFl
          obtain ⟨r, hr⟩ : ∃ r : Nat, r = T := ⟨_, rfl⟩
          have hr8 : r ≤ 8 := by omega
          obtain ⟨fl, hfl⟩ : ∃ fl, fl = flatAll false (tot zss) (zss.take k) 0 := ⟨_, rfl⟩
          rw [← hfl] at hown' hFl
          obtain ⟨A9, c9, rfl, _⟩ := Reads.of_own hown'
          have hst : wr.ownsRow w.heap.size 3 1 (.slice A9 T c9) (T + 0) (i64s (fl ++ (z.take 0).map (fun v => v + (r : Int)))) := by
            rw [List.take_zero, List.map_nil, List.append_nil, Nat.add_zero]
            exact hown'
          have HTS := hide hts
          have hTL : T + z.length ≤ 8 := by omega
          have HST := hide (show i64s (flatAll false (tot zss) (zss.take (k + 1)) 0) = i64s (fl ++ z.map (fun v => v + (r : Int))) by
            rw [unhide hstep, ← hfl]
            simp only [Bool.false_eq_true, if_false]
            rw [← hr])
          clear hstep hts htt hT hfl hown' hz hFl
          subst r
          obtain ⟨wo, rfl⟩ : ∃ wo : World, wo = wr := ⟨_, rfl⟩
          have hbo := hbw
          go_wp2
          go_loopw [9, 14, 53] (fun v _ i wr => ∃ j : Nat, j ≤ z.length ∧ i = .int .i64 j ∧ Below w.heap.size w wr ∧ wr.ownsRow w.heap.size 3 1 v (T + j) (i64s (fl ++ (z.take j).map (fun v => v + (T : Int))))) (fun _ _ i _ => z.length - (intOf i).toNat)
          case atStart => exact ⟨0, Nat.zero_le _, rfl, hbo, hst⟩
          case round =>
            obtain ⟨j, hj, rfl, hbw2, hown⟩ := hrel
            clear hst hbo
            by_cases hlj : j < z.length
            · obtain ⟨ad1, u, rfl, had, hu, hc⟩ := (hrd.below (hbw2.mono hB)).at_ hlj
              obtain ⟨x, hx, rfl⟩ := i64_at hu
              obtain ⟨hx1, hx2⟩ := unhide HZ j x hx
              have hnext := hide (map_take_step (r := (T : Int)) hx)
              have hs2 := hbw2.size
              clear hu hx hrd hbw hcell
              go_wp2_with (first
                | (at_builtin; refine wpList_append_one rfl (.tmp 57) (.tmp 61) 22 rfl w.heap.size 3 i0 (.int .i64 0) 8 Try.underlying22 hi hz0 hz1 hz2 rfl w wr _ _ _ rfl hown (.int .i64 (x + (T : Int))) rfl rfl rfl (by omega) (by unfold maxLen; omega) hbw2 hs2 ?_; intro v2 w2 hown2 hb2 _))
              have e2 : i64s (fl ++ (z.take j).map (fun v => v + (T : Int))) ++ [Value.int .i64 (x + (T : Int))] = i64s (fl ++ (z.take (j + 1)).map (fun v => v + (T : Int))) := by rw [unhide hnext, ← List.append_assoc, i64s_app (fl ++ _)]; rfl
              rw [e2] at hown2
              clear e2 hown hbw2 hnext
              go_roundw
              case rel => exact ⟨j + 1, by omega, by go_num, hb2, hown2⟩
              case measure => simp [intOf]; omega
            · obtain rfl : z.length = j := by omega
              have hown3 : wr.ownsRow w.heap.size 3 1 u9 (tot (zss.take (k + 1))) (i64s (flatAll false (tot zss) (zss.take (k + 1)) 0)) := by
                rw [unhide HST, unhide HTS]
                have h := hown
                rwa [List.take_length] at h
              clear hown hrd hbw hcell
              go_wp2
              go_roundw
              case rel => exact ⟨k + 1, by omega, by go_num, hbw2, hown3⟩
              case measure => simp [intOf]; omega
        · obtain rfl : n = k := by omega
          have hI : Ints wr w.heap.size u9 (joinsR false zss) := by
            have h := hown'
            rw [List.take_of_length_le (by rw [unhide HL]; exact Nat.le_refl _), flat_join, ← joinAll_length false zss] at h
            rw [joinsR_yes (unhide hyes)]
            exact Ints.of_own h
          clear hown'
          go_wp2
          go_ret2
          rw [unhide hyes]
          exact GivesIB.mk true hI hbw

set_option maxHeartbeats 1600000 in
theorem sumall_true (A : Option Addr) (n c B : Nat) (zss : List (List Int)) (w : World) (hS : ReadsS w B A n zss) (hB : B ≤ w.heap.size) (hn : n ≤ 1048576) (hsm : ∀ z ∈ zss, z.length ≤ 1048576 ∧ Small z) :
    Calls Try.prog 41 #[.bool true, .slice A n c] w (GivesIB w (joinsR true zss) (allFit zss)) := by
  obtain ⟨i0, hi, hz0, hz1, hz2⟩ := info_parts intInfo
  have hl := hS.len
  have HL := hide hl
  have HSM := hide hsm
  clear hl hsm
  go_enter Try.func41, Try.ntmps41
  go_wp2
  go_loopw [6, 8, 17] (fun lv _ i wr => ∃ k : Nat, k ≤ n ∧ i = .int .i64 k ∧ lv = .int .i64 (tot (zss.take k) : Int) ∧ tot (zss.take k) ≤ 8 ∧ Below w.heap.size w wr ∧ Hid (∀ z ∈ zss.take k, isP z = true)) (fun _ _ i _ => n - (intOf i).toNat)
  case atStart => exact ⟨0, Nat.zero_le _, rfl, rfl, by simp [tot], Below.refl _ _, fun z hz => by simp at hz⟩
  case round =>
    obtain ⟨k, hk, rfl, rfl, h8, hbw, hP⟩ := hrel
    by_cases hlt : k < n
    · obtain ⟨ad, A1, c1, z, rfl, hz, hcell, hrd⟩ := (hS.below (hbw.mono hB)).at_ hlt
      obtain ⟨hzl, hzs⟩ := unhide HSM z (List.mem_of_getElem? hz)
      obtain ⟨b, hb⟩ : ∃ b, isP z = b := ⟨_, rfl⟩
      have H1 := hide (iisperm_any A1 z.length c1 B z b hb wr hrd (Nat.le_trans hB hbw.size) hzl hzs)
      have HZ := hide hz
      have hts := hide (tot_step hz)
      have htt := hide (tot_take zss (k + 1))
      cases b with
      | false =>
        have hno := hide (allFit_no1 (List.mem_of_getElem? hz) hb)
        clear hz hb hrd hP hzs
        go_wp2_with fail
        refine (unhide H1).mono ?_
        rintro e w2 ⟨rfl, hb⟩
        have hb2 := below_after hbw hb
        clear H1 hb hbw
        go_wp2
        go_ret2
        rw [joinsR_no (unhide hno), unhide hno]
        exact GivesIB.mk false (v := .slice none 0 0) (Ints.nil _ _) hb2
      | true =>
        by_cases hle : tot (zss.take k) + z.length ≤ 8
        · have hnext : Hid (∀ z ∈ zss.take (k + 1), isP z = true) := hide (fun y hy => by
            rw [take_snoc_r hz] at hy
            rcases List.mem_append.1 hy with h | h
            · exact unhide hP y h
            · rw [List.mem_singleton] at h
              subst h
              exact hb)
          have hle2 : tot (zss.take (k + 1)) ≤ 8 := by rw [unhide hts]; exact hle
          have hcast : (tot (zss.take k) : Int) + (z.length : Int) = (tot (zss.take (k + 1)) : Int) := by rw [unhide hts]; omega
          have hgt : decide ((8 : Int) < (tot (zss.take (k + 1)) : Int)) = false := by simp; omega
          have hgt' : ¬ 8 < tot (zss.take (k + 1)) := by omega
          clear hz hb hrd hP hzs
          go_wp2_with fail
          refine (unhide H1).mono ?_
          rintro e w2 ⟨rfl, hb⟩
          have hb2 := below_after hbw hb
          clear H1 hb hbw
          go_wp2
          go_roundw
          case rel => exact ⟨k + 1, by omega, by go_num, rfl, hle2, hb2, hnext⟩
          case measure => simp [intOf]; omega
        · have hno := hide (allFit_no2 (l := zss) (by have := unhide htt; rw [unhide hts] at this; omega))
          have hgt : decide ((8 : Int) < (tot (zss.take k) : Int) + (z.length : Int)) = true := by simp; omega
          have hgt' : 8 < tot (zss.take k) + z.length := by omega
          clear hz hb hrd hP hzs
          go_wp2_with fail
          refine (unhide H1).mono ?_
          rintro e w2 ⟨rfl, hb⟩
          have hb2 := below_after hbw hb
          clear H1 hb hbw
          go_wp2
          go_ret2
          rw [joinsR_no (unhide hno), unhide hno]
          exact GivesIB.mk false (v := .slice none 0 0) (Ints.nil _ _) hb2
    · obtain rfl : n = k := by omega
      rw [List.take_of_length_le (by rw [unhide HL]; exact Nat.le_refl _)] at h8 hP ⊢
      have hyes := hide (allFit_yes (unhide hP) h8)
      have HP := hide (fun z (hz : z ∈ zss) k x hx => isP_range (unhide hP z hz) (k := k) (z := x) hx)
      clear hP
      have hs0 := hbw.size
      go_wp2_with (first
        | (at_make; refine wpList_make_own _ rfl (.const (.int .i64 0)) (.tmp 33) 22 rfl w.heap.size 3 i0 (.int .i64 0) 1 Try.underlying22 hi hz0 hz1 _ _ _ (tot zss) rfl rfl (by first | rfl | omega) (by rw [hz2]; omega) (by unfold maxLen; omega) (by omega) ?_; intro w1 hown hg))
      have hb1 := hbw.grown hg hs0 (by simp)
      clear hg hbw hs0
      go_loopw [9, 11, 12, 14, 37] (fun v _ _ _ i wr => ∃ k : Nat, k ≤ n ∧ i = .int .i64 k ∧ Below w.heap.size w wr ∧ wr.ownsRow w.heap.size 3 1 v (tot (zss.take k)) (i64s (flatAll true (tot zss) (zss.take k) 0))) (fun _ _ _ _ i _ => n - (intOf i).toNat)
      case atStart => exact ⟨0, Nat.zero_le _, rfl, hb1, hown⟩
      case round =>
        obtain ⟨k, hk, rfl, hbw, hown'⟩ := hrel
        clear hown hb1
        by_cases hlt : k < n
        · obtain ⟨ad, A1, c1, z, rfl, hz, hcell, hrd⟩ := hS.at2 (hbw.mono hB) hlt
          have HZ := hide (unhide HP z (List.mem_of_getElem? hz))
          have hstep := hide (flat_part (s := true) (L := tot zss) hz)
          have hts := tot_step hz
          have htt := tot_take zss (k + 1)
          have hFl := flatAll_length true (tot zss) (zss.take k) 0
          obtain ⟨T, hT⟩ : ∃ T, tot (zss.take k) = T := ⟨_, rfl⟩
          rw [hT] at hown' hts hstep hFl
          obtain ⟨r, hr⟩ : ∃ r : Nat, r = tot zss - T - z.length := ⟨_, rfl⟩
          have hr8 : r ≤ 8 := by omega
          have q1 : IntKind.i64.wrap ((tot zss : Int) - (T : Int)) = (tot zss : Int) - (T : Int) := by rw [IntKind.wrap_i64]; omega
          have q2 : IntKind.i64.wrap ((tot zss : Int) - (T : Int) - (z.length : Int)) = (r : Int) := by rw [IntKind.wrap_i64]; omega
          have q3 : (tot zss : Int) - (T : Int) - (z.length : Int) = (r : Int) := by omega
          obtain ⟨fl, hfl⟩ : ∃ fl, fl = flatAll true (tot zss) (zss.take k) 0 := ⟨_, rfl⟩
          rw [← hfl] at hown' hFl
          obtain ⟨A9, c9, rfl, _⟩ := Reads.of_own hown'
          have hst : wr.ownsRow w.heap.size 3 1 (.slice A9 T c9) (T + 0) (i64s (fl ++ (z.take 0).map (fun v => v + (r : Int)))) := by
            rw [List.take_zero, List.map_nil, List.append_nil, Nat.add_zero]
            exact hown'
          have HTS := hide hts
          have hTL : T + z.length ≤ 8 := by omega
          have HST := hide (show i64s (flatAll true (tot zss) (zss.take (k + 1)) 0) = i64s (fl ++ z.map (fun v => v + (r : Int))) by
            rw [unhide hstep, ← hfl]
            simp only [if_true]
            rw [← hr])
          clear hstep hts htt hT hfl hown' hz hFl
          clear hr
          obtain ⟨wo, rfl⟩ : ∃ wo : World, wo = wr := ⟨_, rfl⟩
          have hbo := hbw
          go_wp2
          go_loopw [9, 14, 53] (fun v _ i wr => ∃ j : Nat, j ≤ z.length ∧ i = .int .i64 j ∧ Below w.heap.size w wr ∧ wr.ownsRow w.heap.size 3 1 v (T + j) (i64s (fl ++ (z.take j).map (fun v => v + (r : Int))))) (fun _ _ i _ => z.length - (intOf i).toNat)
          case atStart => exact ⟨0, Nat.zero_le _, rfl, hbo, hst⟩
          case round =>
            obtain ⟨j, hj, rfl, hbw2, hown⟩ := hrel
            clear hst hbo
            by_cases hlj : j < z.length
            · obtain ⟨ad1, u, rfl, had, hu, hc⟩ := (hrd.below (hbw2.mono hB)).at_ hlj
              obtain ⟨x, hx, rfl⟩ := i64_at hu
              obtain ⟨hx1, hx2⟩ := unhide HZ j x hx
              have hnext := hide (map_take_step (r := (r : Int)) hx)
              have hs2 := hbw2.size
              clear hu hx hrd hbw hcell
              go_wp2_with (first
                | (at_builtin; refine wpList_append_one rfl (.tmp 57) (.tmp 61) 22 rfl w.heap.size 3 i0 (.int .i64 0) 8 Try.underlying22 hi hz0 hz1 hz2 rfl w wr _ _ _ rfl hown (.int .i64 (x + (r : Int))) rfl rfl rfl (by omega) (by unfold maxLen; omega) hbw2 hs2 ?_; intro v2 w2 hown2 hb2 _))
              have e2 : i64s (fl ++ (z.take j).map (fun v => v + (r : Int))) ++ [Value.int .i64 (x + (r : Int))] = i64s (fl ++ (z.take (j + 1)).map (fun v => v + (r : Int))) := by rw [unhide hnext, ← List.append_assoc, i64s_app (fl ++ _)]; rfl
              rw [e2] at hown2
              clear e2 hown hbw2 hnext
              go_roundw
              case rel => exact ⟨j + 1, by omega, by go_num, hb2, hown2⟩
              case measure => simp [intOf]; omega
            · obtain rfl : z.length = j := by omega
              have hown3 : wr.ownsRow w.heap.size 3 1 u9 (tot (zss.take (k + 1))) (i64s (flatAll true (tot zss) (zss.take (k + 1)) 0)) := by
                rw [unhide HST, unhide HTS]
                have h := hown
                rwa [List.take_length] at h
              clear hown hrd hbw hcell
              go_wp2
              go_roundw
              case rel => exact ⟨k + 1, by omega, by go_num, hbw2, hown3⟩
              case measure => simp [intOf]; omega
        · obtain rfl : n = k := by omega
          have hI : Ints wr w.heap.size u9 (joinsR true zss) := by
            have h := hown'
            rw [List.take_of_length_le (by rw [unhide HL]; exact Nat.le_refl _), flat_join, ← joinAll_length true zss] at h
            rw [joinsR_yes (unhide hyes)]
            exact Ints.of_own h
          clear hown'
          go_wp2
          go_ret2
          rw [unhide hyes]
          exact GivesIB.mk true hI hbw
end Go.Proofs.Ytjfdjjigamlhfaa
