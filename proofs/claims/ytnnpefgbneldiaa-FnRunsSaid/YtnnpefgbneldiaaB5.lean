/-
  Words and contracts that the laws lean on, bundled: Cho, CntA, Memo.
-/
import Derived.Test.YtnnpefgbneldiaaB4
import Derived.Test.YtnnpefgbneldiaaB2
import Derived.IntWalk
import Derived.Maps.OwnSet
import Derived.Maps.Views
import Derived.Deep.RegionHeld3

/-
  impl.Choose and spec.Choose, by their contracts.
-/

namespace Go.Proofs.Ytnnpefgbneldiaa
set_option maxRecDepth 100000
open Go.RowKit

theorem cho_quo {P j : Nat} (h : P ≤ 5513861152800) : wrap64 ((wrap64 (P : Int)).tdiv ((j : Int) + 1)) = ((P / (j + 1) : Nat) : Int) := by
  have h2 := Nat.div_le_self P (j + 1)
  have h3 : ((P : Int)) / ((j : Int) + 1) = ((P / (j + 1) : Nat) : Int) := by rw [show (j : Int) + 1 = ((j + 1 : Nat) : Int) by omega, Int.natCast_ediv]
  rw [IntWalk.wrap64_in (P : Int) (by omega), Int.tdiv_eq_ediv_of_nonneg (by omega), h3]
  obtain ⟨z, hz⟩ : ∃ z, z = P / (j + 1) := ⟨_, rfl⟩
  rw [← hz] at h2 ⊢
  rw [IntWalk.wrap64_in (z : Int) (by omega)]
theorem cho_le {c n j : Nat} (hn : n ≤ 40) (hc : c ≤ 137846528820) : c * (n - j) ≤ 5513861152800 := Nat.mul_le_mul hc (by omega : n - j ≤ 40)
theorem cho_num {c n j : Nat} (hn : n ≤ 40) (hj : j < n) (hc : c ≤ 137846528820) : wrap64 ((wrap64 ((c : Int) * ((n : Int) - ((j : Int) + 1) + 1))).tdiv ((j : Int) + 1)) = ((c * (n - j) / (j + 1) : Nat) : Int) := by
  have h1 : (c : Int) * ((n : Int) - ((j : Int) + 1) + 1) = ((c * (n - j) : Nat) : Int) := by rw [show (n : Int) - ((j : Int) + 1) + 1 = ((n - j : Nat) : Int) by omega, Int.natCast_mul]
  rw [h1, cho_quo (cho_le hn hc)]
theorem cho_num2 {c n j : Nat} (hn : n ≤ 40) (hj : j < n) (hc : c ≤ 137846528820) : wrap64 ((wrap64 ((c : Int) * ((n : Int) - (j : Int)))).tdiv ((j : Int) + 1)) = ((c * (n - j) / (j + 1) : Nat) : Int) := by
  have h1 : (c : Int) * ((n : Int) - (j : Int)) = ((c * (n - j) : Nat) : Int) := by rw [show (n : Int) - (j : Int) = ((n - j : Nat) : Int) by omega, Int.natCast_mul]
  rw [h1, cho_quo (cho_le hn hc)]
set_option maxHeartbeats 800000 in
theorem icho_any (n k : Int) (hn : -9223372036854775808 ≤ n ∧ n ≤ 9223372036854775807) (hk : -9223372036854775808 ≤ k ∧ k ≤ 9223372036854775807) (w : World) :
    Calls Try.prog 30 #[.int .i64 n, .int .i64 k] w fun e w' => e = .returned (.int .i64 (choZ n k)) ∧ w' = w := by
  obtain ⟨hn1, hn2⟩ := hn
  obtain ⟨hk1, hk2⟩ := hk
  by_cases h1 : n < 0
  · rw [choZ_no (by omega)]
    go_enter Try.func30, Try.ntmps30
    go_wp2
    go_ret
    exact ⟨rfl, rfl⟩
  by_cases h2 : 40 < n
  · rw [choZ_no (by omega)]
    go_enter Try.func30, Try.ntmps30
    go_wp2
    go_ret
    exact ⟨rfl, rfl⟩
  by_cases h3 : k < 0
  · rw [choZ_no (by omega)]
    go_enter Try.func30, Try.ntmps30
    go_wp2
    go_ret
    exact ⟨rfl, rfl⟩
  by_cases h4 : n < k
  · rw [choZ_no (by omega)]
    go_enter Try.func30, Try.ntmps30
    go_wp2
    go_ret
    exact ⟨rfl, rfl⟩
  obtain ⟨n, rfl⟩ : ∃ m : Nat, n = m := ⟨n.toNat, by omega⟩
  obtain ⟨k, rfl⟩ : ∃ m : Nat, k = m := ⟨k.toNat, by omega⟩
  have hn40 : n ≤ 40 := by omega
  have hkn : k ≤ n := by omega
  rw [choZ_yes hn40 hkn]
  go_enter Try.func30, Try.ntmps30
  go_wp2
  go_loop [5, 6] (fun u i => ∃ j : Nat, j ≤ k ∧ i = .int .i64 ((j : Int) + 1) ∧ u = .int .i64 (choN n j : Int)) (fun _ i => k + 1 - (intOf i).toNat)
  case atStart => exact ⟨0, Nat.zero_le _, rfl, rfl⟩
  case round =>
    obtain ⟨j, hj, rfl, rfl⟩ := hrel
    have hle := choN_small n hn40 j (by omega)
    have hst := hide (show choN n (j + 1) = choN n j * (n - j) / (j + 1) from rfl)
    obtain ⟨c, hc⟩ : ∃ c, c = choN n j := ⟨_, rfl⟩
    rw [← hc] at hle hst ⊢
    have HC := hide hc
    clear hc
    by_cases hlt : j < k
    · have hnum := cho_num (c := c) hn40 (show j < n by omega) hle
      rw [← unhide hst] at hnum
      have HN := hide hnum
      clear hnum hst
      go_wp2
      go_round
      case rel => exact ⟨j + 1, by omega, by go_num, by rw [unhide HN]⟩
      case measure => simp [intOf]; omega
    · obtain rfl : k = j := by omega
      rw [unhide HC]
      clear HC
      go_wp2
      go_ret
      exact ⟨rfl, rfl⟩
set_option maxHeartbeats 800000 in
theorem scho_any (n k : Int) (hn : -9223372036854775808 ≤ n ∧ n ≤ 9223372036854775807) (hk : -9223372036854775808 ≤ k ∧ k ≤ 9223372036854775807) (w : World) :
    Calls Try.prog 31 #[.int .i64 n, .int .i64 k] w fun e w' => e = .returned (.int .i64 (choZ n k)) ∧ w' = w := by
  obtain ⟨hn1, hn2⟩ := hn
  obtain ⟨hk1, hk2⟩ := hk
  by_cases h1 : 0 ≤ n ∧ n ≤ 40
  · have H1 := hide (l1in_any n 0 40 true (decide_eq_true h1) w)
    by_cases h2 : 0 ≤ k ∧ k ≤ n
    · have H2 := hide (l1in_any k 0 n true (decide_eq_true h2) w)
      obtain ⟨n, rfl⟩ : ∃ m : Nat, n = m := ⟨n.toNat, by omega⟩
      obtain ⟨k, rfl⟩ : ∃ m : Nat, k = m := ⟨k.toNat, by omega⟩
      have hn40 : n ≤ 40 := by omega
      have hkn : k ≤ n := by omega
      rw [choZ_yes hn40 hkn]
      clear h1 h2
      go_enter Try.func31, Try.ntmps31
      go_wp2_with fail
      refine (unhide H1).mono ?_
      rintro e w1 ⟨rfl, rfl⟩
      clear H1
      go_wp2_with fail
      refine (unhide H2).mono ?_
      rintro e w2 ⟨rfl, rfl⟩
      clear H2
      go_wp2
      go_loop [5, 6] (fun u i => ∃ j : Nat, j ≤ k ∧ i = .int .i64 (j : Int) ∧ u = .int .i64 (choN n j : Int)) (fun _ i => k - (intOf i).toNat)
      case atStart => exact ⟨0, Nat.zero_le _, rfl, rfl⟩
      case round =>
        obtain ⟨j, hj, rfl, rfl⟩ := hrel
        have hle := choN_small n hn40 j (by omega)
        have hst := hide (show choN n (j + 1) = choN n j * (n - j) / (j + 1) from rfl)
        obtain ⟨c, hc⟩ : ∃ c, c = choN n j := ⟨_, rfl⟩
        rw [← hc] at hle hst ⊢
        have HC := hide hc
        clear hc
        by_cases hlt : j < k
        · have hnum := cho_num2 (c := c) hn40 (show j < n by omega) hle
          rw [← unhide hst] at hnum
          have HN := hide hnum
          clear hnum hst
          go_wp2
          go_round
          case rel => exact ⟨j + 1, by omega, by go_num, by rw [unhide HN]⟩
          case measure => simp [intOf]; omega
        · obtain rfl : k = j := by omega
          rw [unhide HC]
          clear HC
          go_wp2
          go_ret
          exact ⟨rfl, rfl⟩
    · have H2 := hide (l1in_any k 0 n false (decide_eq_false h2) w)
      rw [choZ_no (by omega)]
      clear h1 h2
      go_enter Try.func31, Try.ntmps31
      go_wp2_with fail
      refine (unhide H1).mono ?_
      rintro e w1 ⟨rfl, rfl⟩
      clear H1
      go_wp2_with fail
      refine (unhide H2).mono ?_
      rintro e w2 ⟨rfl, rfl⟩
      clear H2
      go_wp2
      go_ret
      exact ⟨rfl, rfl⟩
  · have H1 := hide (l1in_any n 0 40 false (decide_eq_false h1) w)
    rw [choZ_no (by omega)]
    clear h1
    go_enter Try.func31, Try.ntmps31
    go_wp2_with fail
    refine (unhide H1).mono ?_
    rintro e w1 ⟨rfl, rfl⟩
    clear H1
    go_wp2
    go_ret
    exact ⟨rfl, rfl⟩
end Go.Proofs.Ytnnpefgbneldiaa


/-
  spec.CountAlternating, by its contract.
-/

namespace Go.Proofs.Ytnnpefgbneldiaa
set_option maxRecDepth 100000
open Go.RowKit

def altRow (k : Nat) : List Int := (List.range k).map fun (i : Nat) => ((altN i : Nat) : Int)
theorem altRow_length (k : Nat) : (altRow k).length = k := by simp [altRow]
theorem altRow_at {k i : Nat} (h : i < k) : (altRow k)[i]? = some ((altN i : Nat) : Int) := by unfold altRow; rw [List.getElem?_map, List.getElem?_range h]; rfl
theorem altRow_step (k : Nat) : i64s (altRow k) ++ [.int .i64 ((altN k : Nat) : Int)] = i64s (altRow (k + 1)) := by
  unfold altRow i64s
  rw [List.range_succ, List.map_append, List.map_append]
  rfl
theorem alt_num {C X Y s t : Nat} (h2 : C * X * Y ≤ 10000000) (h3 : s ≤ 10000000) (ht : t = s + C * X * Y) : wrap64 ((s : Int) + wrap64 ((C : Int) * (X : Int) * (Y : Int))) = (t : Int) := by
  have e2 : (C : Int) * (X : Int) * (Y : Int) = ((C * X * Y : Nat) : Int) := by rw [Int.natCast_mul (C * X) Y, Int.natCast_mul]
  rw [e2]
  obtain ⟨P, hP⟩ : ∃ P, P = C * X * Y := ⟨_, rfl⟩
  rw [← hP] at h2 ht ⊢
  rw [IntWalk.wrap64_in (P : Int) (by omega), IntWalk.wrap64_in _ (by omega)]
  omega
theorem own_pair (w : World) (x y : Int) : (w.alloc (.cells #[.int .i64 x, .int .i64 y] 3)).ownsRow w.heap.size 3 1 (.slice (some ⟨w.heap.size, 0, none⟩) 2 2) 2 [.int .i64 x, .int .i64 y] :=
  ⟨rfl, .inr ⟨w.heap.size, 2, #[.int .i64 x, .int .i64 y], rfl, Nat.le_refl _, heap_alloc_new w _, Nat.le_refl _, by unfold maxLen; omega, rfl, rfl⟩⟩
set_option maxHeartbeats 1600000 in
theorem scnta_any (n : Int) (hn : -9223372036854775808 ≤ n ∧ n ≤ 9223372036854775807) (w : World) :
    Calls Try.prog 29 #[.int .i64 n] w (GivesN w (altZ n)) := by
  obtain ⟨i0, hi, hz0, hz1, hz2⟩ := info_parts intInfo
  obtain ⟨hn1, hn2⟩ := hn
  by_cases hin : 0 ≤ n ∧ n ≤ 12
  rotate_left
  · have H1 := hide (l1in_any n 0 12 false (decide_eq_false hin) w)
    have hb0 := Below.refl w.heap.size w
    rw [altZ_no hin]
    clear hin
    go_enter Try.func29, Try.ntmps29
    go_wp2_with fail
    refine (unhide H1).mono ?_
    rintro e w1 ⟨rfl, rfl⟩
    clear H1
    go_wp2
    go_ret
    exact ⟨rfl, hb0⟩
  · have H1 := hide (l1in_any n 0 12 true (decide_eq_true hin) w)
    obtain ⟨n, rfl⟩ : ∃ k : Nat, n = k := ⟨n.toNat, by omega⟩
    have hn12 : n ≤ 12 := by omega
    rw [altZ_yes hn12]
    have hb0 := (Below.refl w.heap.size w).alloc (Nat.le_refl _) (.cells #[.int .i64 1, .int .i64 1] 3)
    have hst : (w.alloc (.cells #[.int .i64 1, .int .i64 1] 3)).ownsRow w.heap.size 3 1 (.slice (some ⟨w.heap.size, 0, none⟩) 2 2) 2 (i64s (altRow 2)) :=
      own_pair w 1 1
    clear hin
    go_enter Try.func29, Try.ntmps29
    go_wp2_with fail
    refine (unhide H1).mono ?_
    rintro e w1 ⟨rfl, rfl⟩
    clear H1
    go_wp2
    go_loopw [3, 4, 5, 6] (fun a i _ _ wr => ∃ m g c : Nat, 1 ≤ m ∧ (m = 1 ∨ m ≤ n) ∧ i = .int .i64 m ∧ a = .slice (some ⟨g, 0, none⟩) (m + 1) c ∧ Below w1.heap.size w1 wr ∧ wr.ownsRow w1.heap.size 3 1 (.slice (some ⟨g, 0, none⟩) (m + 1) c) (m + 1) (i64s (altRow (m + 1)))) (fun _ i _ _ _ => n + 1 - (intOf i).toNat)
    case atStart => exact ⟨1, w1.heap.size, 2, Nat.le_refl _, .inl rfl, rfl, rfl, hb0, hst⟩
    case round =>
      obtain ⟨m, g, c, hm1, hm, rfl, rfl, hb, hown⟩ := hrel
      clear hst hb0
      by_cases hlt : m + 1 ≤ n
      · have hcell := fun (i : Nat) (hi : i < m + 1) => (hown.cellAt i (by omega)).trans (i64_get (altRow_at hi))
        have HC := hide hcell
        have HO := hide hown
        have hm11 : m ≤ 11 := by omega
        have hlt' : (m : Int) + 1 ≤ (n : Int) := by omega
        obtain ⟨wo, rfl⟩ : ∃ wo : World, wo = wr := ⟨_, rfl⟩
        clear hcell hown
        go_wp2
        go_loopw [5, 6] (fun s i wi => ∃ k : Nat, k ≤ m + 1 ∧ i = .int .i64 k ∧ s = .int .i64 (altS m k : Nat) ∧ Drew wo wi) (fun _ i _ => m + 1 - (intOf i).toNat)
        case atStart => exact ⟨0, Nat.zero_le _, rfl, rfl, Drew.refl _⟩
        case round =>
          obtain ⟨k, hk, rfl, rfl, hd⟩ := hrel
          by_cases hlt2 : k < m + 1
          · have hkm : (k : Int) ≤ (m : Int) := by omega
            have c1 := (hd.cell _).trans (unhide HC k (by omega))
            have c2 := (hd.cell _).trans (unhide HC (m - k) (by omega))
            obtain ⟨j, hj⟩ : ∃ j, j = m - k := ⟨_, rfl⟩
            have hji : IntKind.i64.wrap ((m : Int) - (k : Int)) = (j : Int) := by rw [IntKind.wrap_i64]; omega
            have hj0 : (0 : Int) ≤ (j : Int) := by omega
            have hj1 : (j : Int) < (m : Int) + 1 := by omega
            have hk1 : (k : Int) < (m : Int) + 1 := by omega
            have hs0 := altS_small m hm11 k hk
            obtain ⟨p1, p2, p3, p4, p5⟩ := altP_small m hm11 k (by omega)
            have hnum := alt_num p5 hs0 (show altS m (k + 1) = _ from rfl)
            have H4 := hide (fun w' => by have h5 := scho_any (m : Int) (k : Int) (by omega) (by omega) w'; rw [choZ_yes (by omega) (by omega)] at h5; exact h5 : ∀ w', Calls Try.prog 31 #[.int .i64 (m : Int), .int .i64 (k : Int)] w' _)
            rw [← hj] at c2 hnum p3 p5
            obtain ⟨C, hC⟩ : ∃ C, C = choN m k := ⟨_, rfl⟩
            rw [← hC] at H4 hnum p1 p4 p5
            have HN := hide hnum
            have HD := hide hd
            clear hnum hd hC hj
            go_wp2
            go_quiet ((go_at_call 31; exact Calls.quiet_of_same (unhide H4 _)))
            go_wp2
            rw [unhide HN]
            go_roundw
            case rel => exact ⟨k + 1, by omega, by go_num, rfl, (unhide HD).more _⟩
            case measure => simp [intOf]; omega
          · obtain rfl : k = m + 1 := by omega
            have hgt : ¬ (((m + 1 : Nat) : Int) ≤ (m : Int)) := by omega
            have hhalf := altS_half m hm11 hm1
            have hsm := altS_small m hm11 (m + 1) (Nat.le_refl _)
            obtain ⟨s, hs⟩ : ∃ s, s = altS m (m + 1) := ⟨_, rfl⟩
            rw [← hs] at hhalf hsm ⊢
            have hq : ((s : Int)).tdiv 2 = ((altN (m + 1) : Nat) : Int) := by rw [Int.tdiv_eq_ediv_of_nonneg (by omega), ← hhalf]; omega
            have hbw := hb.trans (hd.below _)
            have hown := own_below (unhide HO) (hd.below _)
            have HE := hide (altRow_step (m + 1))
            have hsn := altN_small (m + 1) (by omega)
            clear hs hhalf hd HO HC hb
            go_wp2_with (first
              | (at_builtin; refine wpList_append_one rfl (.tmp 39) (.tmp 42) 24 rfl w1.heap.size 3 i0 (.int .i64 0) 8 Try.underlying24 hi hz0 hz1 hz2 rfl w1 wr _ _ _ rfl hown (.int .i64 ((altN (m + 1) : Nat) : Int)) rfl rfl rfl (by omega) (by simp only [maxLen]; omega) hbw hbw.size ?_; intro v4 w4 hown4 hb4 hg4; clear hg4))
            rw [unhide HE] at hown4
            obtain ⟨g4, c4, rfl⟩ := own_head hown4 (by omega)
            clear hown hbw HE
            go_roundw
            case rel => exact ⟨m + 1, g4, c4, by omega, .inr hlt, by go_num, rfl, hb4, hown4⟩
            case measure => simp [intOf]; omega
      · have hc := (hown.cellAt n (by omega)).trans (i64_get (altRow_at (by omega)))
        have hge : ¬ ((m : Int) + 1 ≤ (n : Int)) := by omega
        have hnm : (n : Int) < (m : Int) + 1 := by omega
        clear hown
        go_wp2
        go_ret
        exact ⟨rfl, hb⟩
end Go.Proofs.Ytnnpefgbneldiaa


/-
  impl.CountAlternating by its contract: a closure that calls itself and remembers what it has found in a map.
-/

namespace Go.Proofs.Ytnnpefgbneldiaa
set_option maxRecDepth 100000
open Go.RowKit Go.Maps

theorem intLaw : Keyed Try.prog 3 := int_keyed Try.underlying3
theorem intZero (w : World) : (zeroValue 3).run Try.prog w = .ok (.int .i64 0) w := by kernel_rfl
theorem wf_of {x : Int} (h : -9223372036854775808 ≤ x ∧ x ≤ 9223372036854775807) : (Lit.int .i64 x).wf = true := by simp [Lit.wf, IntKind.min, IntKind.max, IntKind.signed, IntKind.bits]; omega
theorem intKey {x : Int} (h : -9223372036854775808 ≤ x ∧ x ≤ 9223372036854775807) : keyOf Try.prog 3 (.int .i64 x) = some (.int .i64 x) := keyOf_int_mk Try.underlying3 (wf_of h)
/-- Block b is a map that knows just the first m numbers. -/
def Known (w : World) (b m : Nat) : Prop :=
  ∃ D : DataW Unit, w.ownsMap Try.prog 3 (plainElem Try.prog 3) b m D ∧
    ∀ x : Int, -9223372036854775808 ≤ x ∧ x ≤ 9223372036854775807 → Maps.has D (.int .i64 x) = decide (0 ≤ x ∧ x < (m : Int)) ∧ (0 ≤ x ∧ x < (m : Int) → D.atKey (.int .i64 x) (.lit (.int .i64 0)) = .lit (.int .i64 ((altN x.toNat : Nat) : Int)))
section
variable {w w' : World} {b m : Nat}
theorem Known.lt (h : Known w b m) : b < w.heap.size := by
  obtain ⟨D, h, _⟩ := h
  exact h.lt
theorem Known.kept {row : Option Nat} (h : Known w b m) (hg : w.grownBy w' row) (hne : some b ≠ row) : Known w' b m := by
  obtain ⟨D, h1, h2⟩ := h
  exact ⟨D, h1.kept hg hne, h2⟩
theorem Known.drew (h : Known w b m) : Known w.drew b m := h
theorem Known.alloc (h : Known w b m) (o : Obj) : Known (w.alloc o) b m := h.kept (World.grownBy_alloc w o none) (by simp)
theorem Known.new (w : World) : Known (w.alloc (.map #[] 0)) w.heap.size 0 :=
  ⟨.map [], World.ownsMap_made w _ _ _, fun x _ => ⟨by rw [decide_eq_false (by omega)]; rfl, fun h => by omega⟩⟩
theorem Known.look (h : Known w b m) {n : Nat} (hn : n < m) (h12 : n ≤ 12) : (Instr.lookup 95 (.map (some b)) (.int .i64 (n : Int)) true).run Try.prog w = .ok (.tuple #[.int .i64 ((altN n : Nat) : Int), .bool true]) w := by
  obtain ⟨D, h1, h2⟩ := h
  have h3 := h2 (n : Int) (by omega)
  obtain ⟨v, ps, hrun, hv⟩ := h1.look_ok intLaw Try.underlying95 (intZero w) (plainElem_int Try.underlying3 (a := 0) (by decide)) (intKey (x := (n : Int)) (by omega))
  rw [h3.2 (by omega)] at hv
  rw [h3.1, decide_eq_true (by omega)] at hrun
  obtain ⟨a, rfl, ha, _⟩ := plainElem_int_inv Try.underlying3 hv
  have h4 := congrArg Prod.fst ha
  simp only [DataW.lit.injEq, Lit.int.injEq, true_and] at h4
  rw [hrun, ← h4, Int.toNat_natCast]
theorem Known.look_no (h : Known w b m) {n : Nat} (hn : m ≤ n) (h12 : n ≤ 12) : ∃ c : Int, (Instr.lookup 95 (.map (some b)) (.int .i64 (n : Int)) true).run Try.prog w = .ok (.tuple #[.int .i64 c, .bool false]) w := by
  obtain ⟨D, h1, h2⟩ := h
  have h3 := h2 (n : Int) (by omega)
  obtain ⟨v, ps, hrun, hv⟩ := h1.look_ok intLaw Try.underlying95 (intZero w) (plainElem_int Try.underlying3 (a := 0) (by decide)) (intKey (x := (n : Int)) (by omega))
  rw [h3.1, decide_eq_false (by omega)] at hrun
  obtain ⟨a, rfl, ha, _⟩ := plainElem_int_inv Try.underlying3 hv
  exact ⟨a, hrun⟩
theorem Known.read (h : Known w b m) {n : Nat} (hn : n < m) (h12 : n ≤ 12) : (Instr.lookup 95 (.map (some b)) (.int .i64 (n : Int)) false).run Try.prog w = .ok (.int .i64 ((altN n : Nat) : Int)) w := by
  obtain ⟨D, h1, h2⟩ := h
  have h3 := h2 (n : Int) (by omega)
  obtain ⟨c, hrun, hat, _⟩ := h1.lookup_int intLaw Try.underlying95 Try.underlying3 (intZero w) (intKey (x := (n : Int)) (by omega))
  rw [h3.2 (by omega)] at hat
  simp only [DataW.lit.injEq, Lit.int.injEq, true_and] at hat
  rw [hrun, ← hat, Int.toNat_natCast]
theorem Known.store (h : Known w b m) (h12 : m ≤ 12) : ∃ w', (Instr.mapUpdate 95 (.map (some b)) (.int .i64 (m : Int)) (.int .i64 ((altN m : Nat) : Int))).run Try.prog w = .ok () w' ∧ Known w' b (m + 1) ∧ w.grownBy w' (some b) := by
  obtain ⟨D, h1, h2⟩ := h
  have hsm := altN_small m h12
  obtain ⟨w', hrun, ho, hg⟩ := h1.update intLaw Try.underlying95 (by unfold maxLen; omega) (intKey (x := (m : Int)) (by omega)) (plainElem_int Try.underlying3 (a := ((altN m : Nat) : Int)) (wf_of (by omega)))
  refine ⟨w', hrun, ⟨_, ho, fun x hx => ?_⟩, hg⟩
  have hkey := intLaw.key (intKey (x := (m : Int)) (by omega))
  by_cases e : x = (m : Int)
  · subst e
    refine ⟨?_, fun _ => ?_⟩
    · rw [has_put_same h1.isMap hkey, decide_eq_true (by omega)]
    · rw [atKey_put_same h1.isMap hkey, Int.toNat_natCast]
  · have hne : (Lit.int .i64 x) ≠ (Lit.int .i64 (m : Int)) := fun h => e (by injection h)
    refine ⟨?_, fun h => ?_⟩
    · rw [has_put_other hne, (h2 x hx).1, decide_eq_decide]
      omega
    · rw [atKey_put_other hne, (h2 x hx).2 (by omega)]
end
theorem alt_num2 {C X Y s t : Nat} (h1 : C * X ≤ 10000000) (h2 : C * X * Y ≤ 10000000) (h3 : s ≤ 10000000) (ht : t = s + C * X * Y) : IntKind.i64.wrap ((s : Int) + IntKind.i64.wrap (IntKind.i64.wrap ((C : Int) * (X : Int)) * (Y : Int))) = (t : Int) := by
  have e1 : (C : Int) * (X : Int) = ((C * X : Nat) : Int) := by rw [Int.natCast_mul]
  have e2 : ((C * X : Nat) : Int) * (Y : Int) = ((C * X * Y : Nat) : Int) := by rw [Int.natCast_mul (C * X) Y]
  rw [e1, IntWalk.i64_in ((C * X : Nat) : Int) (by omega), e2]
  obtain ⟨P, hP⟩ : ∃ P, P = C * X * Y := ⟨_, rfl⟩
  rw [← hP] at h2 ht ⊢
  rw [IntWalk.i64_in (P : Int) (by omega), IntWalk.i64_in _ (by omega)]
  omega
/-- The closure's own value. -/
def cntF (kb fb : Nat) : Value := .func (.func 98) #[] #[.pointer (some ⟨kb, 0, none⟩), .pointer (some ⟨fb, 0, none⟩)]
structure Memo (w : World) (kb fb mb m : Nat) : Prop where
  kn : w.cell? ⟨kb, 0, none⟩ = some (.map (some mb))
  fn : w.cell? ⟨fb, 0, none⟩ = some (cntF kb fb)
  mp : Known w mb m
  k1 : kb ≠ mb
  f1 : fb ≠ mb
theorem keep_fn {wr w : World} {fb mb : Nat} {v : Value} (h : wr.cell? ⟨fb, 0, none⟩ = some v) (hl : fb < wr.heap.size) (hne : fb ≠ mb) (hg : wr.grownBy w (some mb)) : w.cell? ⟨fb, 0, none⟩ = some v ∧ wr.grownBy w (some mb) :=
  ⟨(World.cell?_of_block (hg.block fb hl (fun e => hne (by injection e)))).trans h, hg⟩
theorem Memo.upd {w w' : World} {kb fb mb m m' : Nat} (h : Memo w kb fb mb m) (hg : w.grownBy w' (some mb)) (hm : Known w' mb m') : Memo w' kb fb mb m' := by
  have l1 := World.block_lt_of_cell? w _ h.kn
  have l2 := World.block_lt_of_cell? w _ h.fn
  exact ⟨(keep_fn h.kn l1 h.k1 hg).1, (keep_fn h.fn l2 h.f1 hg).1, hm, h.k1, h.f1⟩
def MemoEnds (w : World) (kb fb mb m n : Nat) (e : Ending) (w' : World) : Prop := e = .returned (.int .i64 ((altN n : Nat) : Int)) ∧ Memo w' kb fb mb (max m (n + 1)) ∧ w.grownBy w' (some mb)
set_option maxHeartbeats 600000 in
theorem memo_step (n : Nat) (hn : n ≤ 12) (IH : ∀ j, j < n → ∀ (kb fb mb m : Nat) (w : World), 2 ≤ m → Memo w kb fb mb m → Calls Try.prog 98 #[.int .i64 (j : Int), .pointer (some ⟨kb, 0, none⟩), .pointer (some ⟨fb, 0, none⟩)] w (MemoEnds w kb fb mb m j))
    (kb fb mb m : Nat) (w : World) (hm : 2 ≤ m) (h : Memo w kb fb mb m) :
    Calls Try.prog 98 #[.int .i64 (n : Int), .pointer (some ⟨kb, 0, none⟩), .pointer (some ⟨fb, 0, none⟩)] w (MemoEnds w kb fb mb m n) := by
  have q0 := h.kn
  by_cases hlt : n < m
  · have hrun := h.mp.look hlt hn
    have HM := hide (show MemoEnds w kb fb mb m n (.returned (.int .i64 ((altN n : Nat) : Int))) w from ⟨rfl, by rw [Nat.max_eq_left (by omega)]; exact h, World.grownBy.refl w _⟩)
    clear h IH
    go_enter Try.func98, Try.ntmps98
    go_wp2
    go_ret
    exact unhide HM
  · obtain ⟨c, hrun⟩ := h.mp.look_no (n := n) (by omega) hn
    obtain ⟨j, rfl⟩ : ∃ j, n = j + 1 := ⟨n - 1, by omega⟩
    have hj11 : j ≤ 11 := by omega
    have hj1 : 1 ≤ j := by omega
    have HH := hide h
    have HI := hide IH
    have hmj : m ≤ j + 1 := by omega
    rw [show ((j + 1 : Nat) : Int) = (j : Int) + 1 by omega] at hrun ⊢
    clear h IH hlt
    go_enter Try.func98, Try.ntmps98
    go_wp2
    clear hrun q0
    go_loopw [7, 8, 18] (fun s _ i wr => ∃ k M : Nat, k ≤ j + 1 ∧ i = .int .i64 (k : Int) ∧ s = .int .i64 ((altS j k : Nat) : Int) ∧ ((k = 0 ∧ M = m) ∨ (1 ≤ k ∧ M = j + 1)) ∧ Memo wr kb fb mb M ∧ w.grownBy wr (some mb)) (fun _ _ i _ => j + 1 - (intOf i).toNat)
    case atStart => exact ⟨0, m, Nat.zero_le _, rfl, rfl, .inl ⟨rfl, rfl⟩, unhide HH, World.grownBy.refl w _⟩
    case round =>
      obtain ⟨k, M, hk, rfl, rfl, hM, hmem, hg⟩ := hrel
      by_cases hlt : k < j + 1
      · have hlt' : (k : Int) < (j : Int) + 1 := by omega
        have q1 := hmem.fn
        have q2 := World.block_lt_of_cell? wr _ hmem.fn
        have q3 := hmem.f1
        have hM2 : 2 ≤ M := by omega
        obtain ⟨jk, hjk⟩ : ∃ jk, jk = j - k := ⟨_, rfl⟩
        have hji : IntKind.i64.wrap ((j : Int) - (k : Int)) = (jk : Int) := by rw [IntKind.wrap_i64]; omega
        have hwj : IntKind.i64.wrap (j : Int) = (j : Int) := by rw [IntKind.wrap_i64]; omega
        have hs0 := altS_small j hj11 k hk
        obtain ⟨p1, p2, p3, p4, p5⟩ := altP_small j hj11 k (by omega)
        have hnum := alt_num2 p4 p5 hs0 (show altS j (k + 1) = _ from rfl)
        have H4 := hide (fun w' => by have h5 := icho_any (j : Int) (k : Int) (by omega) (by omega) w'; rw [choZ_yes (by omega) (by omega)] at h5; exact h5 : ∀ w', Calls Try.prog 30 #[.int .i64 (j : Int), .int .i64 (k : Int)] w' _)
        have H5 := hide (fun (w' : World) (h' : Memo w' kb fb mb M) => unhide HI k (by omega) kb fb mb M w' hM2 h')
        have H6 := hide (fun (w' : World) (h' : Memo w' kb fb mb (max M (k + 1))) => unhide HI jk (by omega) kb fb mb _ w' (by omega) h')
        rw [← hjk] at hnum p3 p5
        have HMM := hide (show max (max M (k + 1)) (jk + 1) = j + 1 by omega)
        obtain ⟨M2, hM2e⟩ : ∃ M2, M2 = max M (k + 1) := ⟨_, rfl⟩
        rw [← hM2e] at H6 HMM
        have HM2 := hide hM2e
        obtain ⟨C, hC⟩ : ∃ C, C = choN j k := ⟨_, rfl⟩
        rw [← hC] at H4 hnum p1 p4 p5
        have HN := hide hnum
        have hg0 : wr.grownBy wr.drew (some mb) := ⟨rfl, rfl, rfl, Nat.le_refl _, fun _ _ _ => rfl⟩
        have hm0 : Memo wr.drew kb fb mb M := hmem.upd hg0 hmem.mp.drew
        have HG := hide hg
        unfold cntF at q1
        clear hnum hC hjk hmem hM hg hM2e
        go_wp2_with fail
        go_region_held3 (fun w' => w'.cell? ⟨fb, 0, none⟩ = some (.func (.func 98) #[] #[.pointer (some ⟨kb, 0, none⟩), .pointer (some ⟨fb, 0, none⟩)]) ∧ wr.grownBy w' (some mb)) ((refine keep_fn q1 q2 q3 ?_; assumption))
          (first
            | (go_simp; go_at_call 30; refine (unhide H4 _).mono ?_; rintro e v1 ⟨rfl, hv1⟩; subst hv1)
            | (have x0 := hm0; clear hm0; go_simp; go_at_call 98; refine (unhide H5 _ x0).mono ?_; rintro e v2 ⟨rfl, hm1, y1⟩; rw [← unhide HM2] at hm1; have hg1 := grown_then hg0 y1)
            | (have x1 := hm1; clear hm1; go_simp; go_at_call 98; refine (unhide H6 _ x1).mono ?_; rintro e v3 ⟨rfl, hm2, y2⟩; have hg2 := grown_then hg1 y2))
        have hgr := grown_then (unhide HG) hg2
        have hmr : Memo v3 kb fb mb (j + 1) := by rw [unhide HMM] at hm2; exact hm2
        clear x0 x1 hm2 y1 y2 hg0 hg1 hg2 HG HMM HM2 H4 H5 H6 hwj hji
        go_wp2
        rw [unhide HN]
        go_roundw
        case rel => exact ⟨k + 1, j + 1, by omega, by go_num, rfl, .inr ⟨by omega, rfl⟩, hmr, hgr⟩
        case measure => simp [intOf]; omega
      · obtain rfl : k = j + 1 := by omega
        obtain rfl : M = j + 1 := by omega
        have hge : ¬ (((j + 1 : Nat) : Int) < (j : Int) + 1) := by omega
        obtain ⟨w', hst, hk', hg'⟩ := hmem.mp.store (show j + 1 ≤ 12 by omega)
        have hm' := hmem.upd hg' hk'
        have hrd := hk'.read (n := j + 1) (by omega) (by omega)
        have c1 := hmem.kn
        have c2 := hm'.kn
        rw [show ((j + 1 : Nat) : Int) = (j : Int) + 1 by omega] at hst hrd hge ⊢
        have hhalf := altS_half j hj11 hj1
        have hsm := altS_small j hj11 (j + 1) (Nat.le_refl _)
        obtain ⟨s, hs⟩ : ∃ s, s = altS j (j + 1) := ⟨_, rfl⟩
        rw [← hs] at hhalf hsm ⊢
        have hq : ((s : Int)).tdiv 2 = ((altN (j + 1) : Nat) : Int) := by rw [Int.tdiv_eq_ediv_of_nonneg (by omega), ← hhalf]; omega
        have hsn := altN_small (j + 1) (by omega)
        have hw1 : IntKind.i64.wrap (((altN (j + 1) : Nat) : Int)) = ((altN (j + 1) : Nat) : Int) := by rw [IntKind.wrap_i64]; omega
        have HE := hide (show MemoEnds w kb fb mb m (j + 1) (.returned (.int .i64 ((altN (j + 1) : Nat) : Int))) w' from ⟨rfl, by rw [show max m (j + 1 + 1) = j + 1 + 1 by omega]; exact hm', grown_then hg hg'⟩)
        clear hmem hM hg hg' hk' hm' hhalf hs HI HH
        go_wp2
        go_ret
        exact unhide HE
theorem memo_any : ∀ n : Nat, n ≤ 12 → ∀ (kb fb mb m : Nat) (w : World), 2 ≤ m → Memo w kb fb mb m → Calls Try.prog 98 #[.int .i64 (n : Int), .pointer (some ⟨kb, 0, none⟩), .pointer (some ⟨fb, 0, none⟩)] w (MemoEnds w kb fb mb m n) := fun n => by
  induction n using Nat.strongRecOn with
  | ind n ih => exact fun hn kb fb mb m w hm h => memo_step n hn (fun j hj => ih j hj (by omega)) kb fb mb m w hm h
theorem grown_setM (w : World) (p : Addr) (v : Value) : w.grownBy (w.setCell p v) (some p.block) := ⟨rfl, rfl, rfl, by simp, fun k _ hk => Below.heap_setCell w p v k (fun e => hk (by rw [e]))⟩
/-- What rememberAlternating gives: the closure, in blocks of the call's own. -/
def MemoGives (w : World) (e : Ending) (w' : World) : Prop := ∃ kb fb mb, e = .returned (cntF kb fb) ∧ w.heap.size ≤ mb ∧ Memo w' kb fb mb 2 ∧ Below w.heap.size w w'
set_option maxHeartbeats 800000 in
theorem rem_any (w : World) : Calls Try.prog 70 #[] w (MemoGives w) := by
  obtain ⟨w1, hw1⟩ : ∃ w1, w1 = w.alloc (.map #[] 0) := ⟨_, rfl⟩
  have k1 : Known w1 w.heap.size 0 := by rw [hw1]; exact Known.new w
  have b1 : Below w.heap.size w w1 := by rw [hw1]; exact (Below.refl _ w).alloc (Nat.le_refl _) _
  obtain ⟨w2, r2, k2, g2⟩ := k1.store (by omega)
  have b2 : Below w.heap.size w w2 := b1.grown g2 b1.size (fun k hk => by injection hk with hk; omega)
  obtain ⟨w3, r3, k3, g3⟩ := k2.store (by omega)
  have b3 : Below w.heap.size w w3 := b2.grown g3 b2.size (fun k hk => by injection hk with hk; omega)
  replace r2 : (Instr.mapUpdate 95 (.map (some w.heap.size)) (.int .i64 0) (.int .i64 1)).run Try.prog w1 = .ok () w2 := r2
  replace r3 : (Instr.mapUpdate 95 (.map (some w.heap.size)) (.int .i64 1) (.int .i64 1)).run Try.prog w2 = .ok () w3 := r3
  have hmk := run_makeMap (P := Try.prog) 95 w
  have hsf : (store (⟨w3.heap.size + 1, 0, none⟩ : Addr) (.func (.func 98) #[] #[.pointer (some ⟨w3.heap.size, 0, none⟩), .pointer (some ⟨w3.heap.size + 1, 0, none⟩)])).run Try.prog ((w3.alloc (.cells #[.map (some w.heap.size)] 95)).alloc (.cells #[.nilFunc] 38)) = _ := run_store _ _ _ _ _ rfl
  have hlt := k3.lt
  have HE := hide (show MemoGives w (.returned (cntF w3.heap.size (w3.heap.size + 1))) ((w3.alloc (.cells #[.map (some w.heap.size)] 95)).alloc (.cells #[cntF w3.heap.size (w3.heap.size + 1)] 38)) from by
    have hs4 : (w3.alloc (.cells #[.map (some w.heap.size)] 95)).heap.size = w3.heap.size + 1 := by simp
    have hs3 := b3.size
    have x1 : Whole (w3.alloc (.cells #[.map (some w.heap.size)] 95)) w3.heap.size 95 #[.map (some w.heap.size)] := Whole.new _ _ _
    have x2 := x1.alloc (.cells #[cntF w3.heap.size (w3.heap.size + 1)] 38)
    have y1 : Whole ((w3.alloc (.cells #[.map (some w.heap.size)] 95)).alloc (.cells #[cntF w3.heap.size (w3.heap.size + 1)] 38)) (w3.heap.size + 1) 38 #[cntF w3.heap.size (w3.heap.size + 1)] := by
      have h := Whole.new (w3.alloc (.cells #[.map (some w.heap.size)] 95)) 38 #[cntF w3.heap.size (w3.heap.size + 1)]
      rwa [hs4] at h
    have z1 := (k3.alloc (.cells #[.map (some w.heap.size)] 95)).alloc (.cells #[cntF w3.heap.size (w3.heap.size + 1)] 38)
    have hb := (b3.alloc b3.size (.cells #[.map (some w.heap.size)] 95)).alloc (by rw [hs4]; omega) (.cells #[cntF w3.heap.size (w3.heap.size + 1)] 38)
    exact ⟨w3.heap.size, w3.heap.size + 1, w.heap.size, rfl, Nat.le_refl _, ⟨by rw [x2.cell 0]; rfl, by rw [y1.cell 0]; rfl, z1, Nat.ne_of_gt hlt, Nat.ne_of_gt (Nat.lt_succ_of_lt hlt)⟩, hb⟩)
  unfold cntF at HE
  subst hw1
  clear k1 k2 k3 g2 g3 b1 b2 b3
  go_enter Try.func70, Try.ntmps70
  go_wp2
  go_ret
  exact unhide HE
set_option maxHeartbeats 800000 in
theorem icnta_any (n : Int) (hn : -9223372036854775808 ≤ n ∧ n ≤ 9223372036854775807) (w : World) :
    Calls Try.prog 28 #[.int .i64 n] w (GivesN w (altZ n)) := by
  obtain ⟨hn1, hn2⟩ := hn
  by_cases h1 : n < 0
  · rw [altZ_no (by omega)]
    go_enter Try.func28, Try.ntmps28
    go_wp2
    go_ret
    exact ⟨rfl, Below.refl _ _⟩
  by_cases h2 : 12 < n
  · rw [altZ_no (by omega)]
    go_enter Try.func28, Try.ntmps28
    go_wp2
    go_ret
    exact ⟨rfl, Below.refl _ _⟩
  obtain ⟨n, rfl⟩ : ∃ k : Nat, n = k := ⟨n.toNat, by omega⟩
  have hn12 : n ≤ 12 := by omega
  rw [altZ_yes hn12]
  have H1 := hide (rem_any w)
  go_enter Try.func28, Try.ntmps28
  go_wp2_with fail
  refine (unhide H1).mono ?_
  rintro e w1 ⟨kb, fb, mb, rfl, hmb, hm, hb1⟩
  have H2 := hide (memo_any n hn12 kb fb mb 2 w1 (Nat.le_refl _) hm)
  clear H1 hm
  unfold cntF
  go_wp2_with fail
  refine (unhide H2).mono ?_
  rintro e w2 ⟨rfl, _, hg⟩
  have hb2 := hb1.grown hg hb1.size (fun k hk => by injection hk with hk; omega)
  clear H2 hg
  go_wp2
  go_ret
  exact ⟨rfl, hb2⟩
end Go.Proofs.Ytnnpefgbneldiaa
