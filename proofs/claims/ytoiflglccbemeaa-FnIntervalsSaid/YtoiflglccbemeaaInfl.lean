
/-
  impl.countBelow, impl.InflateBy, by their contracts.
-/
import Derived.Test.YtoiflglccbemeaaInflM
import Derived.Test.YtoiflglccbemeaaIvS
import Derived.Test.YtoiflglccbemeaaAllS
namespace Go.Proofs.Ytoiflglccbemeaa
set_option maxRecDepth 100000
open Go.RowKit

set_option maxHeartbeats 800000 in
theorem icb_any (A A' : Option Addr) (n c B n' c' B' : Nat) (p : List Int) (l : List (List Int)) (v : Int) (w : World) (h : Arg w B A n c p) (hS : IntsS w B' (.slice A' n' c') l) (hn : n' = n) (hn8 : n ≤ 8) (hsm : ∀ z ∈ l, z.length ≤ 1048576) :
    Calls Try.prog 55 #[.slice A n c, .slice A' n' c', .int .i64 v] w fun e w' => e = .returned (.int .i64 (baseK p l v n : Int)) ∧ w' = w := by
  subst hn
  have hr := hide h.reads
  have hb := hide (baseK_le p l v 1048576 hsm)
  have HS := hide hS
  have HSM := hide hsm
  clear h hS hsm
  go_enter Try.func55, Try.ntmps55
  go_wp2
  go_loop [7, 8, 9, 12] (fun m _ _ i => ∃ k : Nat, k ≤ n' ∧ i = .int .i64 k ∧ m = .int .i64 (baseK p l v k : Int)) (fun _ _ _ i => n' - (intOf i).toNat)
  case atStart => exact ⟨0, Nat.zero_le _, rfl, rfl⟩
  case round =>
    obtain ⟨k, hk, rfl, rfl⟩ := hrel
    have hb1 := unhide hb k
    have hb2 : k * 1048576 ≤ 8 * 1048576 := Nat.mul_le_mul (by omega) (Nat.le_refl _)
    obtain ⟨m, hm⟩ : ∃ m, m = baseK p l v k := ⟨_, rfl⟩
    rw [← hm] at hb1 ⊢
    have hm8 : m ≤ 8388608 := by omega
    clear hb1 hb2
    by_cases hlt : k < n'
    · obtain ⟨ad, u, rfl, _, hu, hc⟩ := (unhide hr).at_ hlt
      obtain ⟨x, hx, rfl⟩ := i64_at hu
      obtain ⟨ad', A1, c1, z, rfl, hz, hcell, _⟩ := (unhide HS).at_ hlt
      have hzl := unhide HSM z (List.mem_of_getElem? hz)
      by_cases hxv : x < v
      · have hs := hide (baseK_yes hx hz hxv)
        rw [← hm] at hs
        clear hu hx hz hm
        go_wp2
        go_round
        case rel => exact ⟨k + 1, by omega, by go_num, by rw [unhide hs]; go_num⟩
        case measure => simp [intOf]; omega
      · have hs := hide (baseK_no (l := l) hx hxv)
        rw [← hm] at hs
        clear hu hx hz hm
        go_wp2
        go_round
        case rel => exact ⟨k + 1, by omega, by go_num, by rw [unhide hs]⟩
        case measure => simp [intOf]; omega
    · obtain rfl : n' = k := by omega
      have HM := hide hm
      clear hm
      go_wp2
      go_ret
      exact ⟨ret_int (by rw [unhide HM]), rfl⟩

theorem IntsS.at_low {w w' : World} {B n c : Nat} {A : Option Addr} {zss : List (List Int)} (h : IntsS w B (.slice A n c) zss) (hb : Below w.heap.size w w') {i : Nat} (hi : i < n) :
    ∃ ad A' c' zs, A = some ad ∧ zss[i]? = some zs ∧ w'.cell? (ad.add i) = some (.slice A' zs.length c') ∧ Ints w B (.slice A' zs.length c') zs := by
  have hn := h.len
  obtain ⟨vs, h1, h2⟩ := h
  subst hn
  obtain ⟨ad, u, hA, hlt, hu, hc⟩ := (Reads.of_own_at h1).at_ hi
  have hz : zss[i]? = some zss[i] := List.getElem?_eq_getElem hi
  have hr := h2.row i u _ hu hz
  obtain ⟨A', c', rfl⟩ := hr.slice
  exact ⟨ad, A', c', _, hA, hz, (hb.cell (by rw [block_of_add]; exact hlt)).trans hc, hr⟩
theorem tot_le (m : Nat) : ∀ l : List (List Int), (∀ z ∈ l, z.length ≤ m) → tot l ≤ l.length * m
  | [], _ => by simp [tot]
  | z :: l, h => by
    have h1 := tot_le m l fun y hy => h y (by simp [hy])
    have h2 := h z (by simp)
    have e : tot (z :: l) = z.length + tot l := by simp [tot]
    rw [e, List.length_cons, Nat.add_mul]
    omega
theorem map_take_one {z : List Int} {j : Nat} {y : Int} (r : Int) (h : z[j]? = some y) : (z.take (j + 1)).map (fun v => v + r) = (z.take j).map (fun v => v + r) ++ [y + r] := by
  rw [List.take_add_one, h, List.map_append]; rfl
theorem i64_snoc3 (xs : List Int) (z : Int) : i64s xs ++ [Value.int .i64 z] = i64s (xs ++ [z]) := by unfold i64s; simp

set_option maxHeartbeats 3200000 in
theorem iinfl_any (A A' : Option Addr) (n c B n' c' B' : Nat) (p : List Int) (l : List (List Int)) (w : World) (h : Arg w B A n c p) (hS : IntsS w B' (.slice A' n' c') l) (hn : n' ≤ 1048576) (hsm : ∀ z ∈ l, z.length ≤ 1048576 ∧ Small z) :
    Calls Try.prog 17 #[.slice A n c, .slice A' n' c'] w (GivesIB w (inflR p l) (inflOK p l)) := by
  obtain ⟨i0, hi, hz0, hz1, hz2⟩ := info_parts intInfo
  obtain ⟨b, hb⟩ : ∃ b, isP p = b := ⟨_, rfl⟩
  have H0 := hide (iisperm_any A n c B p b hb w h.reads h.under h.le h.small)
  have hl := h.len
  have hsl := hS.len
  cases b with
  | false =>
    rw [inflR_no (inflOK_no1 hb), inflOK_no1 hb]
    clear hb h hl hS hsl
    go_enter Try.func17, Try.ntmps17
    go_wp2_with fail
    refine (unhide H0).mono ?_
    rintro e w1 ⟨rfl, hb⟩
    clear H0
    go_wp2
    go_ret2
    exact GivesIB.mk _ (Ints.nil _ _) hb
  | true =>
    by_cases hnn : n' = n
    rotate_left
    · rw [inflR_no (inflOK_no2 (by omega)), inflOK_no2 (by omega)]
      have hnn' : ¬ (n' : Int) = (n : Int) := by omega
      clear hb h hl hS hsl
      go_enter Try.func17, Try.ntmps17
      go_wp2_with fail
      refine (unhide H0).mono ?_
      rintro e w1 ⟨rfl, hb⟩
      clear H0
      go_wp2
      go_ret2
      exact GivesIB.mk _ (Ints.nil _ _) hb
    subst hnn
    have hn8 : n' ≤ 8 := by have := isP_le hb; omega
    have HP := hide hb
    have HL := hide hl
    have HSL := hide hsl
    have HC := hide h
    have HS := hide hS
    have HSM := hide hsm
    have HNO := hide (fun z (hz : z ∈ l) (hzb : isP z = false) => inflOK_no3 (p := p) (allP_no hz hzb))
    have HN4 := hide (fun z (hz : z ∈ l) (hzb : z.length = 0) => inflOK_no4 (p := p) (noNil_no hz hzb))
    clear hb h hl hS hsl hsm
    go_enter Try.func17, Try.ntmps17
    go_wp2_with fail
    refine (unhide H0).mono ?_
    rintro e w1 ⟨rfl, hb1⟩
    clear H0
    have hown0 := World.ownsRow_nil w1 w.heap.size 3 1
    go_wp2
    go_loopw [6, 7, 8, 9, 11, 24] (fun v _ _ _ _ i wr => ∃ k : Nat, k ≤ n' ∧ i = .int .i64 k ∧ Below w.heap.size w wr ∧ wr.ownsRow w.heap.size 3 1 v (inflK p l k).length (i64s (inflK p l k)) ∧ Hid (∀ z ∈ l.take k, isP z = true ∧ z.length ≠ 0)) (fun _ _ _ _ _ i _ => n' - (intOf i).toNat)
    case atStart => exact ⟨0, Nat.zero_le _, rfl, hb1, hown0, fun z hz => by simp at hz⟩
    case round =>
      obtain ⟨k, hk, rfl, hbw, hown, hall⟩ := hrel
      clear hown0 hb1
      by_cases hlt : k < n'
      · obtain ⟨ad, u, rfl, _, hu, hc⟩ := ((unhide HC).below hbw).reads.at_ hlt
        obtain ⟨x, hx, rfl⟩ := i64_at hu
        obtain ⟨ad', A1, c1, z, rfl, hz, hcell, hIz⟩ := (unhide HS).at_low hbw hlt
        obtain ⟨hzl, hzs⟩ := unhide HSM z (List.mem_of_getElem? hz)
        have hAw := hIz.arg hzl hIz.cap hzs
        have hA := hAw.below hbw
        obtain ⟨b1, hb1⟩ : ∃ b, isP z = b := ⟨_, rfl⟩
        have H1 := hide (iisperm_any A1 z.length c1 w.heap.size z b1 hb1 wr hA.reads hA.under hA.le hA.small)
        obtain ⟨m, hm⟩ : ∃ m, z.length = m := ⟨_, rfl⟩
        rw [hm] at H1 hcell hzl hIz hA hAw
        have HM := hide hm
        cases b1 with
        | false =>
          have hno := unhide HNO z (List.mem_of_getElem? hz) hb1
          rw [inflR_no hno, hno]
          clear hu hx hz hIz hA hAw hb1 hown hall hno hm
          go_wp2_with fail
          refine (unhide H1).mono ?_
          rintro e w2 ⟨rfl, hb2⟩
          have hb3 := below_after hbw hb2
          clear H1
          go_wp2
          go_ret2
          exact GivesIB.mk _ (Ints.nil _ _) hb3
        | true =>
          by_cases h0 : m = 0
          · subst h0
            have hno := unhide HN4 z (List.mem_of_getElem? hz) hm
            rw [inflR_no hno, hno]
            clear hu hx hz hIz hA hAw hb1 hown hall hno hm
            go_wp2_with fail
            refine (unhide H1).mono ?_
            rintro e w2 ⟨rfl, hb2⟩
            have hb3 := below_after hbw hb2
            clear H1
            go_wp2
            go_ret2
            exact GivesIB.mk _ (Ints.nil _ _) hb3
          · have hm8 : m ≤ 8 := by have := isP_le hb1; omega
            have hms := isP_small hb1
            have HB1 := hide hb1
            have HX := hide hx
            have HZ := hide hz
            have hall2 : Hid (∀ y ∈ l.take (k + 1), isP y = true ∧ y.length ≠ 0) := hide (fun y hy => by
              rw [List.take_add_one, hz] at hy
              rcases List.mem_append.1 hy with hy | hy
              · exact unhide hall y hy
              · simp at hy
                subst hy
                exact ⟨hb1, by omega⟩)
            have hrl := hide (inflK_step hx hz)
            have hlen : (inflK p l k).length ≤ 64 := by
              have h1 := tot_le 8 (l.take k) (fun y hy => isP_le (unhide hall y hy).1)
              have h2 := List.length_take_le k l
              rw [inflK_length]
              have h3 : (l.take k).length * 8 ≤ 8 * 8 := Nat.mul_le_mul (by omega) (Nat.le_refl _)
              omega
            have hbr := baseK_le p l x 1048576 (fun y hy => (unhide HSM y hy).1) n'
            have hbr2 : n' * 1048576 ≤ 8 * 1048576 := Nat.mul_le_mul hn8 (Nat.le_refl _)
            obtain ⟨r, hr⟩ : ∃ r, r = baseK p l x n' := ⟨_, rfl⟩
            have HR := hide hr
            have hr8 : r ≤ 8388608 := by omega
            have hrl2 : Hid (inflK p l (k + 1) = inflK p l k ++ z.map (fun v => v + (r : Int))) := hide (by rw [unhide hrl, unhide HL, hr])
            clear hu hx hz hb1 hm hall hrl hbr hbr2 hr
            go_wp2_with fail
            refine (unhide H1).mono ?_
            rintro e w2 ⟨rfl, hb2⟩
            have hb3 := below_after hbw hb2
            have hown2 := own_below hown hb2
            obtain ⟨ad2, u2, he2, _, hu2, hc2⟩ := ((unhide HC).below hb3).reads.at_ hlt
            injection he2 with he2
            subst he2
            obtain ⟨x2, hx2, rfl⟩ := i64_at hu2
            obtain rfl : x = x2 := by have := unhide HX; rw [hx2] at this; exact (Option.some.inj this).symm
            have H3 := hide (icb_any (some ad) (some ad') n' c B n' c' B' p l x w2 ((unhide HC).below hb3) ((unhide HS).below hb3) rfl hn8 (fun y hy => (unhide HSM y hy).1))
            rw [← unhide HR] at H3
            clear H1 hb2 hbw hA hown hu2 hx2 hIz hc hcell
            go_wp2_with fail
            refine (unhide H3).mono ?_
            rintro e w3 ⟨rfl, rfl⟩
            clear H3
            have hst : w3.ownsRow w.heap.size 3 1 u6 (inflK p l k ++ (z.take 0).map (fun v => v + (r : Int))).length (i64s (inflK p l k ++ (z.take 0).map (fun v => v + (r : Int)))) := by
              rw [List.take_zero, List.map_nil, List.append_nil]; exact hown2
            have HA := hide hAw
            clear hown2 hAw
            go_wp2
            go_loopw [6, 11, 46] (fun v _ i wi => ∃ j : Nat, j ≤ m ∧ i = .int .i64 j ∧ Below w.heap.size w wi ∧ wi.ownsRow w.heap.size 3 1 v (inflK p l k ++ (z.take j).map (fun v => v + (r : Int))).length (i64s (inflK p l k ++ (z.take j).map (fun v => v + (r : Int))))) (fun _ _ i _ => m - (intOf i).toNat)
            case atStart => exact ⟨0, Nat.zero_le _, rfl, hb3, hst⟩
            case round =>
              obtain ⟨j, hj, rfl, hbi, hown⟩ := hrel
              clear hst hb3
              by_cases hjm : j < m
              · obtain ⟨ad3, u3, rfl, _, hu3, hc3⟩ := ((unhide HA).below hbi).reads.at_ hjm
                obtain ⟨y, hy, rfl⟩ := i64_at hu3
                have hyr := isP_range (unhide HB1) hy
                rw [unhide HM] at hyr
                have hlj : (inflK p l k ++ (z.take j).map (fun v => v + (r : Int))).length ≤ 72 := by
                  have := List.length_take_le j z
                  rw [List.length_append, List.length_map]; omega
                have hnx := hide (congrArg (inflK p l k ++ ·) (map_take_one (r : Int) hy))
                obtain ⟨R, hR⟩ : ∃ R, R = inflK p l k ++ (z.take j).map (fun v => v + (r : Int)) := ⟨_, rfl⟩
                rw [← hR] at hown hlj
                have HRR := hide hR
                clear hu3 hy hR
                go_wp2_with (first
                  | (at_builtin; refine wpList_append_one rfl (.tmp 50) (.tmp 54) 24 rfl w.heap.size 3 i0 (.int .i64 0) 8 Try.underlying24 hi hz0 hz1 hz2 rfl w wr _ _ _ rfl hown (.int .i64 (y + (r : Int))) rfl rfl rfl (by omega) (by unfold maxLen; omega) hbi hbi.size ?_))
                intro v2 w4 hown4 hb4 _
                have hown5 : w4.ownsRow w.heap.size 3 1 v2 (inflK p l k ++ (z.take (j + 1)).map (fun v => v + (r : Int))).length (i64s (inflK p l k ++ (z.take (j + 1)).map (fun v => v + (r : Int)))) := by
                  have e := unhide hnx
                  rw [e, ← List.append_assoc, ← unhide HRR, ← i64_snoc3, List.length_append]
                  exact hown4
                clear hown hown4 hbi
                go_wp2
                go_roundw
                case rel => exact ⟨j + 1, by omega, by go_num, hb4, hown5⟩
                case measure => simp [intOf]; omega
              · obtain rfl : m = j := by omega
                have hown5 : wr.ownsRow w.heap.size 3 1 u6 (inflK p l (k + 1)).length (i64s (inflK p l (k + 1))) := by
                  rw [unhide hrl2]
                  have e : z.take m = z := List.take_of_length_le (by rw [unhide HM]; exact Nat.le_refl _)
                  rw [e] at hown
                  exact hown
                clear hown
                go_wp2
                go_roundw
                case rel => exact ⟨k + 1, by omega, by go_num, hbi, hown5, hall2⟩
                case measure => simp [intOf]; omega
      · obtain rfl : n' = k := by omega
        have e : l.take n' = l := List.take_of_length_le (by rw [unhide HSL]; exact Nat.le_refl _)
        have hall2 := hide hall
        have hlen : (inflK p l n').length = tot l := by rw [inflK_length, e]
        have hap : allP l = true := allP_yes fun z hz => (unhide hall z (by rw [e]; exact hz)).1
        have hnn : noNil l = true := noNil_yes fun z hz => (unhide hall z (by rw [e]; exact hz)).2
        have ht64 : tot l ≤ 64 := by
          have h1 := tot_le 8 l (fun y hy => isP_le (allP_at hap hy))
          have h3 : l.length * 8 ≤ 8 * 8 := Nat.mul_le_mul (by rw [unhide HSL]; exact hn8) (Nat.le_refl _)
          omega
        have hI : Ints wr w.heap.size u6 (inflK p l n') := Ints.of_own hown
        obtain ⟨A9, c9, rfl⟩ := hI.slice
        by_cases h8 : tot l ≤ 8
        · have hok : inflOK p l = true := inflOK_yes (unhide HP) (by rw [unhide HL, unhide HSL]) hap hnn h8
          have hr : inflR p l = inflK p l n' := by rw [inflR_yes hok, unhide HL]
          have HE := hide (And.intro hr hok)
          have h8' : ¬ 8 < ((inflK p l n').length : Int) := by omega
          clear e hall hall2 hlen hap hnn hown hok hr
          go_wp2
          go_ret2
          rw [(unhide HE).1, (unhide HE).2]
          exact GivesIB.mk _ hI hbw
        · have hno := inflOK_no5 (p := p) h8
          have HE := hide (And.intro (inflR_no hno) hno)
          have h8' : 8 < ((inflK p l n').length : Int) := by omega
          clear e hall hall2 hlen hap hnn hown hno hI
          go_wp2
          go_ret2
          rw [(unhide HE).1, (unhide HE).2]
          exact GivesIB.mk _ (Ints.nil _ _) hbw
end Go.Proofs.Ytoiflglccbemeaa
