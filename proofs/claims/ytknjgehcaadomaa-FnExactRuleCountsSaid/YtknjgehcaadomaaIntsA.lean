
/-
  LISTS OF ROWS AS ARGUMENTS: how they read; szIntS, szIntSS, toIntSS by their contracts.
-/
import Derived.Test.YtknjgehcaadomaaFilled
import Derived.Test.YtknjgehcaadomaaEnd
import Derived.LaidMore
namespace Go.Proofs.Ytknjgehcaadomaa
set_option maxRecDepth 100000
open Go.RowKit Go.ChangeShapes Go.WideShapes Go.ChangeAt

/-- The slice value '.slice A n c' holds rows that read as the lists zss, all below block B. -/
structure ReadsS (w : World) (B : Nat) (A : Option Addr) (n : Nat) (zss : List (List Int)) : Prop where
  len : zss.length = n
  rows : 0 < n → ∃ ad, A = some ad ∧ ad.block < B ∧ ∀ (j : Nat) z, zss[j]? = some z → ∃ A' c', w.cell? (ad.add j) = some (.slice A' z.length c') ∧ Reads w B A' z.length (i64s z)
theorem ReadsS.below {w w' : World} {B n : Nat} {A : Option Addr} {zss : List (List Int)} (h : ReadsS w B A n zss) (hb : Below B w w') : ReadsS w' B A n zss :=
  ⟨h.len, fun hn => by
    obtain ⟨ad, e, h1, h2⟩ := h.rows hn
    refine ⟨ad, e, h1, fun j z hz => ?_⟩
    obtain ⟨A', c', h3, h4⟩ := h2 j z hz
    exact ⟨A', c', (hb.cell (by rw [block_of_add]; exact h1)).trans h3, h4.below hb⟩⟩
theorem ReadsS.at_ {w : World} {B n k : Nat} {A : Option Addr} {zss : List (List Int)} (h : ReadsS w B A n zss) (hk : k < n) : ∃ ad A' c' z, A = some ad ∧ zss[k]? = some z ∧ w.cell? (ad.add k) = some (.slice A' z.length c') ∧ Reads w B A' z.length (i64s z) := by
  obtain ⟨ad, e, h1, h2⟩ := h.rows (by omega)
  have hz : zss[k]? = some (zss[k]'(by rw [h.len]; exact hk)) := List.getElem?_eq_getElem _
  obtain ⟨A', c', h3, h4⟩ := h2 k _ hz
  exact ⟨ad, A', c', _, e, hz, h3, h4⟩
theorem list_of {β : Type} {P : Nat → β → Prop} : ∀ n : Nat, (∀ i, i < n → ∃ z, P i z) → ∃ l : List β, l.length = n ∧ ∀ (i : Nat) z, l[i]? = some z → P i z
  | 0, _ => ⟨[], rfl, fun i z h => by simp at h⟩
  | n + 1, h => by
    obtain ⟨l, h1, h2⟩ := list_of n fun i hi => h i (by omega)
    obtain ⟨z, hz⟩ := h n (by omega)
    refine ⟨l ++ [z], by simp [h1], fun i y hy => ?_⟩
    by_cases hi : i < l.length
    · rw [List.getElem?_append_left hi] at hy
      exact h2 i y hy
    · rw [List.getElem?_append_right (by omega)] at hy
      have h0 : i - l.length = 0 := by
        have := (List.getElem?_eq_some_iff.1 hy).1
        simp at this
        omega
      rw [h0] at hy
      simp at hy
      subst hy
      rw [show i = n by omega]
      exact hz
/-- An argument [][]int, as 'ReadsS'. -/
theorem open_intss_reads {H : Type} {enc : TypeId × Value → H} {P : Program} {w : World} {r : Reach} {b0 t e ei : TypeId} {v : Value} {d : DataW H} {ps : List MemPlace} (ht : P.underlying t = some (.slice e)) (he : P.underlying e = some (.slice ei)) (hei : P.underlying ei = some (.int .i64)) (hc : P.cellsOf e = 1) (hci : P.cellsOf ei = 1)
    (hval : Value.okWide P w r b0 t v) (h : DataW.Trod enc P w 0 (fun _ => true) true t v d ps) (hlt : ∀ x ∈ ps, x.block < w.heap.size) :
    ∃ (A : Option Addr) (n c : Nat) (zss : List (List Int)), v = .slice A n c ∧ ReadsS w w.heap.size A n zss ∧ n ≤ maxLen ∧ ∀ z ∈ zss, z.length ≤ maxLen ∧ Small z := by
  obtain ⟨a0, len, cap, rfl⟩ := okWide_slice ht hval
  obtain ⟨fuel, hf⟩ := h
  rcases DataW.trod_slice ht hf with ⟨hcs, hx⟩ | ⟨a, len', cap', elems, rest, m, _, hcs, hx, _, hl, hm, hlen, hel, _, _⟩
  · simp [Value.cells] at hcs
    obtain ⟨rfl, rfl, rfl⟩ := hcs
    exact ⟨none, 0, 0, [], rfl, ⟨rfl, fun h => absurd h (by omega)⟩, Nat.zero_le _, by simp⟩
  · simp [Value.cells] at hcs
    obtain ⟨rfl, rfl, rfl⟩ := hcs
    simp only [Prod.mk.injEq] at hx
    obtain ⟨_, rfl⟩ := hx
    have each : ∀ i, i < len → ∃ z : List Int, (∃ A' c', w.cell? (a.add i) = some (.slice A' z.length c') ∧ Reads w w.heap.size A' z.length (i64s z)) ∧ z.length ≤ maxLen ∧ Small z := by
      intro i hi
      have h1 := hel i hi
      rw [hc, Nat.mul_one, List.getElem?_eq_getElem (by omega), Option.bind_eq_some_iff] at h1
      obtain ⟨cs', hcs', htr⟩ := h1
      have hq : ∀ x ∈ (elems[i]'(by omega)).2, x.block < w.heap.size := fun x hx => hlt x (by
        refine List.mem_append.2 (.inr (List.mem_flatMap.2 ⟨elems[i]'(by omega), List.mem_append.2 (.inl (List.getElem_mem _)), hx⟩))
      )
      rcases open_ints he hei hci htr with ⟨rfl, _⟩ | ⟨a', len'', cap'', zs, rfl, _, hl', hm', hz, hx', hcell, hws⟩
      · exact ⟨[], ⟨none, 0, cell_of_cells?_one hcs', Reads.none_⟩, Nat.zero_le _, fun z hz => by simp at hz⟩
      · simp only [if_true] at hz
        have e1 : (zs.take len'').length = len'' := by rw [List.length_take]; omega
        refine ⟨zs.take len'', ⟨some a', cap'', by rw [e1]; exact cell_of_cells?_one hcs', ?_⟩, by omega, small_of_wf fun z hz => hws z (List.mem_of_mem_take hz)⟩
        refine ⟨by rw [i64_length], fun hn => ⟨a', rfl, ?_, fun j u hu => ?_⟩⟩
        · rw [hx'] at hq
          exact lt_of_row (j := 0) hq (by omega)
        · unfold i64s at hu
          rw [List.getElem?_map, List.getElem?_take] at hu
          by_cases hj : j < len''
          · rw [if_pos hj] at hu
            rw [hcell j (by omega), ← hu, List.getD_eq_getElem?_getD]
            have : zs[j]? = some zs[j] := List.getElem?_eq_getElem (by omega)
            rw [this]; rfl
          · rw [if_neg hj] at hu; cases hu
    obtain ⟨zss, hz1, hz2⟩ := list_of len each
    refine ⟨some a, len, cap, zss, rfl, ⟨hz1, fun hn => ⟨a, rfl, ?_, fun j z hz => (hz2 j z hz).1⟩⟩, by omega, fun z hz => ?_⟩
    · rw [hc] at hlt
      refine lt_of_row (m := (elems.length + rest.length) * 1) (j := 0) (fun x hx => hlt x (List.mem_append.2 (.inl hx))) (by omega)
    · obtain ⟨i, hi, rfl⟩ := List.getElem_of_mem hz
      exact (hz2 i _ (List.getElem?_eq_getElem hi)).2
theorem cellsRow : Try.prog.cellsOf 24 = 1 := by kernel_rfl

theorem szi_any (A : Option Addr) (n c : Nat) (L : Int) (hL : 0 ≤ L ∧ L ≤ 1048576) (hn : n ≤ maxLen) (w : World) :
    Calls Try.prog 13 #[.slice A n c, .int .i64 L] w fun e w' => e = .returned (.int .i64 (if L < n then -1 else L - n)) ∧ w = w' := by
  unfold maxLen at hn
  obtain ⟨hL1, hL2⟩ := hL
  by_cases hlt : L < n
  · rw [if_pos hlt]
    have h1 : L - (n : Int) < 0 := by omega
    go_enter Try.func13, Try.ntmps13
    go_wp2
    go_ret
    exact ⟨rfl, rfl⟩
  · rw [if_neg hlt]
    have h1 : ¬ L - (n : Int) < 0 := by omega
    go_enter Try.func13, Try.ntmps13
    go_wp2
    go_ret
    exact ⟨rfl, rfl⟩
/-- What szIntSS gives: what is left, or -1. -/
def szR (L : Int) (n : Nat) (zss : List (List Int)) : Int := if L < n + tot zss then -1 else L - n - tot zss
set_option maxHeartbeats 400000 in
theorem sziss_any (A : Option Addr) (n c B : Nat) (zss : List (List Int)) (L : Int) (hL : 0 ≤ L ∧ L ≤ 1048576) (w : World) (hr : ReadsS w B A n zss) (hn : n ≤ maxLen) (hz : ∀ z ∈ zss, z.length ≤ maxLen) :
    Calls Try.prog 4 #[.slice A n c, .int .i64 L] w fun e w' => e = .returned (.int .i64 (szR L n zss)) ∧ w = w' := by
  obtain ⟨r, hrr⟩ : ∃ r, szR L n zss = r := ⟨_, rfl⟩
  rw [hrr]
  have HR := hide hrr
  have HL := hide hr.len
  have HZ := hide hz
  unfold maxLen at hn
  obtain ⟨hL1, hL2⟩ := hL
  clear hrr hz
  by_cases hlt : L < n
  · obtain rfl : r = -1 := by
      rw [← unhide HR]
      unfold szR
      rw [if_pos (by omega)]
    have h1 : L - (n : Int) < 0 := by omega
    go_enter Try.func4, Try.ntmps4
    go_wp2
    go_ret
    exact ⟨rfl, rfl⟩
  · have h1 : ¬ L - (n : Int) < 0 := by omega
    go_enter Try.func4, Try.ntmps4
    go_wp2
    go_loop [1, 5] (fun lv i => ∃ (k : Nat) (l : Int), k ≤ n ∧ i = .int .i64 k ∧ lv = .int .i64 l ∧ 0 ≤ l ∧ l ≤ 1048576 ∧ Hid (l = L - n - tot (zss.take k))) (fun _ i => n - (intOf i).toNat)
    case atStart => exact ⟨0, L - n, Nat.zero_le _, rfl, by go_num, by omega, by omega, by exact (by simp [tot] : L - (n : Int) = L - n - tot (zss.take 0))⟩
    case round =>
      obtain ⟨k, l, hk, rfl, rfl, hl0, hl1, hle⟩ := hrel
      by_cases hlt2 : k < n
      · obtain ⟨ad, A1, c1, z, rfl, hzk, hcell, _⟩ := hr.at_ hlt2
        have hzl := unhide HZ z (List.mem_of_getElem? hzk)
        have hst := tot_step hzk
        have htk := tot_take zss (k + 1)
        have H1 := hide (szi_any A1 z.length c1 l ⟨hl0, hl1⟩ hzl w)
        by_cases hlt3 : l < z.length
        · rw [if_pos hlt3] at H1
          obtain rfl : r = -1 := by
            rw [← unhide HR]
            unfold szR
            have := unhide hle
            rw [if_pos (by omega)]
          clear hzk hzl hst htk hle
          go_wp2_with fail
          refine (unhide H1).mono ?_
          rintro e w' ⟨rfl, rfl⟩
          clear H1
          go_wp2
          go_ret
          exact ⟨rfl, rfl⟩
        · rw [if_neg hlt3] at H1
          have hnext : Hid (l - (z.length : Int) = L - n - tot (zss.take (k + 1))) := hide (by have := unhide hle; omega)
          have h0 : ¬ l - (z.length : Int) < 0 := by omega
          clear hzk hzl hst htk hle
          go_wp2_with fail
          refine (unhide H1).mono ?_
          rintro e w' ⟨rfl, rfl⟩
          clear H1
          go_wp2
          go_round
          case rel => exact ⟨k + 1, _, by omega, by go_num, rfl, by omega, by omega, hnext⟩
          case measure => simp [intOf]; omega
      · obtain rfl : n = k := by omega
        obtain rfl : r = l := by
          rw [← unhide HR]
          have := unhide hle
          rw [List.take_of_length_le (by rw [unhide HL]; exact Nat.le_refl _)] at this
          unfold szR
          rw [if_neg (by omega), this]
        clear hle
        go_wp2
        go_ret
        exact ⟨rfl, rfl⟩
set_option maxHeartbeats 400000 in
theorem toiss_any (A : Option Addr) (n c B : Nat) (zss : List (List Int)) (w : World) (hr : ReadsS w B A n zss) (hB : B ≤ w.heap.size) (hn : n ≤ 1048576) (hz : ∀ z ∈ zss, z.length ≤ 1048576) :
    Calls Try.prog 6 #[.slice A n c] w fun e w' => ∃ g, e = .returned (.slice (some ⟨g, 0, none⟩) n n) ∧ IntsS w' w.heap.size (.slice (some ⟨g, 0, none⟩) n n) zss ∧ Below w.heap.size w w' := by
  obtain ⟨i0, hi, hz0, hz1, hz2⟩ := info_parts rowsInfo1
  have HL := hide hr.len
  have HZ := hide hz
  clear hz
  go_enter Try.func6, Try.ntmps6
  go_wp2_with (first
    | (at_make; refine wpList_make_full _ rfl (.tmp 6) (.tmp 6) 22 rfl w.heap.size 24 i0 (.slice none 0 0) 1 Try.underlying22 hi hz0 hz1 _ _ _ _ n rfl rfl (by first | rfl | omega) (by first | rfl | omega) (by rw [hz2]; omega) (by unfold maxLen; omega) (Nat.le_refl _) ?_; intro w1 hown hg))
  have hF := Filled.start (zss := zss) (unhide HL) (Below.refl w.heap.size w) hown hg
  clear hown hg
  obtain ⟨g, hgw⟩ : ∃ g, g = w.heap.size := ⟨_, rfl⟩
  rw [← hgw] at hF ⊢
  clear hgw
  go_loopw [4] (fun i wr => ∃ k : Nat, k ≤ n ∧ i = .int .i64 k ∧ Filled w wr g n zss k) (fun i _ => n - (intOf i).toNat)
  case atStart => exact ⟨0, Nat.zero_le _, rfl, hF⟩
  case round =>
    obtain ⟨k, hk, rfl, hF⟩ := hrel
    by_cases hlt : k < n
    · obtain ⟨ad, A1, c1, z, rfl, hzk, hcell, hR⟩ := (hr.below (hF.below.mono hB)).at_ hlt
      have hzl := unhide HZ z (List.mem_of_getElem? hzk)
      have H1 := hide (toi_any A1 z.length c1 B z wr hR (Nat.le_trans hB hF.below.size) (by omega))
      have HF := hide hF
      have HZK := hide hzk
      clear hzk hR hzl hF
      go_wp2_with fail
      refine (unhide H1).mono ?_
      rintro e w3 ⟨rfl, o3, d3⟩
      obtain ⟨⟨old, hold⟩, hfz⟩ := (unhide HF).old d3 hlt
      have hF2 := (unhide HF).put (unhide HZK) d3 o3
      clear H1 d3 o3 HF HZK
      go_wp2
      go_roundw
      case rel => exact ⟨k + 1, by omega, by go_num, hF2⟩
      case measure => simp [intOf]; omega
    · obtain rfl : n = k := by omega
      obtain ⟨hbw, vs, hown, hin⟩ := hF
      have hfin : IntsS wr w.heap.size (.slice (some ⟨g, 0, none⟩) n n) zss := by
        have h1 := unhide HL
        subst h1
        rw [fillS_all] at hin
        exact ⟨vs, hown, hin⟩
      clear hown hin
      go_wp2
      go_ret
      exact ⟨g, rfl, hfin, hbw⟩
end Go.Proofs.Ytknjgehcaadomaa
