/-
  Words and contracts that the laws lean on, bundled: IntsA, MarkS, FmtS, Text, PSet, PatsI, LowI, PSetI, SiftM.
-/
import Derived.Test.YtplchjeamooliaaB2
import Derived.Test.YtplchjeamooliaaB8
import Derived.LaidMore
import Derived.Test.YtplchjeamooliaaB3
import Derived.Test.YtplchjeamooliaaProg
import Derived.Lib.ItoaNum
import Derived.Lib.ItoaLen
import Derived.Laws.IdiomStrings
import Derived.WalkSpells
import Derived.WalkLawsBesides
import Derived.Test.YtplchjeamooliaaB6
import Derived.Laws.BytesString
import Derived.Maps.OwnSet
import Derived.Maps.Views
import Derived.Deep.RegionHeld3
import Derived.Test.YtplchjeamooliaaB5

/-
  LISTS OF ROWS AS ARGUMENTS: how they read; szIntS, szIntSS, toIntSS by their contracts.
-/

namespace Go.Proofs.Ytplchjeamooliaa
set_option maxRecDepth 100000
open Go.RowKit Go.ChangeShapes Go.WideShapes Go.ChangeAt

/-- The slice value '.slice A n c' holds rows that read as the lists zss, all below block B. -/
structure ReadsS (w : World) (B : Nat) (A : Option Addr) (n : Nat) (zss : List (List Int)) : Prop where
  len : zss.length = n
  rows : 0 < n → ∃ ad, A = some ad ∧ ad.block < B ∧ ∀ (j : Nat) z, zss[j]? = some z → ∃ A' c', w.cell? (ad.add j) = some (.slice A' z.length c') ∧ Reads w B A' z.length (i64s z)
theorem ReadsS.below {w w' : World} {B n : Nat} {A : Option Addr} {zss : List (List Int)} (h : ReadsS w B A n zss) (hb : Below B w w') : ReadsS w' B A n zss :=
  ⟨h.len, fun hn => by
    obtain ⟨ad, e, h1, h2⟩ := h.rows hn
    refine ⟨ad, e, h1, fun j z hz => ?_⟩
    obtain ⟨A', c', h3, h4⟩ := h2 j z hz
    exact ⟨A', c', (hb.cell (by rw [block_of_add]; exact h1)).trans h3, h4.below hb⟩⟩
theorem ReadsS.at_ {w : World} {B n k : Nat} {A : Option Addr} {zss : List (List Int)} (h : ReadsS w B A n zss) (hk : k < n) : ∃ ad A' c' z, A = some ad ∧ zss[k]? = some z ∧ w.cell? (ad.add k) = some (.slice A' z.length c') ∧ Reads w B A' z.length (i64s z) := by
  obtain ⟨ad, e, h1, h2⟩ := h.rows (by omega)
  have hz : zss[k]? = some (zss[k]'(by rw [h.len]; exact hk)) := List.getElem?_eq_getElem _
  obtain ⟨A', c', h3, h4⟩ := h2 k _ hz
  exact ⟨ad, A', c', _, e, hz, h3, h4⟩
theorem list_of {β : Type} {P : Nat → β → Prop} : ∀ n : Nat, (∀ i, i < n → ∃ z, P i z) → ∃ l : List β, l.length = n ∧ ∀ (i : Nat) z, l[i]? = some z → P i z
  | 0, _ => ⟨[], rfl, fun i z h => by simp at h⟩
  | n + 1, h => by
    obtain ⟨l, h1, h2⟩ := list_of n fun i hi => h i (by omega)
    obtain ⟨z, hz⟩ := h n (by omega)
    refine ⟨l ++ [z], by simp [h1], fun i y hy => ?_⟩
    by_cases hi : i < l.length
    · rw [List.getElem?_append_left hi] at hy
      exact h2 i y hy
    · rw [List.getElem?_append_right (by omega)] at hy
      have h0 : i - l.length = 0 := by
        have := (List.getElem?_eq_some_iff.1 hy).1
        simp at this
        omega
      rw [h0] at hy
      simp at hy
      subst hy
      rw [show i = n by omega]
      exact hz
/-- An argument [][]int, as 'ReadsS'. -/
theorem open_intss_reads {H : Type} {enc : TypeId × Value → H} {P : Program} {w : World} {r : Reach} {b0 t e ei : TypeId} {v : Value} {d : DataW H} {ps : List MemPlace} (ht : P.underlying t = some (.slice e)) (he : P.underlying e = some (.slice ei)) (hei : P.underlying ei = some (.int .i64)) (hc : P.cellsOf e = 1) (hci : P.cellsOf ei = 1)
    (hval : Value.okWide P w r b0 t v) (h : DataW.Trod enc P w 0 (fun _ => true) true t v d ps) (hlt : ∀ x ∈ ps, x.block < w.heap.size) :
    ∃ (A : Option Addr) (n c : Nat) (zss : List (List Int)), v = .slice A n c ∧ ReadsS w w.heap.size A n zss ∧ n ≤ maxLen ∧ ∀ z ∈ zss, z.length ≤ maxLen ∧ Small z := by
  obtain ⟨a0, len, cap, rfl⟩ := okWide_slice ht hval
  obtain ⟨fuel, hf⟩ := h
  rcases DataW.trod_slice ht hf with ⟨hcs, hx⟩ | ⟨a, len', cap', elems, rest, m, _, hcs, hx, _, hl, hm, hlen, hel, _, _⟩
  · simp [Value.cells] at hcs
    obtain ⟨rfl, rfl, rfl⟩ := hcs
    exact ⟨none, 0, 0, [], rfl, ⟨rfl, fun h => absurd h (by omega)⟩, Nat.zero_le _, by simp⟩
  · simp [Value.cells] at hcs
    obtain ⟨rfl, rfl, rfl⟩ := hcs
    simp only [Prod.mk.injEq] at hx
    obtain ⟨_, rfl⟩ := hx
    have each : ∀ i, i < len → ∃ z : List Int, (∃ A' c', w.cell? (a.add i) = some (.slice A' z.length c') ∧ Reads w w.heap.size A' z.length (i64s z)) ∧ z.length ≤ maxLen ∧ Small z := by
      intro i hi
      have h1 := hel i hi
      rw [hc, Nat.mul_one, List.getElem?_eq_getElem (by omega), Option.bind_eq_some_iff] at h1
      obtain ⟨cs', hcs', htr⟩ := h1
      have hq : ∀ x ∈ (elems[i]'(by omega)).2, x.block < w.heap.size := fun x hx => hlt x (by
        refine List.mem_append.2 (.inr (List.mem_flatMap.2 ⟨elems[i]'(by omega), List.mem_append.2 (.inl (List.getElem_mem _)), hx⟩))
      )
      rcases open_ints he hei hci htr with ⟨rfl, _⟩ | ⟨a', len'', cap'', zs, rfl, _, hl', hm', hz, hx', hcell, hws⟩
      · exact ⟨[], ⟨none, 0, cell_of_cells?_one hcs', Reads.none_⟩, Nat.zero_le _, fun z hz => by simp at hz⟩
      · simp only [if_true] at hz
        have e1 : (zs.take len'').length = len'' := by rw [List.length_take]; omega
        refine ⟨zs.take len'', ⟨some a', cap'', by rw [e1]; exact cell_of_cells?_one hcs', ?_⟩, by omega, small_of_wf fun z hz => hws z (List.mem_of_mem_take hz)⟩
        refine ⟨by rw [i64_length], fun hn => ⟨a', rfl, ?_, fun j u hu => ?_⟩⟩
        · rw [hx'] at hq
          exact lt_of_row (j := 0) hq (by omega)
        · unfold i64s at hu
          rw [List.getElem?_map, List.getElem?_take] at hu
          by_cases hj : j < len''
          · rw [if_pos hj] at hu
            rw [hcell j (by omega), ← hu, List.getD_eq_getElem?_getD]
            have : zs[j]? = some zs[j] := List.getElem?_eq_getElem (by omega)
            rw [this]; rfl
          · rw [if_neg hj] at hu; cases hu
    obtain ⟨zss, hz1, hz2⟩ := list_of len each
    refine ⟨some a, len, cap, zss, rfl, ⟨hz1, fun hn => ⟨a, rfl, ?_, fun j z hz => (hz2 j z hz).1⟩⟩, by omega, fun z hz => ?_⟩
    · rw [hc] at hlt
      refine lt_of_row (m := (elems.length + rest.length) * 1) (j := 0) (fun x hx => hlt x (List.mem_append.2 (.inl hx))) (by omega)
    · obtain ⟨i, hi, rfl⟩ := List.getElem_of_mem hz
      exact (hz2 i _ (List.getElem?_eq_getElem hi)).2
theorem cellsRow : Try.prog.cellsOf 29 = 1 := by kernel_rfl

theorem szi_any (A : Option Addr) (n c : Nat) (L : Int) (hL : 0 ≤ L ∧ L ≤ 1048576) (hn : n ≤ maxLen) (w : World) :
    Calls Try.prog 33 #[.slice A n c, .int .i64 L] w fun e w' => e = .returned (.int .i64 (if L < n then -1 else L - n)) ∧ w = w' := by
  unfold maxLen at hn
  obtain ⟨hL1, hL2⟩ := hL
  by_cases hlt : L < n
  · rw [if_pos hlt]
    have h1 : L - (n : Int) < 0 := by omega
    go_enter Try.func33, Try.ntmps33
    go_wp2
    go_ret
    exact ⟨rfl, rfl⟩
  · rw [if_neg hlt]
    have h1 : ¬ L - (n : Int) < 0 := by omega
    go_enter Try.func33, Try.ntmps33
    go_wp2
    go_ret
    exact ⟨rfl, rfl⟩
/-- What szIntSS gives: what is left, or -1. -/
def szR (L : Int) (n : Nat) (zss : List (List Int)) : Int := if L < n + tot zss then -1 else L - n - tot zss
set_option maxHeartbeats 400000 in
theorem sziss_any (A : Option Addr) (n c B : Nat) (zss : List (List Int)) (L : Int) (hL : 0 ≤ L ∧ L ≤ 1048576) (w : World) (hr : ReadsS w B A n zss) (hn : n ≤ maxLen) (hz : ∀ z ∈ zss, z.length ≤ maxLen) :
    Calls Try.prog 10 #[.slice A n c, .int .i64 L] w fun e w' => e = .returned (.int .i64 (szR L n zss)) ∧ w = w' := by
  obtain ⟨r, hrr⟩ : ∃ r, szR L n zss = r := ⟨_, rfl⟩
  rw [hrr]
  have HR := hide hrr
  have HL := hide hr.len
  have HZ := hide hz
  unfold maxLen at hn
  obtain ⟨hL1, hL2⟩ := hL
  clear hrr hz
  by_cases hlt : L < n
  · obtain rfl : r = -1 := by
      rw [← unhide HR]
      unfold szR
      rw [if_pos (by omega)]
    have h1 : L - (n : Int) < 0 := by omega
    go_enter Try.func10, Try.ntmps10
    go_wp2
    go_ret
    exact ⟨rfl, rfl⟩
  · have h1 : ¬ L - (n : Int) < 0 := by omega
    go_enter Try.func10, Try.ntmps10
    go_wp2
    go_loop [1, 5] (fun lv i => ∃ (k : Nat) (l : Int), k ≤ n ∧ i = .int .i64 k ∧ lv = .int .i64 l ∧ 0 ≤ l ∧ l ≤ 1048576 ∧ Hid (l = L - n - tot (zss.take k))) (fun _ i => n - (intOf i).toNat)
    case atStart => exact ⟨0, L - n, Nat.zero_le _, rfl, by go_num, by omega, by omega, by exact (by simp [tot] : L - (n : Int) = L - n - tot (zss.take 0))⟩
    case round =>
      obtain ⟨k, l, hk, rfl, rfl, hl0, hl1, hle⟩ := hrel
      by_cases hlt2 : k < n
      · obtain ⟨ad, A1, c1, z, rfl, hzk, hcell, _⟩ := hr.at_ hlt2
        have hzl := unhide HZ z (List.mem_of_getElem? hzk)
        have hst := tot_step hzk
        have htk := tot_take zss (k + 1)
        have H1 := hide (szi_any A1 z.length c1 l ⟨hl0, hl1⟩ hzl w)
        by_cases hlt3 : l < z.length
        · rw [if_pos hlt3] at H1
          obtain rfl : r = -1 := by
            rw [← unhide HR]
            unfold szR
            have := unhide hle
            rw [if_pos (by omega)]
          clear hzk hzl hst htk hle
          go_wp2_with fail
          refine (unhide H1).mono ?_
          rintro e w' ⟨rfl, rfl⟩
          clear H1
          go_wp2
          go_ret
          exact ⟨rfl, rfl⟩
        · rw [if_neg hlt3] at H1
          have hnext : Hid (l - (z.length : Int) = L - n - tot (zss.take (k + 1))) := hide (by have := unhide hle; omega)
          have h0 : ¬ l - (z.length : Int) < 0 := by omega
          clear hzk hzl hst htk hle
          go_wp2_with fail
          refine (unhide H1).mono ?_
          rintro e w' ⟨rfl, rfl⟩
          clear H1
          go_wp2
          go_round
          case rel => exact ⟨k + 1, _, by omega, by go_num, rfl, by omega, by omega, hnext⟩
          case measure => simp [intOf]; omega
      · obtain rfl : n = k := by omega
        obtain rfl : r = l := by
          rw [← unhide HR]
          have := unhide hle
          rw [List.take_of_length_le (by rw [unhide HL]; exact Nat.le_refl _)] at this
          unfold szR
          rw [if_neg (by omega), this]
        clear hle
        go_wp2
        go_ret
        exact ⟨rfl, rfl⟩
set_option maxHeartbeats 400000 in
theorem toiss_any (A : Option Addr) (n c B : Nat) (zss : List (List Int)) (w : World) (hr : ReadsS w B A n zss) (hB : B ≤ w.heap.size) (hn : n ≤ 1048576) (hz : ∀ z ∈ zss, z.length ≤ 1048576) :
    Calls Try.prog 12 #[.slice A n c] w fun e w' => ∃ g, e = .returned (.slice (some ⟨g, 0, none⟩) n n) ∧ IntsS w' w.heap.size (.slice (some ⟨g, 0, none⟩) n n) zss ∧ Below w.heap.size w w' := by
  obtain ⟨i0, hi, hz0, hz1, hz2⟩ := info_parts rowsInfo1
  have HL := hide hr.len
  have HZ := hide hz
  clear hz
  go_enter Try.func12, Try.ntmps12
  go_wp2_with (first
    | (at_make; refine wpList_make_full _ rfl (.tmp 6) (.tmp 6) 22 rfl w.heap.size 29 i0 (.slice none 0 0) 1 Try.underlying22 hi hz0 hz1 _ _ _ _ n rfl rfl (by first | rfl | omega) (by first | rfl | omega) (by rw [hz2]; omega) (by unfold maxLen; omega) (Nat.le_refl _) ?_; intro w1 hown hg))
  have hF := Filled.start (zss := zss) (unhide HL) (Below.refl w.heap.size w) hown hg
  clear hown hg
  obtain ⟨g, hgw⟩ : ∃ g, g = w.heap.size := ⟨_, rfl⟩
  rw [← hgw] at hF ⊢
  clear hgw
  go_loopw [4] (fun i wr => ∃ k : Nat, k ≤ n ∧ i = .int .i64 k ∧ Filled w wr g n zss k) (fun i _ => n - (intOf i).toNat)
  case atStart => exact ⟨0, Nat.zero_le _, rfl, hF⟩
  case round =>
    obtain ⟨k, hk, rfl, hF⟩ := hrel
    by_cases hlt : k < n
    · obtain ⟨ad, A1, c1, z, rfl, hzk, hcell, hR⟩ := (hr.below (hF.below.mono hB)).at_ hlt
      have hzl := unhide HZ z (List.mem_of_getElem? hzk)
      have H1 := hide (toi_any A1 z.length c1 B z wr hR (Nat.le_trans hB hF.below.size) (by omega))
      have HF := hide hF
      have HZK := hide hzk
      clear hzk hR hzl hF
      go_wp2_with fail
      refine (unhide H1).mono ?_
      rintro e w3 ⟨rfl, o3, d3⟩
      obtain ⟨⟨old, hold⟩, hfz⟩ := (unhide HF).old d3 hlt
      have hF2 := (unhide HF).put (unhide HZK) d3 o3
      clear H1 d3 o3 HF HZK
      go_wp2
      go_roundw
      case rel => exact ⟨k + 1, by omega, by go_num, hF2⟩
      case measure => simp [intOf]; omega
    · obtain rfl : n = k := by omega
      obtain ⟨hbw, vs, hown, hin⟩ := hF
      have hfin : IntsS wr w.heap.size (.slice (some ⟨g, 0, none⟩) n n) zss := by
        have h1 := unhide HL
        subst h1
        rw [fillS_all] at hin
        exact ⟨vs, hown, hin⟩
      clear hown hin
      go_wp2
      go_ret
      exact ⟨g, rfl, hfin, hbw⟩
end Go.Proofs.Ytplchjeamooliaa


/-
  markIntSS turns its own rows alone: the frame of a change between two blocks.
-/

namespace Go.Proofs.Ytplchjeamooliaa
set_option maxRecDepth 100000
open Go.RowKit

/-- Nothing outside the blocks from B up to U has turned. -/
structure Turned (B U : Nat) (w w' : World) : Prop where
  os : w'.os = w.os
  tape : w'.tape = w.tape
  output : w'.output = w.output
  size : w.heap.size ≤ w'.heap.size
  block : ∀ i, i < w.heap.size → (i < B ∨ U ≤ i) → w'.heap[i]? = w.heap[i]?
theorem Turned.refl (B U : Nat) (w : World) : Turned B U w w := ⟨rfl, rfl, rfl, Nat.le_refl _, fun _ _ _ => rfl⟩
theorem Turned.grown {B U : Nat} {w0 w w' : World} {row : Option Nat} (h : Turned B U w0 w) (hg : w.grownBy w' row) (hr : ∀ k, row = some k → B ≤ k ∧ k < U) : Turned B U w0 w' :=
  ⟨hg.os.trans h.os, hg.tape.trans h.tape, hg.output.trans h.output, Nat.le_trans h.size hg.size, fun i hi ho =>
    (hg.block i (Nat.lt_of_lt_of_le hi h.size) (fun e => by have := hr i e.symm; omega)).trans (h.block i hi ho)⟩
theorem Turned.below {B U : Nat} {w w' : World} (h : Turned B U w w') (hB : B ≤ w.heap.size) : Below B w w' := ⟨h.os, h.tape, h.output, h.size, fun i hi => h.block i (by omega) (.inl hi)⟩
theorem Row.turned {B U B0 n : Nat} {w w' : World} {v : Value} {xs : List Value} (h : Row w B0 v n xs) (hk : ∀ k, v.ownBlock = some k → k < B ∨ U ≤ k) (ht : Turned B U w w') : Row w' B0 v n xs := by
  refine ⟨h.1, ?_⟩
  rcases h.2 with hn | ⟨g, cap, cur, e, rfl, hb, hgg, rest⟩
  · exact .inl hn
  · exact .inr ⟨g, cap, cur, e, rfl, hb, (ht.block g (Array.getElem?_eq_some_iff.1 hgg).1 (hk g rfl)).trans hgg, rest⟩
theorem own_turned {B U B0 n : Nat} {w w' : World} {e : TypeId} {v : Value} {xs : List Value} (h : w.ownsRow B0 e 1 v n xs) (hk : ∀ k, v.ownBlock = some k → k < B ∨ U ≤ k) (ht : Turned B U w w') : w'.ownsRow B0 e 1 v n xs := by
  refine ⟨h.1, ?_⟩
  rcases h.2 with hn | ⟨g, cap, cur, rfl, hb, hgg, rest⟩
  · exact .inl hn
  · exact .inr ⟨g, cap, cur, rfl, hb, (ht.block g (Array.getElem?_eq_some_iff.1 hgg).1 (hk g rfl)).trans hgg, rest⟩
theorem Ints.turnLow {B U B0 U0 : Nat} {w w' : World} {v : Value} {zs : List Int} (h : Ints w B0 v zs) (hu : Until U0 v) (ht : Turned B U w w') (hU : U0 ≤ B) : Ints w' B0 v zs := Row.turned h (fun k hk => .inl (Nat.lt_of_lt_of_le (hu k hk) hU)) ht
theorem Ints.turnHigh {B U B0 : Nat} {w w' : World} {v : Value} {zs : List Int} (h : Ints w B0 v zs) (ht : Turned B U w w') (hU : U ≤ B0) : Ints w' B0 v zs := Row.turned h (fun k hk => .inr (Nat.le_trans hU (h.since k hk))) ht
theorem Sealed.turnLow {B U B0 U0 : Nat} {w w' : World} {v : Value} {zss : List (List Int)} (h : Sealed w B0 U0 v zss) (ht : Turned B U w w') (hU : U0 ≤ B) : Sealed w' B0 U0 v zss := by
  obtain ⟨vs, h1, h2, h3, h4⟩ := h
  exact ⟨vs, own_turned h1 (fun k hk => .inl (Nat.lt_of_lt_of_le (h3 k hk) hU)) ht, ⟨h2.len, fun i u zs hu hz => (h2.row i u zs hu hz).turnLow (h4 u (List.mem_of_getElem? hu)) ht hU, h2.away⟩, h3, h4⟩
theorem Sealed.turnHigh {B U B0 U0 : Nat} {w w' : World} {v : Value} {zss : List (List Int)} (h : Sealed w B0 U0 v zss) (ht : Turned B U w w') (hU : U ≤ B0) : Sealed w' B0 U0 v zss := by
  obtain ⟨vs, h1, h2, h3, h4⟩ := h
  exact ⟨vs, own_turned h1 (fun k hk => .inr (Nat.le_trans hU (h1.lt k hk).1)) ht, ⟨h2.len, fun i u zs hu hz => (h2.row i u zs hu hz).turnHigh ht hU, h2.away⟩, h3, h4⟩
theorem Turned.trans {B U : Nat} {a b c : World} (h : Turned B U a b) (k : Turned B U b c) : Turned B U a c :=
  ⟨k.os.trans h.os, k.tape.trans h.tape, k.output.trans h.output, Nat.le_trans h.size k.size, fun i hi ho => (k.block i (Nat.lt_of_lt_of_le hi h.size) ho).trans (h.block i hi ho)⟩
theorem Turned.of_below {B U S : Nat} {w w' : World} (h : Below S w w') (hS : w.heap.size ≤ S) : Turned B U w w' := ⟨h.os, h.tape, h.output, h.size, fun i hi _ => h.block i (Nat.lt_of_lt_of_le hi hS)⟩
theorem Turned.of_grown {B U : Nat} {w w' : World} {row : Option Nat} (hg : w.grownBy w' row) (hr : ∀ k, row = some k → B ≤ k ∧ k < U) : Turned B U w w' := (Turned.refl B U w).grown hg hr
theorem Whole.turned {w w' : World} {g : Nat} {t : TypeId} {cs : Array Value} {B U : Nat} (h : Whole w g t cs) (ht : Turned B U w w') (hg : g < B ∨ U ≤ g) : Whole w' g t cs := (ht.block g h.lt hg).trans h
set_option maxHeartbeats 800000 in
/-- markIntSS at a list of rows of the call's own. -/
theorem markss_in (A : Option Addr) (n c B U k : Nat) (K : Int) (hK : K = (k : Int)) (zss : List (List Int)) (w : World) (h : Sealed w B U (.slice A n c) zss) (hkn : k + tot zss ≤ 1099511627776) (hn : n ≤ 1048576) :
    Calls Try.prog 17 #[.slice A n c, .int .i64 K] w fun e w' => e = .returned (.int .i64 (K + (tot zss : Int))) ∧ Sealed w' B U (.slice A n c) (mkS k zss) ∧ Turned B U w w' := by
  subst hK
  have hl := h.opened.len
  obtain ⟨vs, hown, hin, hV1, hV2⟩ := h
  rw [hl] at hown
  have HA := hide hin.away
  have HV := hide hin.len
  have HL := hide hl
  have HV1 := hide hV1
  have HV2 := hide hV2
  have hh := hide (Half.start k hin)
  clear hin hl hV1 hV2
  go_enter Try.func17, Try.ntmps17
  go_wp2
  go_loopw [1, 5] (fun kv i wr => ∃ j : Nat, j ≤ n ∧ kv = .int .i64 ((k + tot (zss.take j) : Nat) : Int) ∧ i = .int .i64 j ∧ Turned B U w wr ∧ wr.ownsRow B 29 1 (.slice A n c) n vs ∧ Hid (Half wr B vs k zss j)) (fun _ i _ => n - (intOf i).toNat)
  case atStart => exact ⟨0, Nat.zero_le _, rfl, rfl, Turned.refl _ _ _, hown, hh⟩
  case round =>
    obtain ⟨j, hj, rfl, rfl, hb, hown', hhf⟩ := hrel
    clear hown hh
    have htt := tot_take zss j
    by_cases hlt : j < n
    · obtain ⟨ad, u, rfl, _, hu, hc⟩ := (Reads.of_own_at hown').at_ hlt
      obtain ⟨zs, hz⟩ : ∃ zs, zss[j]? = some zs := ⟨_, List.getElem?_eq_getElem (by rw [unhide HL]; exact hlt)⟩
      have hts := tot_step hz
      have htt2 := tot_take zss (j + 1)
      have hI := unhide hhf j u zs hu hz
      rw [if_neg (by omega)] at hI
      have hun := unhide HV2 u (List.mem_of_getElem? hu)
      obtain ⟨A1, c1, rfl⟩ := hI.slice
      have H1 := hide (marki_at A1 zs.length c1 B (k + tot (zss.take j)) _ rfl zs wr hI (by omega))
      have hne := rows_apart hown' hI
      have hsi := hI.since
      have HU := hide hu
      have HZ := hide hz
      have HT := hide hts
      obtain ⟨t, ht⟩ : ∃ t, t = tot (zss.take j) := ⟨_, rfl⟩
      rw [← ht] at H1 HT htt ⊢
      have HTT := hide ht
      have hs0 : k + t + zs.length ≤ 1099511627776 := by have h1 := unhide HT; omega
      clear hu hz hts ht hI htt2
      go_wp2_with fail
      refine (unhide H1).mono ?_
      rintro e w2 ⟨rfl, hm, hg⟩
      have hb2 := hb.grown hg (fun q hq => ⟨hsi q hq, hun q hq⟩)
      have hown2 := World.ownsRow.kept hown' hg hne
      have hh2 := hide (Half.step (unhide hhf) (unhide HA) (unhide HU) (unhide HZ) (by rw [← unhide HTT]; exact hm) hg)
      clear H1 hown' hb hm hg hne hhf
      go_wp2
      go_roundw
      case rel => exact ⟨j + 1, by omega, by rw [unhide HT]; go_num, by go_num, hb2, hown2, hh2⟩
      case measure => simp [intOf]; omega
    · obtain rfl : n = j := by omega
      have e : zss.take n = zss := List.take_of_length_le (by rw [unhide HL]; exact Nat.le_refl _)
      rw [e]
      have hdn : Inner wr B vs (mkS k zss) := Half.done (by rw [unhide HL]; exact unhide hhf) (unhide HV) (unhide HA)
      have hI : Sealed wr B U (.slice A n c) (mkS k zss) := ⟨vs, by rw [mkS_length, unhide HL]; exact hown', hdn, unhide HV1, unhide HV2⟩
      clear hown' hhf hdn e
      go_wp2
      go_ret
      exact ⟨ret_int (by omega), hI, hb⟩
theorem small_of_tot {p : List (List Int)} (h : p.length + tot p ≤ 1048576) (hs : ∀ z ∈ p, z.length ≤ maxLen ∧ Small z) : ∀ z ∈ p, z.length ≤ 1048576 ∧ Small z := fun z hz => by
  obtain ⟨i, hi, rfl⟩ := List.getElem_of_mem hz
  have := tot_at (List.getElem?_eq_getElem hi)
  exact ⟨by omega, (hs _ hz).2⟩
end Go.Proofs.Ytplchjeamooliaa


/-
  spec.FormatInt, by its contract: the decimal numeral.
-/

namespace Go.Proofs.Ytplchjeamooliaa
set_option maxRecDepth 100000
open Go.RowKit

/-- What is still to be written of m, ahead of l. -/
def decR (m : Nat) (l : List UInt8) : List UInt8 := if m = 0 then l else Lib.decDigits m ++ l
theorem decR_step {m : Nat} (h : m ≠ 0) (l : List UInt8) : decR m l = decR (m / 10) (UInt8.ofNat (48 + m % 10) :: l) := by
  unfold decR
  rw [if_neg h]
  by_cases h10 : m < 10
  · rw [if_pos (by omega), Lib.decDigits_one h10, Nat.mod_eq_of_lt h10]; rfl
  · rw [if_neg (by omega)]
    rw [Lib.decDigits, dif_neg h10, List.append_assoc]; rfl

theorem cv_one {P : Program} {src dst e : TypeId} (hs : P.underlying src = some (.slice e)) (he : P.underlying e = some (.int .u8)) (hd : P.underlying dst = some .string) (W : World) (x : Int) :
    (convert src dst (.slice (some ⟨W.heap.size, 0, none⟩) 1 1)).run P (W.alloc (.cells #[.int .u8 x] e)) = .ok (.string ⟨#[UInt8.ofNat x.toNat]⟩) (W.alloc (.cells #[.int .u8 x] e)) := by
  rw [run_convert_bytes_string _ src dst e _ 1 1 hs he hd]
  have h := run_bytesToString (P := P) (W.alloc (.cells #[.int .u8 x] e)) ⟨W.heap.size, 0, none⟩ 1 1 [x] (by rw [show (1 : Nat) = ([Value.int .u8 x] : List Value).length from rfl]; exact run_loadCells_list (P := P) _ _ [Value.int .u8 x] (fun j v hj => by
    match j, hj with
    | 0, hj => simp at hj; subst hj; simp [Addr.add]))
  exact h

theorem one_app {b b' : UInt8} (l : List UInt8) (h : b = b') : Value.string (⟨#[b]⟩ ++ ⟨l.toArray⟩) = .string ⟨(b' :: l).toArray⟩ := by
  subst h
  congr 1
theorem neg_rem {m : Int} (h : m ≤ 0) : m.tmod 10 = -((m.natAbs % 10 : Nat) : Int) := by
  obtain ⟨u, rfl⟩ : ∃ u : Nat, m = -(u : Int) := ⟨m.natAbs, by omega⟩
  rw [Int.neg_tmod, Int.natAbs_neg, Int.natAbs_natCast]; rfl
theorem neg_quo {m : Int} (h : m ≤ 0) : m.tdiv 10 = -((m.natAbs / 10 : Nat) : Int) := by
  obtain ⟨u, rfl⟩ : ∃ u : Nat, m = -(u : Int) := ⟨m.natAbs, by omega⟩
  rw [Int.neg_tdiv, Int.natAbs_neg, Int.natAbs_natCast]; rfl
theorem left_short {m n : Int} {l : List UInt8} (h0 : -9223372036854775808 ≤ n) (h1 : n ≤ 9223372036854775807) (h : decR m.natAbs l = Lib.decDigits n.natAbs) : l.length ≤ 21 := by
  have h2 := Lib.itoa_length_le n h0 h1
  have h3 : (Lib.decDigits n.natAbs).length ≤ (Lib.itoa n).length := by
    unfold Lib.itoa
    by_cases hn : n < 0
    · rw [if_pos hn]; simp
    · rw [if_neg hn, show n.natAbs = n.toNat from by omega]; exact Nat.le_refl _
  have h4 : l.length ≤ (decR m.natAbs l).length := by
    unfold decR
    split <;> simp
  rw [h] at h4
  omega

set_option maxRecDepth 100000 in
set_option maxHeartbeats 1600000 in
theorem sfmt_any (n : Int) (h0 : -9223372036854775808 ≤ n) (h1 : n ≤ 9223372036854775807) (w : World) :
    Calls Try.prog 79 #[.int .i64 n] w fun e w' => e = .returned (.string ⟨(Lib.itoa n).toArray⟩) ∧ Below w.heap.size w w' := by
  by_cases hz : n = 0
  · subst hz
    go_enter Try.func79, Try.ntmps79
    go_wp2
    go_ret
    exact ⟨ret_str (by rw [show Lib.itoa 0 = [48] from by rw [Lib.itoa, if_neg (by omega)]; exact Lib.decDigits_one (by omega)]), Below.refl _ _⟩
  · by_cases hneg : n < 0
    · go_enter Try.func79, Try.ntmps79
      go_wp2
      go_loopw [0, 4] (fun nv o wr => ∃ (m : Int) (l : List UInt8), nv = .int .i64 m ∧ o = .string ⟨l.toArray⟩ ∧ m ≤ 0 ∧ -9223372036854775808 ≤ m ∧ Below w.heap.size w wr ∧ Hid (decR m.natAbs l = Lib.decDigits n.natAbs)) (fun nv _ _ => (intOf nv).natAbs)
      case atStart => exact ⟨n, [], rfl, rfl, by omega, h0, Below.refl _ _, by unfold Hid decR; rw [if_neg (by omega), List.append_nil]⟩
      case round =>
        obtain ⟨m, l, rfl, rfl, hm0, hm1, hb, hd⟩ := hrel
        by_cases hmz : m = 0
        · subst hmz
          have hl := left_short h0 h1 (unhide hd)
          have HI := hide (show Lib.itoa n = 45 :: l by
            have h := unhide hd
            simp only [decR, Int.natAbs_zero, if_true] at h
            rw [Lib.itoa, if_pos hneg, ← h])
          clear hd h0 h1
          go_wp2
          go_ret
          exact ⟨by rw [unhide HI]; exact congrArg Ending.returned (one_app l rfl), hb⟩
        · have hR := neg_rem hm0
          have hA : -10 < m.tmod 10 := by omega
          have hB : m.tmod 10 ≤ 0 := by omega
          have hl := left_short h0 h1 (unhide hd)
          have HM := hide hR
          have HQ := hide (neg_quo hm0)
          have hq0 : m.tdiv 10 ≤ 0 := by rw [unhide HQ]; omega
          have hq1 : -9223372036854775808 ≤ m.tdiv 10 := by rw [unhide HQ]; omega
          have hst := hide (show decR (m.tdiv 10).natAbs (UInt8.ofNat (48 + m.natAbs % 10) :: l) = Lib.decDigits n.natAbs by
            rw [← unhide hd, decR_step (m := m.natAbs) (by omega) l, neg_quo hm0, Int.natAbs_neg, Int.natAbs_natCast])
          have hms := hide (show (m.tdiv 10).natAbs < m.natAbs by rw [neg_quo hm0]; omega)
          clear hR h0 h1
          have hcv := cv_one (P := Try.prog) Try.underlying68 Try.underlying5 Try.underlying9 wr
          go_wp2
          all_goals go_roundw
          case measure => exact unhide hms
          case measure => exact unhide hms
          case rel => exact ⟨_, _, rfl, one_app l (congrArg UInt8.ofNat (by have := unhide HM; omega)), hq0, hq1, hb.alloc hb.size _, hst⟩
          case rel => exact ⟨_, _, rfl, one_app l (congrArg UInt8.ofNat (by have := unhide HM; omega)), hq0, hq1, hb.alloc hb.size _, hst⟩
    · go_enter Try.func79, Try.ntmps79
      go_wp2
      go_loopw [0, 4] (fun nv o wr => ∃ (m : Int) (l : List UInt8), nv = .int .i64 m ∧ o = .string ⟨l.toArray⟩ ∧ 0 ≤ m ∧ m ≤ 9223372036854775807 ∧ Below w.heap.size w wr ∧ Hid (decR m.natAbs l = Lib.decDigits n.natAbs)) (fun nv _ _ => (intOf nv).natAbs)
      case atStart => exact ⟨n, [], rfl, rfl, by omega, h1, Below.refl _ _, by unfold Hid decR; rw [if_neg (by omega), List.append_nil]⟩
      case round =>
        obtain ⟨m, l, rfl, rfl, hm0, hm1, hb, hd⟩ := hrel
        by_cases hmz : m = 0
        · subst hmz
          have hl := left_short h0 h1 (unhide hd)
          have HI := hide (show Lib.itoa n = l by
            have h := unhide hd
            simp only [decR, Int.natAbs_zero, if_true] at h
            rw [Lib.itoa, if_neg (by omega), show n.toNat = n.natAbs from by omega, ← h])
          clear hd h0 h1
          go_wp2
          go_ret
          exact ⟨by rw [unhide HI]; rfl, hb⟩
        · have hA : 0 ≤ m % 10 := by omega
          have hB : m % 10 < 10 := by omega
          have hl := left_short h0 h1 (unhide hd)
          have HM := hide (show m % 10 = ((m.natAbs % 10 : Nat) : Int) by omega)
          have hq0 : 0 ≤ m / 10 := by omega
          have hq1 : m / 10 ≤ 9223372036854775807 := by omega
          have hst := hide (show decR (m / 10).natAbs (UInt8.ofNat (48 + m.natAbs % 10) :: l) = Lib.decDigits n.natAbs by
            rw [← unhide hd, decR_step (m := m.natAbs) (by omega) l]; congr 1; omega)
          have hms := hide (show (m / 10).natAbs < m.natAbs by omega)
          clear h0 h1
          have hcv := cv_one (P := Try.prog) Try.underlying68 Try.underlying5 Try.underlying9 wr
          go_wp2
          go_roundw
          case measure => exact unhide hms
          case rel => exact ⟨_, _, rfl, one_app l (congrArg UInt8.ofNat (by have := unhide HM; omega)), hq0, hq1, hb.alloc hb.size _, hst⟩

end Go.Proofs.Ytplchjeamooliaa


/-
  spec.PermText and impl.PermText, by their contracts.
-/

namespace Go.Proofs.Ytplchjeamooliaa
set_option maxRecDepth 100000
open Go.RowKit

theorem cat_list (a b : List UInt8) : (⟨a.toArray⟩ ++ ⟨b.toArray⟩ : ByteArray) = ⟨(a ++ b).toArray⟩ := by
  refine ByteArray.ext ?_
  simp
theorem fmt1_any (z : Int) (h0 : 1 ≤ z) (h1 : z ≤ 8) (w : World) :
    Calls Try.prog 79 #[.int .i64 z] w fun e w' => e = .returned (.string ⟨[dgt z].toArray⟩) ∧ Below w.heap.size w w' := by
  have h := sfmt_any z (by omega) (by omega) w
  rw [itoa_one h0 h1] at h
  exact h
theorem str_eq {a b : ByteArray} (h : a = b) : Value.string a = .string b := by rw [h]

set_option maxHeartbeats 800000 in
theorem stext_any (A : Option Addr) (n c B : Nat) (zs : List Int) (w : World) (h : Arg w B A n c zs) :
    Calls Try.prog 54 #[.slice A n c] w (GivesS w (ptext zs)) := by
  obtain ⟨bp, hp⟩ : ∃ b, isP zs = b := ⟨_, rfl⟩
  have H1 := hide (sisperm_any A n c B zs bp hp w h.reads h.le h.cap)
  have hl := h.len
  cases bp with
  | false =>
    rw [ptext_no hp]
    clear hp h hl
    go_enter Try.func54, Try.ntmps54
    go_wp2_with fail
    refine (unhide H1).mono ?_
    rintro e w1 ⟨rfl, hd⟩
    have hb := hd.below w.heap.size
    clear hd H1
    go_wp2
    go_ret
    exact ⟨rfl, hb⟩
  | true =>
    by_cases h0 : n = 0
    · subst h0
      rw [ptext_nil hp hl]
      clear hp h hl
      go_enter Try.func54, Try.ntmps54
      go_wp2_with fail
      refine (unhide H1).mono ?_
      rintro e w1 ⟨rfl, hd⟩
      have hb := hd.below w.heap.size
      clear hd H1
      go_wp2
      go_ret
      exact ⟨rfl, hb⟩
    · rw [ptext_yes hp (by omega)]
      have hr := h.reads
      have hB := h.under
      have hn8 : n ≤ 8 := by have := isP_le hp; omega
      have HP := hide (fun k z hz => isP_range hp (k := k) (z := z) hz)
      have HL := hide hl
      have h0' : ((n : Int) == 0) = false := by simp; omega
      clear hp h hl
      go_enter Try.func54, Try.ntmps54
      go_wp2_with fail
      refine (unhide H1).mono ?_
      rintro e w1 ⟨rfl, hd⟩
      have hb1 := hd.below w.heap.size
      clear hd H1
      go_wp2
      go_loopw [3, 4] (fun o i wr => ∃ k : Nat, k ≤ n ∧ i = .int .i64 k ∧ o = .string ⟨(textL (zs.take k)).toArray⟩ ∧ Below w.heap.size w wr) (fun _ i _ => n - (intOf i).toNat)
      case atStart => exact ⟨0, Nat.zero_le _, rfl, rfl, hb1⟩
      case round =>
        obtain ⟨k, hk, rfl, rfl, hb⟩ := hrel
        clear hb1
        have htl : (textL (zs.take k)).length ≤ 8 := by rw [textL_length]; have := List.length_take_le k zs; omega
        by_cases hlt : k < n
        · obtain ⟨ad, u, rfl, had, hu, hc⟩ := ((hr.more hB).below hb).at_ hlt
          obtain ⟨z, hz, rfl⟩ := i64_at hu
          obtain ⟨hz1, hz2⟩ := unhide HP k z hz
          rw [unhide HL] at hz2
          have H2 := hide (fmt1_any z hz1 (by omega) wr)
          have hstep := hide (textL_step hz)
          clear hu hz
          go_wp2_with fail
          refine (unhide H2).mono ?_
          rintro e w2 ⟨rfl, hb2⟩
          have hb3 := below_after hb hb2
          clear H2 hb2 hb
          go_wp2
          go_roundw
          case rel => exact ⟨k + 1, by omega, by go_num, str_eq (by rw [unhide hstep, ← cat_list]), hb3⟩
          case measure => simp [intOf]; omega
        · obtain rfl : n = k := by omega
          have e : zs.take n = zs := List.take_of_length_le (by rw [unhide HL]; exact Nat.le_refl _)
          rw [e] at htl ⊢
          clear e
          go_wp2
          go_ret
          exact ⟨rfl, hb⟩

theorem byteInfo : (Try.prog.info? 5).map (fun i => (i.zero, i.size, i.bytes)) = some (some (.int .u8 0), 1, 1) := by kernel_rfl
def u8c (ns : List Int) : List Value := ns.map (Value.int .u8)
theorem cv_row {P : Program} {src dst e : TypeId} (hs : P.underlying src = some (.slice e)) (he : P.underlying e = some (.int .u8)) (hd : P.underlying dst = some .string) (w : World) (B g n c : Nat) (t : TypeId) (ns : List Int)
    (hown : w.ownsRow B t 1 (.slice (some ⟨g, 0, none⟩) n c) n (u8c ns)) :
    (convert src dst (.slice (some ⟨g, 0, none⟩) n c)).run P w = .ok (.string ⟨(ns.map fun n => UInt8.ofNat n.toNat).toArray⟩) w := by
  rw [run_convert_bytes_string _ src dst e _ n c hs he hd]
  have hn : n = (u8c ns).length := by have := hown.1; omega
  have h := run_bytesToString (P := P) w ⟨g, 0, none⟩ n c ns (by
    have := run_loadCells_list (P := P) (w := w) ⟨g, 0, none⟩ (u8c ns) (fun j v hj => hown.cells (g := g) rfl j v hj)
    rwa [← hn] at this)
  rw [push_list] at h
  simpa using h

set_option maxHeartbeats 800000 in
theorem itext_any (A : Option Addr) (n c B : Nat) (zs : List Int) (w : World) (h : Arg w B A n c zs) :
    Calls Try.prog 56 #[.slice A n c] w (GivesS w (ptext zs)) := by
  obtain ⟨bp, hp⟩ : ∃ b, isP zs = b := ⟨_, rfl⟩
  have H1 := hide (iisperm_any A n c B zs bp hp w h.reads h.under h.le h.small)
  have hl := h.len
  cases bp with
  | false =>
    rw [ptext_no hp]
    clear hp h hl
    go_enter Try.func56, Try.ntmps56
    go_wp2_with fail
    refine (unhide H1).mono ?_
    rintro e w1 ⟨rfl, hb⟩
    clear H1
    go_wp2
    go_ret
    exact ⟨rfl, hb⟩
  | true =>
    by_cases h0 : n = 0
    · subst h0
      rw [ptext_nil hp hl]
      clear hp h hl
      go_enter Try.func56, Try.ntmps56
      go_wp2_with fail
      refine (unhide H1).mono ?_
      rintro e w1 ⟨rfl, hb⟩
      clear H1
      go_wp2
      go_ret
      exact ⟨rfl, hb⟩
    · rw [ptext_yes hp (by omega)]
      obtain ⟨i0, hi, hz0, hz1, hz2⟩ := info_parts byteInfo
      have hr := h.reads
      have hB := h.under
      have hn8 : n ≤ 8 := by have := isP_le hp; omega
      have HP := hide (fun k z hz => isP_range hp (k := k) (z := z) hz)
      have HT := hide (textI_bytes (l := zs) (fun z hz => by have := (isP_true.1 hp).2.1 z hz; omega))
      have HL := hide hl
      have h0' : ((n : Int) == 0) = false := by simp; omega
      clear hp h hl
      go_enter Try.func56, Try.ntmps56
      go_wp2_with fail
      refine (unhide H1).mono ?_
      rintro e w0 ⟨rfl, hb0⟩
      have hs0 := hb0.size
      clear H1
      go_wp2_with (first
        | (at_make; refine wpList_make_full _ rfl (.tmp 13) (.tmp 13) 68 rfl w.heap.size 5 i0 (.int .u8 0) 1 Try.underlying68 hi hz0 hz1 _ _ _ _ n rfl rfl (by first | rfl | omega) (by first | rfl | omega) (by rw [hz2]; omega) (by unfold maxLen; omega) hs0 ?_; intro w1 hown hg))
      have hb1 := hb0.grown hg hs0 (by simp)
      clear hg hb0
      obtain ⟨g, hg⟩ : ∃ g, g = w0.heap.size := ⟨_, rfl⟩
      rw [← hg] at hown ⊢
      clear hg hs0
      go_loopw [4, 5, 17] (fun _ _ i wr => ∃ (k : Nat) (xs : List Value), k ≤ n ∧ i = .int .i64 k ∧ Below w.heap.size w wr ∧ wr.ownsRow w.heap.size 5 1 (.slice (some ⟨g, 0, none⟩) n n) n xs ∧ Hid (xs.take k = (u8c (textI zs)).take k)) (fun _ _ i _ => n - (intOf i).toNat)
      case atStart => exact ⟨0, _, Nat.zero_le _, rfl, hb1, hown, by exact rfl⟩
      case round =>
        obtain ⟨k, xs, hk, rfl, hb, hown', hx⟩ := hrel
        clear hown hb1
        have hlx : xs.length = n := by simpa using hown'.1
        by_cases hlt : k < n
        · obtain ⟨ad, u, rfl, had, hu, hc⟩ := ((hr.more hB).below hb).at_ hlt
          obtain ⟨z, hz, rfl⟩ := i64_at hu
          obtain ⟨hz1', hz2'⟩ := unhide HP k z hz
          rw [unhide HL] at hz2'
          have hz8 : z ≤ 8 := by omega
          obtain ⟨old, hold⟩ : ∃ old, wr.cell? ⟨g, k, none⟩ = some old := ⟨_, by rw [hown'.cellAt k (by omega)]; exact List.getElem?_eq_getElem (by omega)⟩
          have hfz := hown'.frozenAt k
          have hst := hide (take_set_i (u := .int .u8 (48 + z)) (unhide hx) (by unfold u8c; rw [List.getElem?_map, textI_at hz]; rfl) (by omega))
          have ho2 := (hown'.stored k (.int .u8 (48 + z))).1
          have hb2 := below_set_i hb hown' k (.int .u8 (48 + z))
          clear hx hlx hu hz hown' hb
          go_wp2
          go_roundw
          case rel => exact ⟨k + 1, _, by omega, by go_num, hb2, ho2, hst⟩
          case measure => simp [intOf]; omega
        · obtain rfl : n = k := by omega
          have : xs = u8c (textI zs) := by
            have h := unhide hx
            have h2 : (u8c (textI zs)).length = n := by unfold u8c; rw [List.length_map, textI_length, unhide HL]
            rwa [List.take_of_length_le (by omega), List.take_of_length_le (by omega)] at h
          subst this
          have hcv := cv_row (P := Try.prog) Try.underlying68 Try.underlying5 Try.underlying9 wr w.heap.size g n n 5 (textI zs) hown'
          rw [unhide HT] at hcv
          clear hx hlx hown'
          go_wp2
          go_ret
          exact ⟨rfl, hb⟩
end Go.Proofs.Ytplchjeamooliaa


/-
  Maps whose keys are the texts of permutations: what such a map holds, a look-up, a store.
-/

namespace Go.Proofs.Ytplchjeamooliaa
set_option maxRecDepth 100000
open Go.RowKit Go.Maps

theorem strLawT : Keyed Try.prog 9 := string_keyed Try.underlying9
theorem boolZeroT (w : World) : (zeroValue 4).run Try.prog w = .ok (.bool false) w := by kernel_rfl
theorem ptext_max (p : List Int) : (ptext p).size ≤ maxLen := by have := ptext_size p; unfold maxLen; omega
theorem keyT (p : List Int) : keyOf Try.prog 9 (.string (ptext p)) = some (.string (ptext p).data.toList) := WideMaps.keyOf_string_mk Try.underlying9 (ptext_max p)
theorem keyT_inj {p q : List Int} (hp : isP p = true) (hq : isP q = true) (h : Lit.string (ptext p).data.toList = Lit.string (ptext q).data.toList) : p = q := by
  refine ptext_inj hp hq ?_
  injection h with h
  have h1 : (ptext p).data = (ptext q).data := Array.toList_inj.1 h
  cases h2 : ptext p; cases h3 : ptext q
  rw [h2, h3] at h1
  simp only at h1
  rw [h1]
/-- Block b is a map of at most m entries; of the permutations it has the texts of just those in S. -/
def PSet (w : World) (b m : Nat) (S : List (List Int)) : Prop :=
  ∃ D : DataW Unit, w.ownsMap Try.prog 9 (plainElem Try.prog 4) b m D ∧
    ∀ p, isP p = true → D.atKey (.string (ptext p).data.toList) (.lit (.bool false)) = .lit (.bool (decide (p ∈ S)))
section
variable {w w' : World} {b m : Nat} {S R : List (List Int)}
theorem PSet.lt (h : PSet w b m S) : b < w.heap.size := by
  obtain ⟨D, h, _⟩ := h
  exact h.lt
theorem PSet.kept {row : Option Nat} (h : PSet w b m S) (hg : w.grownBy w' row) (hne : some b ≠ row) : PSet w' b m S := by
  obtain ⟨D, h1, h2⟩ := h
  exact ⟨D, h1.kept hg hne, h2⟩
theorem PSet.later (h : PSet w b m S) (hb : Below w.heap.size w w') : PSet w' b m S := h.kept (grown_of_below hb none) (by simp)
theorem PSet.drew (h : PSet w b m S) : PSet w.drew b m S := h
theorem PSet.alloc (h : PSet w b m S) (o : Obj) : PSet (w.alloc o) b m S := h.kept (World.grownBy_alloc w o none) (by simp)
theorem PSet.mem (h : PSet w b m S) (hS : ∀ p, isP p = true → (p ∈ S ↔ p ∈ R)) : PSet w b m R := by
  obtain ⟨D, h1, h2⟩ := h
  refine ⟨D, h1, fun p hp => ?_⟩
  rw [h2 p hp]
  have : decide (p ∈ S) = decide (p ∈ R) := by rw [decide_eq_decide]; exact hS p hp
  rw [this]
theorem PSet.mono (h : PSet w b m S) {m' : Nat} (hm : m ≤ m') : PSet w b m' S := by
  obtain ⟨D, h1, h2⟩ := h
  exact ⟨D, h1.mono hm, h2⟩
theorem PSet.new (w : World) : PSet (w.alloc (.map #[] 0)) w.heap.size 0 [] := by
  refine ⟨.map [], World.ownsMap_made w _ _ _, fun p _ => ?_⟩
  rw [atKey_of_not_has (by rfl)]
  simp
theorem bool_invT {v : Value} {c : Bool} {ps : List MemPlace} (h : plainElem (H := Unit) Try.prog 4 v = some (.lit (.bool c), ps)) : v = .bool c := by
  unfold plainElem at h
  rw [Try.underlying4] at h
  cases v <;> simp at h
  rw [h.1]
theorem PSet.lookup (h : PSet w b m S) {p : List Int} (hp : isP p = true) :
    (Instr.lookup 52 (.map (some b)) (.string (ptext p)) false).run Try.prog w = .ok (.bool (decide (p ∈ S))) w := by
  obtain ⟨D, h1, h2⟩ := h
  obtain ⟨v, ps, hrun, hv⟩ := h1.lookup strLawT Try.underlying52 (boolZeroT w) (plainElem_bool Try.underlying4 false) (keyT p)
  rw [h2 p hp] at hv
  rw [hrun, bool_invT hv]
theorem PSet.store (h : PSet w b m S) (hm : m < maxLen) {p : List Int} (hp : isP p = true) :
    ∃ w', (Instr.mapUpdate 52 (.map (some b)) (.string (ptext p)) (.bool true)).run Try.prog w = .ok () w' ∧ PSet w' b (m + 1) (S ++ [p]) ∧ w.grownBy w' (some b) := by
  obtain ⟨D, h1, h2⟩ := h
  obtain ⟨w', hrun, ho, hg⟩ := h1.update strLawT Try.underlying52 hm (keyT p) (plainElem_bool Try.underlying4 true)
  refine ⟨w', hrun, ⟨_, ho, fun q hq => ?_⟩, hg⟩
  by_cases e : q = p
  · subst e
    rw [atKey_put_same h1.isMap (strLawT.key (keyT q))]
    simp
  · rw [atKey_put_other (fun h3 => e (keyT_inj hq hp h3)), h2 q hq]
    have : decide (q ∈ S) = decide (q ∈ S ++ [p]) := by
      rw [decide_eq_decide, List.mem_append, List.mem_singleton]
      exact ⟨.inl, fun h => h.elim id (fun h => absurd h e)⟩
    rw [this]
/-- The map alone has turned: lists are as they were. -/
theorem PSet.keepI (h : PSet w b m S) (hg : w.grownBy w' (some b)) : KeepI w w' :=
  ⟨hg.os, hg.tape, hg.output, hg.size, fun i cur e fr hi _ => hg.block i (Array.getElem?_eq_some_iff.1 hi).1 (fun e2 => by
    obtain ⟨D, ⟨es, clock, hb, _⟩, _⟩ := h
    injection e2 with e2
    subst e2
    rw [hi] at hb
    cases hb)⟩
theorem PSet.own (h : PSet w b m S) (hg : w.grownBy w' (some b)) {B n : Nat} {e : TypeId} {v : Value} {xs : List Value} (ho : w.ownsRow B e 1 v n xs) : w'.ownsRow B e 1 v n xs := by
  refine ho.kept hg ?_
  rcases ho.2 with ⟨rfl, _⟩ | ⟨g, cap, cur, rfl, _, hgg, _⟩
  · exact .inl rfl
  · refine .inr fun e2 => ?_
    obtain ⟨D, ⟨es, clock, hb, _⟩, _⟩ := h
    simp [Value.ownBlock] at e2
    subst e2
    rw [hgg] at hb
    cases hb
theorem PSet.rows (h : PSet w b m S) (hg : w.grownBy w' (some b)) {B : Nat} {v : Value} {zss : List (List Int)} (ho : IntsS w B v zss) : IntsS w' B v zss := by
  obtain ⟨vs, h1, h2⟩ := ho
  exact ⟨vs, h.own hg h1, h2.keepI (h.keepI hg)⟩
end
end Go.Proofs.Ytplchjeamooliaa


/-
  impl.PatternsIn: the patterns of all choices, in order.
-/

namespace Go.Proofs.Ytplchjeamooliaa
set_option maxRecDepth 100000
open Go.RowKit Go.Shelf
attribute [local go_sem] Oper.semAt_some

/-- 'list = append(list, row)' as a step of a region inside a fence: row was made since world w0. -/
theorem opIn_push_row {F : Fence} {nF : Nat} {o : Oper} {a : Act} {W : World} {K : Act → World → Prop} {Q : Exit → Act → World → Prop} (sl x : Operand)
    (ho : o.op = .call { callee := .builtin .append, args := #[sl, x], argTypes := #[22, 22] })
    (base : Nat) (w0 wr : World) (v u : Value) (zss : List (List Int)) (zs : List Int) (hs : a.eval sl = v) (hx : a.eval x = .slice (some ⟨wr.heap.size, 0, none⟩) 1 1) (hW : W = wr.alloc (.cells #[u] 29))
    (hS : IntsS w0 base v zss) (hb0 : Below w0.heap.size w0 wr) (hu : Ints wr w0.heap.size u zs) (hn : zss.length ≤ 1048576) (hbase : base ≤ w0.heap.size)
    (hK : ∀ v' w', IntsS w' base v' (zss ++ [zs]) → Below base wr w' → K (a.put o.dst v') w') : o.wpIn F nF Try.prog a W K Q := by
  obtain ⟨i0, hi, hz0, hz1, hz2⟩ := info_parts rowsInfo
  obtain ⟨vs, hown, hin⟩ := hS
  have hown1 := own_below hown hb0
  have hal := (Below.refl wr.heap.size wr).alloc (Nat.le_refl _) (.cells #[u] 29)
  have hown2 := own_below hown1 hal
  obtain ⟨A1, c1, rfl⟩ := hu.slice
  subst hW
  obtain ⟨v', w', hrun, h1, h2, _, _⟩ := run_append_own_at (P := Try.prog) (wr.alloc (.cells #[.slice A1 zs.length c1] 29)) base 22 o.type 29 i0 (.slice none 0 0) 1 24 Try.underlying22 hi hz0 hz1 hz2 rfl (by decide) v _ _ hown2 ⟨wr.heap.size, 0, none⟩ 1 1 [.slice A1 zs.length c1] rfl
    (by
      intro j u hj
      match j, hj with
      | 0, hj => simp at hj; subst hj; simp [Addr.add])
    (by
      intro y hy
      obtain rfl := List.mem_singleton.1 hy
      rfl) (by unfold maxLen; omega) (by omega) (by simp; have := hb0.size; omega)
  have hk := (KeepI.of_below hal).trans (KeepI.of_grown hown2 h2)
  have hfin := hK v' w' ⟨vs ++ [.slice A1 zs.length c1], by rw [List.length_append]; exact h1, ((hin.keepI (KeepI.of_below hb0)).keepI hk).push ((hu.low hbase).keepI hk) (hin.away_new hu.since (Nat.le_refl _))⟩
    (((Below.refl base wr).alloc (Nat.le_trans hbase hb0.size) _).grown h2 (by simp; have := hb0.size; omega) (fun k hk => (hown.lt k hk).1))
  unfold Oper.wpIn
  refine ⟨by simp [Oper.about, ho, resolve, Target.leads, Sem.run_pure], ?_⟩
  rw [Oper.semAt_plain F _ _ (by rw [ho]; intro c hc'; cases hc')]
  simp [execOp, ho, resolve, invoke, builtin, hs, hx, hrun, Result.andThen]
  exact hfin

set_option maxRecDepth 100000 in
set_option maxHeartbeats 4000000 in
theorem pats_yes (A : Option Addr) (n c B kk : Nat) (p : List Int) (w : World) (h : Arg w B A n c p) (hp : isP p = true) (hkn : kk ≤ n) :
    Calls Try.prog 98 #[.slice A n c, .int .i64 kk] w (GivesSS w (patsR p kk)) := by
  have hn8 : n ≤ 8 := by have := isP_le hp; have := h.len; omega
  have hBu := h.under
  have hlp := h.len
  have hb0 : Below w.heap.size w (w.alloc (.cells #[.slice A n c] 29)) := (Below.refl _ w).alloc (Nat.le_refl _) _
  have hc0 : Boxed (w.alloc (.cells #[.slice A n c] 29)) w.heap.size 29 (.slice A n c) := Boxed.new w _ _
  have hcell0 := hc0.cell
  have H1 := hide (iisperm_any A n c B p true hp _ (h.below hb0).reads (h.below hb0).under h.le h.small)
  have HC := hide (fun w' => icho_any n kk w')
  have hk0 : ¬ ((kk : Int) < 0) := by omega
  have hk1 : ¬ ((n : Int) < (kk : Int)) := by omega
  have hd0 : decide ((kk : Int) < 0) = false := decide_eq_false hk0
  have hd2 : decide (n < kk) = false := decide_eq_false (by omega)
  have HH := hide h
  have HPATS := hide (pats_ordR hp (show kk ≤ p.length by omega))
  have HP := hide hp
  refine (callsIn_wide (n := 4)).1 ?_
  refine callsIn_of_wp_marks Try.func98 rfl trivial ?_ rfl
  simp only [Try.ntmps98, List.size_toArray, List.length_cons, List.length_nil, Nat.reduceAdd, Nat.reduceSub, Array.replicate_succ, Array.replicate_zero, List.push_toArray, List.append_toArray, List.nil_append, List.cons_append]
  clear h hp hlp
  gi_wp2_with fail
  refine ⟨trivial, ?_⟩
  refine (callsIn_wide.2 (unhide H1)).mono ?_
  rintro e w1 ⟨rfl, d1⟩
  have hc1 := boxed_later hc0 d1
  have hcell1 := hc1.cell
  have d1' := below_after hb0 d1
  clear H1 hcell0
  obtain ⟨w2, hw2⟩ : ∃ w2, w2 = w1.alloc (.cells #[.slice none 0 0] 22) := ⟨_, rfl⟩
  have hcell2 : (w1.alloc (.cells #[.slice none 0 0] 22)).cell? ⟨w.heap.size, 0, none⟩ = some (.slice A n c) := Boxed.cell (Boxed.alloc hc1 _)
  have HW2 := hide hw2
  clear hw2
  gi_wp2_with fail
  refine ⟨trivial, ?_⟩
  rw [← unhide HW2]
  refine (callsIn_wide.2 (unhide HC w2)).mono ?_
  rintro e w3 ⟨rfl, hw3⟩
  have hs2 : w2.heap.size = w1.heap.size + 1 := by rw [unhide HW2]; simp
  have hs3 : w3.heap.size = w2.heap.size + 2 := by rw [hw3]; simp
  have d12 : Below w1.heap.size w1 w2 := by rw [unhide HW2]; exact (Below.refl _ w1).alloc (Nat.le_refl _) _
  have d23 : Below w2.heap.size w2 w3 := by rw [hw3]; exact ((Below.refl _ w2).alloc (Nat.le_refl _) _).alloc (by simp) _
  have hbl2 : Boxed w2 w1.heap.size 22 (.slice none 0 0) := by rw [unhide HW2]; exact Boxed.new w1 _ _
  have hbl3 := boxed_later hbl2 d23
  have hcp3 := boxed_later (boxed_later hc1 d12) d23
  have dw3 := below_after d1' (below_after d12 d23)
  have hbn : Boxed w3 w2.heap.size 3 (.int .i64 n) := by rw [hw3]; exact Boxed.alloc (Boxed.new w2 _ _) _
  have hbk : Boxed w3 (w2.heap.size + 1) 3 (.int .i64 kk) := by
    have := Boxed.new (w2.alloc (.cells #[.int .i64 n] 3)) 3 (.int .i64 kk)
    rw [World.size_alloc] at this
    rw [hw3]; exact this
  have hseq := choices_tell n kk 256 w2.heap.size (w2.heap.size + 1) hn8 (by omega) (chR_room hn8 (by omega)) 3 w3 hbn hbk
  obtain ⟨b, hb⟩ : ∃ b, b = w1.heap.size := ⟨_, rfl⟩
  rw [← hb] at hs2 hbl3 ⊢
  have hwb : w.heap.size < b := by have h1 := d1.size; rw [World.size_alloc] at h1; omega
  have HS := hide (⟨hs2, hs3⟩ : w2.heap.size = b + 1 ∧ w3.heap.size = w2.heap.size + 2)
  clear HC HW2 hcell1 hcell2 d1 d1' d12 d23 hw3 hbl2 hc1 hbn hbk hb hb0 hc0 hs2 hs3
  gi_wp2
  obtain ⟨hs2, hs3⟩ := unhide HS
  refine range_zone rfl (by decide) (gf := 120) (lb := #[.pointer (some ⟨w2.heap.size + 1, 0, none⟩), .pointer (some ⟨w2.heap.size, 0, none⟩)]) rfl trivial (enters_of Try.func120 (by kernel_rfl) rfl)
    hseq (fun h k => ⟨Nat.le_trans h.1 k.1, k.2.trans h.2⟩) (fun W r r' hd => ⟨by unfold World.putObj; simp, World.putObj_heap_other (by omega)⟩) (fun _ => rfl) (fun U V x r r' hdU hdV h => ⟨h.1.kept (World.putObj_heap_other (by omega)), h.2⟩)
    (fun pre V => (∃ v, Boxed V b 22 v ∧ IntsS V (b + 6) v (pre.map (patA p))) ∧ Boxed V w.heap.size 29 (.slice A n c) ∧ Below w.heap.size w V ∧ b < V.heap.size)
    (fun _ _ _ => False)
    (fun pre U V h hb' => by
      obtain ⟨⟨v, h1, h2⟩, h3, h4, h5⟩ := h
      exact ⟨⟨v, Boxed.but h1 hb' (by omega), h2.but hb' (by omega)⟩, Boxed.but h3 hb' (by omega), h4.trans (hb'.below (by omega) (by omega)), Nat.lt_of_lt_of_le h5 hb'.size⟩)
    (fun _ _ _ _ h _ => h)
    ⟨⟨_, hbl3, IntsS.nil _ _⟩, hcp3, dw3, by omega⟩
    (fun _ => { tmps := #[.slice A n c, .int .i64 kk, .pointer (some ⟨w.heap.size, 0, none⟩), undef, .slice none 0 0, .pointer (some ⟨b, 0, none⟩), .slice (some ⟨w3.heap.size + 2, 0, none⟩) kk kk, .slice A n c, .bool true, .bool false, .bool false, .int .i64 kk, .bool false, .bool false, .bool false,
      .int .i64 kk, .slice A n c, .int .i64 n, .bool false, .bool false, .slice A n c, .int .i64 n, .int .i64 kk, .func (.func 120) #[] #[.pointer (some ⟨w2.heap.size + 1, 0, none⟩), .pointer (some ⟨w2.heap.size, 0, none⟩)],
      .slice (some ⟨w3.heap.size + 2, 0, none⟩) kk kk, undef, undef, undef, undef, undef, undef, undef, undef], defers := [] }) ?assign ?body ?done ?stop
  case assign =>
    intro l x W K' hK'
    clear hs3 hs2
    gi_wp2
    exact hK'
  case body =>
    rintro l2 pre pl U V ⟨⟨v, hcU, hSU⟩, hcpU, hBU, hbU0⟩ hzU hbU ⟨hbuf, hpl, hok⟩ hlen
    obtain ⟨g, hg⟩ : ∃ g, g = w3.heap.size + 2 := ⟨_, rfl⟩
    rw [← hg] at hbuf ⊢
    have hp := unhide HP
    have hpa := (unhide HH).below (below_after (⟨rfl, rfl, rfl, Nat.le_refl _, fun _ _ => rfl⟩ : Below w.heap.size w w) hBU)
    have e1 := hpa.len
    have hpaV := ((unhide HH).below (hBU.trans (hbU.mono (by have := hBU.size; omega)))).below (below_drew _ V)
    have hsm : Small pl := fun z hz => by have := hok.1 z hz; omega
    have hApl := ((hpl ▸ hbuf.ints : Ints V g (.slice (some ⟨g, 0, none⟩) kk kk) pl).arg (by omega) (Nat.le_refl _) hsm).drew
    have hokp : PlOK p.length pl := e1.symm ▸ hok
    have H1 := hide (ipatat_any A (some ⟨g, 0, none⟩) n c B kk kk _ p pl hp hokp V.drew hpaV hApl)
    have hmx : Try.prog.follows .mixedOrders = true := by kernel_rfl
    obtain ⟨zss, hz⟩ : ∃ zss, zss = pre.map (patA p) := ⟨_, rfl⟩
    have hzl : zss.length < 256 := by rw [hz, List.length_map]; exact hlen
    rw [← hz] at hSU
    obtain ⟨Av, cv, rfl⟩ := hSU.slice
    have HZ := hide hz
    have hc : Boxed V b 22 (.slice Av zss.length cv) := boxed_later hcU hbU
    have hcp := boxed_later hcpU hbU
    have hcell : V.drew.cell? ⟨b, 0, none⟩ = some (.slice Av zss.length cv) := hc.cell
    have hcellp : V.drew.cell? ⟨w.heap.size, 0, none⟩ = some (.slice A n c) := hcp.cell
    have hSD : IntsS V.drew (b + 6) (.slice Av zss.length cv) zss := (hSU.below hbU).below (below_drew _ V)
    have hbs := hbU.size
    have hzV : b + 6 ≤ V.drew.heap.size := by show b + 6 ≤ V.heap.size; omega
    have HCB := hide (show ∀ w4, Below V.drew.heap.size V.drew w4 → Boxed w4 b 22 (.slice Av zss.length cv) from fun w4 h => boxed_later (show Boxed V.drew b _ _ from hc) h)
    have HEND := hide (show ∀ (A9 : Option Addr) (c9 : Nat) (w' : World), IntsS w' (b + 6) (.slice A9 (zss.length + 1) c9) (zss ++ [patA p pl]) → Below (b + 6) V w' → (∀ r, Desk w3.heap.size r V → Desk w3.heap.size r (w'.setCell ⟨b, 0, none⟩ (.slice A9 (zss.length + 1) c9))) ∧ (V.heap.size ≤ (w'.setCell ⟨b, 0, none⟩ (.slice A9 (zss.length + 1) c9)).heap.size ∧ (w'.setCell ⟨b, 0, none⟩ (.slice A9 (zss.length + 1) c9)).heap[g]? = V.heap[g]?) ∧
        ((∃ v, Boxed (w'.setCell ⟨b, 0, none⟩ (.slice A9 (zss.length + 1) c9)) b 22 v ∧ IntsS (w'.setCell ⟨b, 0, none⟩ (.slice A9 (zss.length + 1) c9)) (b + 6) v ((pre ++ [pl]).map (patA p))) ∧ Boxed (w'.setCell ⟨b, 0, none⟩ (.slice A9 (zss.length + 1) c9)) w.heap.size 29 (.slice A n c) ∧ Below w.heap.size w (w'.setCell ⟨b, 0, none⟩ (.slice A9 (zss.length + 1) c9)) ∧ b < (w'.setCell ⟨b, 0, none⟩ (.slice A9 (zss.length + 1) c9)).heap.size) from fun A9 c9 w' h1 h2 => by
      have hgr := grownBy_setCell' w' b (.slice A9 (zss.length + 1) c9)
      have hsz := h2.size
      have hsz2 := hgr.size
      have hblk : ∀ k, k < V.heap.size → k < b + 6 → k ≠ b → (w'.setCell ⟨b, 0, none⟩ (.slice A9 (zss.length + 1) c9)).heap[k]? = V.heap[k]? := fun k h3 h4 h5 => (hgr.block k (by omega) (by simp; omega)).trans (h2.block k h4)
      refine ⟨fun r hd => ⟨(hblk _ hd.lt (by omega) (by omega)).trans hd.rec_, (hblk _ (by have := hd.lt; omega) (by omega) (by omega)).trans hd.marks⟩, ⟨by omega, hblk g (by omega) (by omega) (by omega)⟩, ⟨_, Boxed.set _ ((h2.block b (by omega)).trans hc), ?_⟩, (hblk _ (Boxed.lt hcp) (by omega) (by omega)).trans hcp, ?_, by omega⟩
      · rw [List.map_append, ← unhide HZ]
        exact intsS_stored h1 (by omega) _
      · exact ((hBU.trans (hbU.mono (by omega))).trans (h2.mono (by omega))).setCell (p := ⟨b, 0, none⟩) (by show w.heap.size ≤ b; omega) _)
    have HG := hide (⟨hg, hs2, hs3⟩ : g = w3.heap.size + 2 ∧ w2.heap.size = b + 1 ∧ w3.heap.size = w2.heap.size + 2)
    clear hseq hz hc hcp hcU hcpU hSU hBU hApl hpa hpaV hbuf hg hs2 hs3 hpl hlen
    gi_wp2_with fail
    refine region_round l2 rfl (by kernel_rfl) hmx ?_
    change wpAnyIn _ _ _ _ _ _ _ _ _ (World.drew _)
--REGION-PATS
    refine wpAnyIn_take (i := 2) (v := .slice (some ⟨g, 0, none⟩) kk kk) rfl rfl (by kernel_rfl) (by kernel_rfl) (by kernel_rfl) (fun _ _ _ h => h) ⟨Or.inl ⟨by rfl, fun w => by go_simp⟩, fun _ => rfl⟩ ?_
    simp only [Act.put]
    refine wpAnyIn_ready (rs := [0, 1]) (by kernel_rfl) (by simp) ?_
    refine AllReadyIn.cons rfl (fun K hK => ?_) (AllReadyIn.cons rfl (fun K hK => ?_) (AllReadyIn.nil))
    · skip
      go_simp
      refine hK _ _ ?_
      clear hK K
      refine wpAnyIn_ready (rs := [1]) (by kernel_rfl) (by simp) ?_
      refine AllReadyIn.cons rfl (fun K hK => ?_) (AllReadyIn.nil)
      go_simp
      refine hK _ _ ?_
      clear hK K
      refine wpAnyIn_ready (rs := [3]) (by kernel_rfl) (by simp) ?_
      refine AllReadyIn.cons rfl (fun K hK => ?_) (AllReadyIn.nil)
      go_simp
      refine ⟨trivial, ?_⟩
      refine (callsIn_wide.2 (unhide H1)).mono ?_
      rintro e w4 ⟨A4, c4, rfl, o4, d4⟩
      have hb4 := unhide HCB w4 d4
      have hcell4 := hb4.cell
      have hcell4a := (Boxed.alloc hb4 (.cells #[.slice A4 (patA p pl).length c4] 29)).cell
      refine hK _ _ ?_
      clear hK K
      refine wpAnyIn_ready (rs := [4]) (by kernel_rfl) (by simp) ?_
      refine AllReadyIn.cons rfl (fun K hK => ?_) (AllReadyIn.nil)
      go_simp
      refine hK _ _ ?_
      clear hK K
      refine wpAnyIn_ready (rs := [5]) (by kernel_rfl) (by simp) ?_
      refine AllReadyIn.cons rfl (fun K hK => ?_) (AllReadyIn.nil)
      rw [if_pos (by rfl)]
      refine opIn_push_row (.tmp 25) (.tmp 29) rfl (b + 6) V.drew w4 (.slice Av zss.length cv) (.slice A4 (patA p pl).length c4) zss (patA p pl) rfl rfl rfl hSD d4 o4 (by omega) hzV ?_
      intro v' w' hS' hb'
      obtain ⟨A9, c9, rfl⟩ := hS'.slice
      rw [List.length_append, List.length_singleton] at hS'
      have hb9 : Boxed w' b 22 (.slice Av zss.length cv) := (hb'.block b (by omega)).trans hb4
      have hcell9 := hb9.cell
      have hfz9 := hb9.frozen
      have hend := unhide HEND A9 c9 w' hS' (((below_drew (b + 6) V).trans (d4.mono hzV)).trans hb')
      have HEN := hide hend
      refine hK _ _ ?_
      clear hK K hend
      refine wpAnyIn_ready (rs := [6]) (by kernel_rfl) (by simp) ?_
      refine AllReadyIn.cons rfl (fun K hK => ?_) (AllReadyIn.nil)
      go_simp
      refine hK _ _ ?_
      clear hK K
      refine wpAnyIn_done (by kernel_rfl) ?_ _
      gi_wp2
      exact unhide HEN
    · skip
      go_simp
      refine hK _ _ ?_
      clear hK K
      refine wpAnyIn_ready (rs := [0, 3]) (by kernel_rfl) (by simp) ?_
      refine AllReadyIn.cons rfl (fun K hK => ?_) (AllReadyIn.cons rfl (fun K hK => ?_) (AllReadyIn.nil))
      · skip
        go_simp
        refine hK _ _ ?_
        clear hK K
        refine wpAnyIn_ready (rs := [3]) (by kernel_rfl) (by simp) ?_
        refine AllReadyIn.cons rfl (fun K hK => ?_) (AllReadyIn.nil)
        go_simp
        refine ⟨trivial, ?_⟩
        refine (callsIn_wide.2 (unhide H1)).mono ?_
        rintro e w4 ⟨A4, c4, rfl, o4, d4⟩
        have hb4 := unhide HCB w4 d4
        have hcell4 := hb4.cell
        have hcell4a := (Boxed.alloc hb4 (.cells #[.slice A4 (patA p pl).length c4] 29)).cell
        refine hK _ _ ?_
        clear hK K
        refine wpAnyIn_ready (rs := [4]) (by kernel_rfl) (by simp) ?_
        refine AllReadyIn.cons rfl (fun K hK => ?_) (AllReadyIn.nil)
        go_simp
        refine hK _ _ ?_
        clear hK K
        refine wpAnyIn_ready (rs := [5]) (by kernel_rfl) (by simp) ?_
        refine AllReadyIn.cons rfl (fun K hK => ?_) (AllReadyIn.nil)
        rw [if_pos (by rfl)]
        refine opIn_push_row (.tmp 25) (.tmp 29) rfl (b + 6) V.drew w4 (.slice Av zss.length cv) (.slice A4 (patA p pl).length c4) zss (patA p pl) rfl rfl rfl hSD d4 o4 (by omega) hzV ?_
        intro v' w' hS' hb'
        obtain ⟨A9, c9, rfl⟩ := hS'.slice
        rw [List.length_append, List.length_singleton] at hS'
        have hb9 : Boxed w' b 22 (.slice Av zss.length cv) := (hb'.block b (by omega)).trans hb4
        have hcell9 := hb9.cell
        have hfz9 := hb9.frozen
        have hend := unhide HEND A9 c9 w' hS' (((below_drew (b + 6) V).trans (d4.mono hzV)).trans hb')
        have HEN := hide hend
        refine hK _ _ ?_
        clear hK K hend
        refine wpAnyIn_ready (rs := [6]) (by kernel_rfl) (by simp) ?_
        refine AllReadyIn.cons rfl (fun K hK => ?_) (AllReadyIn.nil)
        go_simp
        refine hK _ _ ?_
        clear hK K
        refine wpAnyIn_done (by kernel_rfl) ?_ _
        gi_wp2
        exact unhide HEN
      · skip
        go_simp
        refine ⟨trivial, ?_⟩
        refine (callsIn_wide.2 (unhide H1)).mono ?_
        rintro e w4 ⟨A4, c4, rfl, o4, d4⟩
        have hb4 := unhide HCB w4 d4
        have hcell4 := hb4.cell
        have hcell4a := (Boxed.alloc hb4 (.cells #[.slice A4 (patA p pl).length c4] 29)).cell
        refine hK _ _ ?_
        clear hK K
        refine wpAnyIn_ready (rs := [0, 4]) (by kernel_rfl) (by simp) ?_
        refine AllReadyIn.cons rfl (fun K hK => ?_) (AllReadyIn.cons rfl (fun K hK => ?_) (AllReadyIn.nil))
        · skip
          go_simp
          refine hK _ _ ?_
          clear hK K
          refine wpAnyIn_ready (rs := [4]) (by kernel_rfl) (by simp) ?_
          refine AllReadyIn.cons rfl (fun K hK => ?_) (AllReadyIn.nil)
          go_simp
          refine hK _ _ ?_
          clear hK K
          refine wpAnyIn_ready (rs := [5]) (by kernel_rfl) (by simp) ?_
          refine AllReadyIn.cons rfl (fun K hK => ?_) (AllReadyIn.nil)
          rw [if_pos (by rfl)]
          refine opIn_push_row (.tmp 25) (.tmp 29) rfl (b + 6) V.drew w4 (.slice Av zss.length cv) (.slice A4 (patA p pl).length c4) zss (patA p pl) rfl rfl rfl hSD d4 o4 (by omega) hzV ?_
          intro v' w' hS' hb'
          obtain ⟨A9, c9, rfl⟩ := hS'.slice
          rw [List.length_append, List.length_singleton] at hS'
          have hb9 : Boxed w' b 22 (.slice Av zss.length cv) := (hb'.block b (by omega)).trans hb4
          have hcell9 := hb9.cell
          have hfz9 := hb9.frozen
          have hend := unhide HEND A9 c9 w' hS' (((below_drew (b + 6) V).trans (d4.mono hzV)).trans hb')
          have HEN := hide hend
          refine hK _ _ ?_
          clear hK K hend
          refine wpAnyIn_ready (rs := [6]) (by kernel_rfl) (by simp) ?_
          refine AllReadyIn.cons rfl (fun K hK => ?_) (AllReadyIn.nil)
          go_simp
          refine hK _ _ ?_
          clear hK K
          refine wpAnyIn_done (by kernel_rfl) ?_ _
          gi_wp2
          exact unhide HEN
        · skip
          go_simp
          refine hK _ _ ?_
          clear hK K
          refine wpAnyIn_ready (rs := [0]) (by kernel_rfl) (by simp) ?_
          refine AllReadyIn.cons rfl (fun K hK => ?_) (AllReadyIn.nil)
          go_simp
          refine hK _ _ ?_
          clear hK K
          refine wpAnyIn_ready (rs := [5]) (by kernel_rfl) (by simp) ?_
          refine AllReadyIn.cons rfl (fun K hK => ?_) (AllReadyIn.nil)
          rw [if_pos (by rfl)]
          refine opIn_push_row (.tmp 25) (.tmp 29) rfl (b + 6) V.drew w4 (.slice Av zss.length cv) (.slice A4 (patA p pl).length c4) zss (patA p pl) rfl rfl rfl hSD d4 o4 (by omega) hzV ?_
          intro v' w' hS' hb'
          obtain ⟨A9, c9, rfl⟩ := hS'.slice
          rw [List.length_append, List.length_singleton] at hS'
          have hb9 : Boxed w' b 22 (.slice Av zss.length cv) := (hb'.block b (by omega)).trans hb4
          have hcell9 := hb9.cell
          have hfz9 := hb9.frozen
          have hend := unhide HEND A9 c9 w' hS' (((below_drew (b + 6) V).trans (d4.mono hzV)).trans hb')
          have HEN := hide hend
          refine hK _ _ ?_
          clear hK K hend
          refine wpAnyIn_ready (rs := [6]) (by kernel_rfl) (by simp) ?_
          refine AllReadyIn.cons rfl (fun K hK => ?_) (AllReadyIn.nil)
          go_simp
          refine hK _ _ ?_
          clear hK K
          refine wpAnyIn_done (by kernel_rfl) ?_ _
          gi_wp2
          exact unhide HEN
--END-PATS
  case done =>
    rintro pls W rfl ⟨⟨v, hc, hSS⟩, hcp, hB, hbs⟩ hK9
    have hcell := hc.cell
    obtain ⟨zss, hz⟩ : ∃ zss, zss = (chR n kk).map (patA p) := ⟨_, rfl⟩
    have hord : ordR zss = patsR p kk := by rw [hz, ← (unhide HH).len]; exact unhide HPATS
    have hzl : zss.length ≤ 256 := by rw [hz, List.length_map]; exact chR_room hn8 (by omega)
    rw [← hz] at hSS
    obtain ⟨A9, c9, rfl⟩ := hSS.slice
    have H7 := hide (iord_any A9 _ c9 _ zss W hSS (by omega) (fun z hz9 => by
      rw [hz] at hz9
      obtain ⟨pl, hpl, rfl⟩ := List.mem_map.1 hz9
      have h2 := (mem_chR.1 hpl).2
      have h3 := plOK_le h2
      exact ⟨by unfold patA; rw [patL_length, nums_length]; omega, patA_small (unhide HP) ((unhide HH).len.symm ▸ h2)⟩))
    have HO := hide hord
    have HS9 := hide (show w3.heap.size = b + 3 from by omega)
    have hDl : w3.heap.size < W.heap.size := (Array.getElem?_eq_some_iff.1 hK9).1
    clear hz hord hc hSS hcp hseq hs2 hs3
    gi_wp2_with fail
    refine ⟨trivial, ?_⟩
    refine (callsIn_wide.2 (unhide H7)).mono ?_
    rintro e w5 ⟨A5, c5, rfl, o5, d5⟩
    rw [unhide HO] at o5 ⊢
    have hK5 : w5.heap[w3.heap.size]? = some (.deferred (some [])) := (d5.block _ hDl).trans hK9
    have hwd : w.heap.size ≤ w3.heap.size := by have := unhide HS9; omega
    have o6 := (o5.but (But.putObj w5 (Nat.le_refl w3.heap.size) (Nat.lt_succ_self _) (.deferred none)) hDl).low (show w.heap.size ≤ W.heap.size by omega)
    have d6 : Below w.heap.size w (w5.putObj w3.heap.size (.deferred none)) := (hB.trans (d5.mono hB.size)).trans ((Below.refl _ _).grown (grownBy_putObj' _ _ _) (by have := d5.size; have := hB.size; omega) (fun k e => by cases e; exact hwd))
    clear H7 d5 o5 hB
    gi_wp2
    refine ⟨by simp, .inl ⟨_, _, rfl, run_takeDeferred hK5, ?_⟩⟩
    refine ⟨_, results_tmp rfl _ _ _, ?_⟩
    exact GivesSS.mk o6 d6
  case stop =>
    rintro c pre W _ h _
    exact h.elim
end Go.Proofs.Ytplchjeamooliaa


/-
  impl.PatternsIn at any number; impl.LowersOf.
-/

namespace Go.Proofs.Ytplchjeamooliaa
set_option maxRecDepth 100000
open Go.RowKit

set_option maxHeartbeats 800000 in
theorem ipats_any (A : Option Addr) (n c B : Nat) (zs : List Int) (x : Int) (w : World) (h : Arg w B A n c zs) :
    Calls Try.prog 98 #[.slice A n c, .int .i64 x] w (GivesSS w (patsR zs x)) := by
  have hl := h.len
  obtain ⟨b, hp⟩ : ∃ b, isP zs = b := ⟨_, rfl⟩
  have hb0 : Below w.heap.size w (w.alloc (.cells #[.slice A n c] 29)) := (Below.refl _ w).alloc (Nat.le_refl _) _
  have hc0 : Boxed (w.alloc (.cells #[.slice A n c] 29)) w.heap.size 29 (.slice A n c) := Boxed.new w _ _
  have hcell0 := hc0.cell
  have H1 := hide (iisperm_any A n c B zs b hp _ (h.below hb0).reads (h.below hb0).under h.le h.small)
  cases b with
  | false =>
    rw [patsR_no (by unfold patsOK; rw [hp]; rfl)]
    clear h hp hl
    go_enter Try.func98, Try.ntmps98
    go_wp2_with fail
    refine (unhide H1).mono ?_
    rintro e w1 ⟨rfl, d1⟩
    have d := below_after hb0 d1
    clear H1 hcell0
    go_wp2
    go_ret
    exact GivesSS.mk (IntsS.nil _ _) d
  | true =>
    by_cases hx : 0 ≤ x ∧ x ≤ (n : Int)
    · obtain ⟨kk, rfl⟩ : ∃ kk : Nat, x = (kk : Int) := ⟨x.toNat, by omega⟩
      exact pats_yes A n c B kk zs w h hp (by omega)
    · rw [patsR_no (by unfold patsOK; rw [hp, hl]; simpa using hx)]
      by_cases h0 : x < 0
      · have hd0 : decide (x < 0) = true := decide_eq_true h0
        clear h hp hl hx
        go_enter Try.func98, Try.ntmps98
        go_wp2_with fail
        refine (unhide H1).mono ?_
        rintro e w1 ⟨rfl, d1⟩
        have d := below_after hb0 d1
        have hcell1 := (boxed_later hc0 d1).cell
        clear H1 hcell0
        go_wp2
        go_ret
        exact GivesSS.mk (IntsS.nil _ _) d
      · have hd0 : decide (x < 0) = false := decide_eq_false h0
        have h1 : (n : Int) < x := by omega
        have hd1 : decide ((n : Int) < x) = true := decide_eq_true h1
        clear h hp hl hx
        go_enter Try.func98, Try.ntmps98
        go_wp2_with fail
        refine (unhide H1).mono ?_
        rintro e w1 ⟨rfl, d1⟩
        have d := below_after hb0 d1
        have hcell1 := (boxed_later hc0 d1).cell
        clear H1 hcell0
        go_wp2
        go_ret
        exact GivesSS.mk (IntsS.nil _ _) d
theorem ilow_any (A : Option Addr) (n c B : Nat) (zs : List Int) (w : World) (h : Arg w B A n c zs) :
    Calls Try.prog 84 #[.slice A n c] w (GivesSS w (lowR zs)) := by
  have hle := h.le
  have H1 := hide (ipats_any A n c B zs ((n : Int) - 1) w h)
  have hw1 : IntKind.i64.wrap ((n : Int) - 1) = (n : Int) - 1 := by rw [IntKind.wrap_i64]; omega
  rw [← pats_low, h.len]
  clear h
  go_enter Try.func84, Try.ntmps84
  go_wp2_with fail
  refine (unhide H1).mono ?_
  rintro e w1 ⟨A1, c1, rfl, o1, d1⟩
  clear H1
  go_wp2
  go_ret
  exact GivesSS.mk o1 d1
end Go.Proofs.Ytplchjeamooliaa


/-
  impl.permSetOf, permSet's add, has, hasLowers, by their contracts.
-/

namespace Go.Proofs.Ytplchjeamooliaa
set_option maxRecDepth 100000
open Go.RowKit Go.Maps

set_option maxHeartbeats 800000 in
theorem psadd_any (b m : Nat) (S : List (List Int)) (A : Option Addr) (n c B : Nat) (z : List Int) (w : World) (hP : PSet w b m S) (hm : m ≤ 1048576) (h : Arg w B A n c z) (hz : isP z = true) :
    Calls Try.prog 61 #[.map (some b), .slice A n c] w fun e w' => e = .returned (.tuple #[]) ∧ PSet w' b (m + 1) (S ++ [z]) ∧ w.grownBy w' (some b) := by
  have H1 := hide (itext_any A n c B z w h)
  have HS := hide (fun (w1 : World) (d : Below w.heap.size w w1) => (hP.later d).store (by unfold maxLen; omega) hz)
  obtain ⟨s, hs⟩ : ∃ s, s = ptext z := ⟨_, rfl⟩
  rw [← hs] at H1
  simp only [← hs] at HS
  clear h hz hP hs
  go_enter Try.func61, Try.ntmps61
  go_wp2_with fail
  refine (unhide H1).mono ?_
  rintro e w1 ⟨rfl, d1⟩
  obtain ⟨w2, hrun, hP2, hg2⟩ := unhide HS w1 d1
  have HP2 := hide hP2
  have HG2 := hide (grown_then (grown_of_below d1 (some b)) hg2)
  clear H1 HS d1 hP2 hg2
  go_wp2
  go_end0
  exact ⟨rfl, unhide HP2, unhide HG2⟩
set_option maxHeartbeats 800000 in
theorem pshas_any (b m : Nat) (S : List (List Int)) (A : Option Addr) (n c B : Nat) (z : List Int) (w : World) (hP : PSet w b m S) (h : Arg w B A n c z) (hz : isP z = true) :
    Calls Try.prog 64 #[.map (some b), .slice A n c] w (GivesB w (decide (z ∈ S))) := by
  have H1 := hide (itext_any A n c B z w h)
  have HS := hide (fun (w1 : World) (d : Below w.heap.size w w1) => (hP.later d).lookup hz)
  obtain ⟨s, hs⟩ : ∃ s, s = ptext z := ⟨_, rfl⟩
  obtain ⟨bb, hbb⟩ : ∃ bb, bb = decide (z ∈ S) := ⟨_, rfl⟩
  rw [← hs] at H1
  rw [← hbb]
  simp only [← hs, ← hbb] at HS
  clear h hz hP hs hbb
  go_enter Try.func64, Try.ntmps64
  go_wp2_with fail
  refine (unhide H1).mono ?_
  rintro e w1 ⟨rfl, d1⟩
  have hrun := unhide HS w1 d1
  clear H1 HS
  go_wp2
  go_ret
  exact ⟨rfl, d1⟩
theorem lowIn_take {S low : List (List Int)} {i : Nat} {q : List Int} (h : low[i]? = some q) : (low.take (i + 1)).all (fun q => decide (q ∈ S)) = ((low.take i).all (fun q => decide (q ∈ S)) && decide (q ∈ S)) := by rw [List.take_add_one, h]; simp
set_option maxHeartbeats 1600000 in
theorem pslow_any (b m : Nat) (S : List (List Int)) (A : Option Addr) (n c B : Nat) (z : List Int) (w : World) (hP : PSet w b m S) (h : Arg w B A n c z) :
    Calls Try.prog 65 #[.map (some b), .slice A n c] w (GivesB w (lowIn S z)) := by
  have H1 := hide (ilow_any A n c B z w h)
  have HPS := hide hP
  have hll := (low_size z).1
  have HPI := hide (fun (i : Nat) (q : List Int) (hq : (lowR z)[i]? = some q) => low_all (List.mem_of_getElem? hq))
  have hdef : lowIn S z = (lowR z).all (fun q => decide (q ∈ S)) := rfl
  rw [hdef]
  obtain ⟨L, hL⟩ : ∃ L, L = lowR z := ⟨_, rfl⟩
  rw [← hL] at H1 hll HPI ⊢
  obtain ⟨N, hN⟩ : ∃ N, N = L.length := ⟨_, rfl⟩
  rw [← hN] at hll
  have HN := hide hN
  clear h hP hdef hL hN
  go_enter Try.func65, Try.ntmps65
  go_wp2_with fail
  refine (unhide H1).mono ?_
  rintro e w1 ⟨A1, c1, rfl, o1, d1⟩
  have HO := hide o1
  rw [← unhide HN] at HO ⊢
  have hb1 := Below.refl w1.heap.size w1
  have HD := hide d1
  clear H1 o1 d1
  go_wp2
  go_loopw [6, 10] (fun _ i wr => ∃ k : Nat, k ≤ N ∧ i = .int .i64 k ∧ Below w1.heap.size w1 wr ∧ Hid ((L.take k).all (fun q => decide (q ∈ S)) = true)) (fun _ i _ => N - (intOf i).toNat)
  case atStart => exact ⟨0, Nat.zero_le _, rfl, hb1, by exact (by simp : (L.take 0).all (fun q => decide (q ∈ S)) = true)⟩
  case round =>
    obtain ⟨k, hk, rfl, hb, hall⟩ := hrel
    clear hb1
    by_cases hlt : k < N
    · obtain ⟨ad, A6, c6, q, rfl, hq, hcell, hI⟩ := ((unhide HO).below hb).at_ hlt
      have hqp := unhide HPI k q hq
      have H4 := hide (pshas_any b m S A6 q.length c6 _ q wr ((unhide HPS).later (below_after (unhide HD) hb)) (hI.argP hqp) hqp)
      obtain ⟨bq, hbq⟩ : ∃ b, decide (q ∈ S) = b := ⟨_, rfl⟩
      rw [hbq] at H4
      have hst := lowIn_take (S := S) hq
      rw [unhide hall, hbq, Bool.true_and] at hst
      have HST := hide hst
      obtain ⟨lq, hlq⟩ : ∃ l, l = q.length := ⟨_, rfl⟩
      rw [← hlq] at hcell H4
      have HQ := hide (⟨hq, hbq⟩ : _ ∧ _)
      clear hq hqp hI hbq hst hlq hall
      cases bq with
      | true =>
        go_wp2_with fail
        refine (unhide H4).mono ?_
        rintro e w2 ⟨rfl, d2⟩
        have hb2 := below_after hb d2
        clear H4 d2 hcell hb
        go_wp2
        go_roundw
        case rel => exact ⟨k + 1, by omega, by go_num, hb2, HST⟩
        case measure => simp [intOf]; omega
      | false =>
        have HF := hide (show L.all (fun q => decide (q ∈ S)) = false by
          rw [List.all_eq_false]
          exact ⟨q, List.mem_of_getElem? (unhide HQ).1, by rw [(unhide HQ).2]; simp⟩)
        go_wp2_with fail
        refine (unhide H4).mono ?_
        rintro e w2 ⟨rfl, d2⟩
        have hb2 := below_after (unhide HD) (below_after hb d2)
        clear H4 d2 hcell hb
        go_wp2
        go_ret
        exact ⟨ret_bool (unhide HF).symm, hb2⟩
    · obtain rfl : N = k := by omega
      have HF := hide (show L.all (fun q => decide (q ∈ S)) = true by have h := unhide hall; rwa [List.take_of_length_le (by rw [← unhide HN]; exact Nat.le_refl _)] at h)
      have hb2 := below_after (unhide HD) hb
      clear hall hb
      go_wp2
      go_ret
      exact ⟨ret_bool (unhide HF).symm, hb2⟩
set_option maxHeartbeats 1600000 in
theorem psof_any (A : Option Addr) (n c B : Nat) (zss : List (List Int)) (w : World) (hS : IntsS w B (.slice A n c) zss) (hn : n ≤ 1048576) (hz : ∀ z ∈ zss, isP z = true) :
    Calls Try.prog 60 #[.slice A n c] w fun e w' => e = .returned (.map (some w.heap.size)) ∧ PSet w' w.heap.size n zss ∧ Below w.heap.size w w' := by
  have hP0 := PSet.new w
  have hb0 : Below w.heap.size w (w.alloc (.map #[] 0)) := (Below.refl _ w).alloc (Nat.le_refl _) _
  have hmk := run_makeMap (P := Try.prog) 52 w
  have HS := hide (⟨hS, hz⟩ : IntsS w B (.slice A n c) zss ∧ ∀ z ∈ zss, isP z = true)
  have HL := hide hS.len
  clear hS hz
  go_enter Try.func60, Try.ntmps60
  go_wp2
  obtain ⟨g, hg⟩ : ∃ g, g = w.heap.size := ⟨_, rfl⟩
  have hPg : PSet (w.alloc (.map #[] 0)) g 0 [] := by rw [hg]; exact hP0
  rw [← hg]
  have HG := hide hg
  clear hP0 hg hmk
  go_loopw [5, 9] (fun _ i wr => ∃ k : Nat, k ≤ n ∧ i = .int .i64 k ∧ Below w.heap.size w wr ∧ PSet wr g k (zss.take k)) (fun _ i _ => n - (intOf i).toNat)
  case atStart => exact ⟨0, Nat.zero_le _, rfl, hb0, by simpa using hPg⟩
  case round =>
    obtain ⟨k, hk, rfl, hb, hP⟩ := hrel
    clear hPg hb0
    by_cases hlt : k < n
    · obtain ⟨ad, A6, c6, z, rfl, hz, hcell, hI⟩ := ((unhide HS).1.below hb).at_ hlt
      have hzp := (unhide HS).2 z (List.mem_of_getElem? hz)
      have H4 := hide (psadd_any g k (zss.take k) A6 z.length c6 _ z wr hP (by omega) (hI.argP hzp) hzp)
      have hnext : zss.take k ++ [z] = zss.take (k + 1) := by rw [List.take_add_one, hz]; rfl
      rw [hnext] at H4
      obtain ⟨lz, hlz⟩ : ∃ l, l = z.length := ⟨_, rfl⟩
      rw [← hlz] at hcell H4
      clear hz hzp hI hnext hlz hP
      go_wp2_with fail
      refine (unhide H4).mono ?_
      rintro e w2 ⟨rfl, hP2, hg2⟩
      have hb2 : Below w.heap.size w w2 := hb.grown hg2 hb.size (fun j e => by injection e with e; have := unhide HG; omega)
      clear H4 hg2 hcell hb
      go_wp2
      go_roundw
      case rel => exact ⟨k + 1, by omega, by go_num, hb2, hP2⟩
      case measure => simp [intOf]; omega
    · obtain rfl : n = k := by omega
      rw [List.take_of_length_le (by rw [unhide HL]; exact Nat.le_refl _)] at hP
      have HP := hide hP
      clear hP
      go_wp2
      go_ret
      exact ⟨by rw [unhide HG]; rfl, by rw [← unhide HG]; exact unhide HP, hb⟩
end Go.Proofs.Ytplchjeamooliaa


/-
  WORDS: a list of rows taken out of another one, beside maps of texts.
-/

namespace Go.Proofs.Ytplchjeamooliaa
set_option maxRecDepth 100000
open Go.RowKit

theorem PSet.same {w w' : World} {b m : Nat} {S : List (List Int)} (h : PSet w b m S) (hb : w'.heap[b]? = w.heap[b]?) : PSet w' b m S := by
  obtain ⟨D, ⟨es, clock, h1, h2⟩, h3⟩ := h
  exact ⟨D, ⟨es, clock, hb.trans h1, h2⟩, h3⟩
/-- Every map of texts is as it was. -/
def KeepT (w w' : World) : Prop := ∀ b m S, PSet w b m S → PSet w' b m S
theorem KeepT.of_own {w w' : World} {B n : Nat} {e : TypeId} {v : Value} {xs : List Value} (ho : w.ownsRow B e 1 v n xs) (hg : w.grownBy w' v.ownBlock) : KeepT w w' := fun b m S h => by
  refine h.kept hg fun e2 => ?_
  rcases ho.2 with ⟨rfl, _⟩ | ⟨g, cap, cur, rfl, _, hgg, _⟩
  · simp [Value.ownBlock] at e2
  · obtain ⟨D, ⟨es, clock, hb, _⟩, _⟩ := h
    simp [Value.ownBlock] at e2
    subst e2
    rw [hgg] at hb
    cases hb
theorem Sib.set {w w' : World} {B C k b m : Nat} {lv ov : Value} {vs us : List Value} {Z U S : List (List Int)} (h : Sib w B C lv vs Z ov us U k) (hP : PSet w b m S) (hg : w.grownBy w' (some b)) : Sib w' B C lv vs Z ov us U k :=
  ⟨hP.own hg h.all, h.alli.keepI (hP.keepI hg), hP.own hg h.out, h.outi.keepI (hP.keepI hg), h.sub, h.since, h.apart⟩
theorem wpList_sift_keep {ops : Array Oper} {rest : List Oper} {o : Oper} {a : Act} {W : World} {Q : Exit → Act → World → Prop} (hgd : o.guard = none) (sl x : Operand)
    (ho : o.op = .call { callee := .builtin .append, args := #[sl, x], argTypes := #[22, 22] })
    (B C : Nat) (W0 wr : World) (lv v u : Value) (vs us : List Value) (Z U : List (List Int)) (k : Nat) (z : List Int) (hs : a.eval sl = v) (hx : a.eval x = .slice (some ⟨wr.heap.size, 0, none⟩) 1 1) (hW : W = wr.alloc (.cells #[u] 29))
    (h : Sib wr B C lv vs Z v us U k) (hu : vs[k]? = some u) (hz : Z[k]? = some z) (hn : U.length ≤ 1048576) (hb : Below B W0 wr) (hbase : B ≤ W0.heap.size)
    (K : ∀ v' w', Sib w' B C lv vs Z v' (us ++ [u]) (U ++ [z]) (k + 1) → Below B W0 w' → KeepT wr w' → wpList Try.prog ops Q rest (a.put o.dst v') w') : wpList Try.prog ops Q (o :: rest) a W := by
  obtain ⟨i0, hi, hz0, hz1, hz2⟩ := info_parts rowsInfo
  have hal := (Below.refl wr.heap.size wr).alloc (Nat.le_refl _) (.cells #[u] 29)
  have h0 := h.below hal
  have hBw : B ≤ wr.heap.size := Nat.le_trans hbase hb.size
  have hr := h.alli.row k u z hu hz
  obtain ⟨A1, c1, rfl⟩ := hr.slice
  subst hW
  refine wpList_append_own_at _ hgd sl x 22 ho B 29 i0 (.slice none 0 0) 1 24 Try.underlying22 hi hz0 hz1 hz2 rfl (by decide) v _ _ hs h0.out ⟨wr.heap.size, 0, none⟩ 1 1 [.slice A1 z.length c1] hx rfl ?_ ?_ (by unfold maxLen; omega) (by omega) (by simp; omega) ?_
  · intro j y hj
    match j, hj with
    | 0, hj => simp at hj; subst hj; simp [Addr.add]
  · intro y hy
    obtain rfl := List.mem_singleton.1 hy
    rfl
  · intro v' w' h1 h2 _ h4
    have hk := KeepI.of_grown h0.out h2
    have hkt : KeepT wr w' := fun b m S hP => (KeepT.of_own h0.out h2) b m S (hP.later hal)
    refine K v' w' ⟨h0.all.kept h2 h0.apart, h0.alli.keepI hk, by rw [List.length_append]; exact h1, ?_, ?_, h.since, ?_⟩ ?_ hkt
    · refine (h0.outi.keepI hk).push ((h0.alli.row k _ z hu hz).keepI hk) fun y hy => ?_
      rcases h.sub y hy with h6 | h6
      · obtain ⟨i, hik, hy2⟩ := mem_take_at h6
        exact pair_at h.alli.away hik hy2 hu
      · exact apart h6 (h.since _ (List.mem_of_getElem? hu)) (Nat.le_refl _)
    · intro y hy
      rcases List.mem_append.1 hy with hy | hy
      · rcases h.sub y hy with h6 | h6
        · rw [List.take_add_one]
          exact .inl (List.mem_append_left _ h6)
        · exact .inr h6
      · obtain rfl := List.mem_singleton.1 hy
        rw [List.take_add_one, hu]
        exact .inl (by simp)
    · rcases h4 with h4 | h4
      · rcases h.apart with ha | ha
        · exact .inl ha
        · exact .inr (by rw [h4]; exact ha)
      · cases hl : lv.ownBlock with
        | none => exact .inl hl
        | some g =>
          refine .inr ?_
          rw [hl, h4]
          intro e
          have h5 := (h.all.lt g hl).2
          have h6 := (h0.all.lt g hl).2
          simp at e
          omega
    · exact (hb.trans (hal.mono hBw)).grown h2 (by simp; omega) (fun g hg => (h.out.lt g hg).1)
end Go.Proofs.Ytplchjeamooliaa
