/-
  Words and contracts that the laws lean on, bundled: NearC, ParS, Jots, TxtI, ParI, NearV, LaidU.
-/
import Derived.Test.YtabfjmabiapgoaaDoorB2
import Derived.Test.YtabfjmabiapgoaaDoorB5
import Derived.Test.YtabfjmabiapgoaaDoorB3
import Derived.Test.YtabfjmabiapgoaaDoorB4
import Derived.Laws.ResultCell
import Derived.Test.YtabfjmabiapgoaaDoorB6
import Derived.Laws.BitsLemmas
import Derived.Laws.Bits64b
import Derived.Lib.ConvBytes
import Derived.Lib.AtoiErrMem
import Derived.Deep.RegionLaw
import Derived.Test.YtabfjmabiapgoaaDoorCards
import Derived.Test.YtabfjmabiapgoaaDoorTie
import Derived.Deep.DeepHandedRow
import Derived.Deep.DeepWitnessRowRef

/-
  spec.ConsecutiveOf, by its contract.
-/

namespace Go.Proofs.YtabfjmabiapgoaaDoor
set_option maxRecDepth 100000
open Go.RowKit

theorem results_near {P : Program} {fn : Func} {p u : Tmp} {ty : TypeId} (h : fn.results = #[.cell p ty, .tmp u]) (tmps : Array Value) (w : World) (g : Nat) (t : TypeId) (cs : Array Value) (fr : Nat × Nat) (d : TypeDesc)
    (hp : tmps.getD p undef = .pointer (some ⟨g, 0, none⟩)) (hg : w.heap[g]? = some (.cells cs t fr))
    (hu : P.underlying ty = some d) (hd : (match d with | .struct _ | .array _ _ => true | _ => false) = true) (hi : (P.info? ty).map (·.size) = some cs.size) :
    (results fn tmps).run P w = .ok (.tuple #[.agg cs, tmps.getD u undef]) w := by
  rw [results_cell_tmp h, hp]
  simp [asAddr, Result.andThen, run_loadVar_row w g t ty cs fr d hg hu hd hi]
theorem grownBy_setCellA (w : World) (p : Addr) (v : Value) : w.grownBy (w.setCell p v) (some p.block) := ⟨rfl, rfl, rfl, by simp, fun k _ hk => Below.heap_setCell w p v k (fun e => hk (by rw [e]))⟩
theorem away_block {v : Value} {g : Nat} (hu : Until g v) : v.ownBlock = none ∨ v.ownBlock ≠ some g := by
  cases ho : v.ownBlock with
  | none => exact .inl rfl
  | some k => exact .inr fun e => by have := hu k ho; injection e with e; omega
theorem nearB_end {w w3 : World} {B : Nat} {pv jv : Value} {q J : List Int} (b : Bool) (hIn : NearAt w3 B pv jv q J) (hB : w.heap.size < B) (hb : Below w.heap.size w w3) :
    GivesNB w q J b (.returned (.tuple #[.agg #[pv, jv], .bool b])) ((w3.setCell ⟨w.heap.size, 0, none⟩ pv).setCell ⟨w.heap.size, 1, none⟩ jv) :=
  GivesNB.mk b (((hIn.past (by simpa using hB) _).past (by simpa using hB) _).low (by omega)) ((hb.setCell (Nat.le_refl _) _).setCell (Nat.le_refl _) _)
theorem own_past {w : World} {B n k : Nat} {e : TypeId} {v : Value} {xs : List Value} (h : w.ownsRow B e k v n xs) {p : Addr} (hp : p.block < B) (u : Value) : (w.setCell p u).ownsRow B e k v n xs := by
  refine ⟨h.1, ?_⟩
  rcases h.2 with hn | ⟨g, cap, cur, rfl, hb, hgg, hr⟩
  · exact .inl hn
  · exact .inr ⟨g, cap, cur, rfl, hb, (Below.heap_setCell w p u g (by omega)).trans hgg, hr⟩
def conK (j : Nat) : List Int := (List.range j).map fun (i : Nat) => (i : Int) + 1
theorem conK_step (j : Nat) : conK (j + 1) = conK j ++ [(j : Int) + 1] := by unfold conK; rw [List.range_succ, List.map_append]; rfl
theorem con_own {w : World} {B j : Nat} {v : Value} (h : w.ownsRow B 3 1 v (j + 1) (i64s (conK j) ++ [.int .i64 ((j : Int) + 1)])) : ∃ A c, v = .slice A (j + 1) c ∧ w.ownsRow B 3 1 (.slice A (j + 1) c) (j + 1) (i64s (conK (j + 1))) := by
  have e : i64s (conK j) ++ [.int .i64 ((j : Int) + 1)] = i64s (conK (j + 1)) := by rw [conK_step, ← i64_append]; rfl
  rw [e] at h
  rcases h.2 with ⟨_, h0⟩ | ⟨g, cap, cur, rfl, hr⟩
  · omega
  · exact ⟨_, _, rfl, h⟩
def conQ (q : List Int) : List Int := if isP q then q else []
def conR (q : List Int) : List Int := if isP q then conJ q.length else []
theorem con_sizes (q : List Int) : (conQ q).length ≤ 1048576 ∧ (conR q).length ≤ 1048576 := by
  unfold conQ conR
  cases h : isP q with
  | true => have h8 := isP_le h; simp [conJ]; omega
  | false => simp
set_option maxHeartbeats 1600000 in
theorem sconn_any (A : Option Addr) (n c B : Nat) (q : List Int) (w : World) (h : Arg w B A n c q) :
    Calls Tryd.prog 15 #[.slice A n c] w (GivesNB w (conQ q) (conR q) (isP q)) := by
  obtain ⟨i0, hi, hz0, hz1, hz2⟩ := info_parts intInfo
  have hl := h.len
  have hle := h.le
  obtain ⟨b, hb⟩ : ∃ b, isP q = b := ⟨_, rfl⟩
  have hbel := (Below.refl w.heap.size w).alloc (Nat.le_refl _) (.cells #[.slice none 0 0, .slice none 0 0] 26)
  have hW := Whole.new w 26 #[.slice none 0 0, .slice none 0 0]
  have H0 := hide (sisperm_any A n c B q b hb _ (h.below hbel).reads h.le h.cap)
  cases b with
  | false =>
    rw [show conQ q = [] by unfold conQ; rw [hb]; rfl, show conR q = [] by unfold conR; rw [hb]; rfl, hb]
    clear h hl hb
    go_enter Tryd.func15, Tryd.ntmps15
    go_wp2_with fail
    refine (unhide H0).mono ?_
    rintro e w1 ⟨rfl, hd⟩
    have hW1 := hW.below (hd.below (w.heap.size + 1)) (Nat.lt_succ_self _)
    have hb1 := hbel.trans (hd.below w.heap.size)
    have r0 := hW1.cell 0
    have r1 := hW1.cell 1
    have g0 := hW1.frozen 0
    have g1 := hW1.frozen 1
    have hltr := hW1.lt
    simp only [List.getElem?_toArray, List.getElem?_cons_zero, List.getElem?_cons_succ] at r0 r1
    clear hd H0 hW hbel
    go_wp2_with fail
    have hWe := (hW1.put 0 (.slice none 0 0)).put 1 (.slice none 0 0)
    refine bodyPost_ret (v := .tuple #[.agg #[.slice none 0 0, .slice none 0 0], .bool false]) (results_near Tryd.results15 _ _ w.heap.size 26 _ (0, 0) _ rfl hWe Tryd.underlying26 rfl nearInfo) rfl ?_
    exact nearB_end false (NearAt.none_ w1 (w.heap.size + 1)) (Nat.lt_succ_self _) hb1
  | true =>
    have hn8 : n ≤ 8 := by have := isP_le hb; omega
    rw [show conQ q = q by unfold conQ; rw [hb]; rfl, show conR q = conK (n - 1) by unfold conR; rw [hb, hl]; rfl, hb]
    have HA := hide h
    have HL := hide hl
    clear h hl hb
    go_enter Tryd.func15, Tryd.ntmps15
    go_wp2_with fail
    refine (unhide H0).mono ?_
    rintro e w1 ⟨rfl, hd⟩
    have hs1 : w1.heap.size = w.heap.size + 1 := by rw [hd.size]; simp
    have hW1 := hW.below (hd.below (w.heap.size + 1)) (Nat.lt_succ_self _)
    have hb1 := hbel.trans (hd.below w.heap.size)
    have hb1e : Below w1.heap.size w1 (w1.alloc (.cells #[] 3)) := (Below.refl _ w1).alloc (Nat.le_refl _) _
    have hown0 := own0 w1 w1.heap.size (Nat.le_refl _)
    have hAe := ((unhide HA).below hb1).below hb1e
    have hze : w1.heap.size ≤ (w1.alloc (.cells #[] 3)).heap.size := hb1e.size
    have HS1 := hide hs1
    have HW1 := hide (⟨hW1, hb1⟩ : Whole w1 w.heap.size 26 #[.slice none 0 0, .slice none 0 0] ∧ Below w.heap.size w w1)
    clear hd H0 hW hbel hs1 hW1 hb1
    go_wp2_with (first
      | (at_builtin; refine wpList_append_arg rfl (.tmp 10) (.tmp 11) rfl w1.heap.size B 0 n c w1 _ A [] q rfl rfl hown0 hAe (by omega) hb1e hze ?_; intro v' w2 hown2 hb2 hg2; have hI2 := Ints.of_own hown2; rw [List.nil_append] at hI2; obtain ⟨A2, c2, rfl⟩ := hI2.slice; have hN := Whole.new w2 26 #[.slice none 0 0, .slice none 0 0]; have r0 := hN.cell 0; have r1 := hN.cell 1; have f0 := hN.frozen 0; have f1 := hN.frozen 1; have hlt2 := hN.lt; simp only [List.getElem?_toArray, List.getElem?_cons_zero, List.getElem?_cons_succ] at r0 r1; clear hown2 hg2))
    have hl2 : q.length = n := unhide HL
    obtain ⟨hW1, hb1⟩ := unhide HW1
    have hs1 := unhide HS1
    have hz2' := hb2.size
    obtain ⟨g, hg⟩ : ∃ g, g = w2.heap.size := ⟨_, rfl⟩
    obtain ⟨w5, hw5⟩ : ∃ w5, w5 = w2.alloc (.cells #[.slice A2 q.length c2, .slice none 0 0] 26) := ⟨_, rfl⟩
    have hb25 : Below w2.heap.size w2 w5 := by rw [hw5]; exact (Below.refl _ w2).alloc (Nat.le_refl _) _
    have hG5 : Whole w5 g 26 #[.slice A2 q.length c2, .slice none 0 0] := by rw [hw5, hg]; exact Whole.new _ _ _
    have hR5 : Whole w5 w.heap.size 26 #[.slice none 0 0, .slice none 0 0] := (hW1.below hb2 (by omega)).below hb25 (by omega)
    have hU5 : Until g (.slice A2 q.length c2) := by rw [hg]; exact hI2.until_
    have hP5 : Ints w5 (w.heap.size + 1) (.slice A2 q.length c2) q := (hI2.below hb25).low (by omega)
    have hB5 : Below w.heap.size w w5 := (hb1.trans (hb2.mono (by omega))).trans (hb25.mono (by omega))
    have hg1 : w.heap.size < g := by omega
    rw [hl2] at hG5 hU5 hP5 hw5
    rw [hl2]
    rw [← hw5, ← hg]
    have HI0 := hide (⟨i0, hi, hz0, hz1, hz2⟩ : ∃ i0, Tryd.prog.info? 3 = some i0 ∧ i0.zero = some (.int .i64 0) ∧ i0.size = 1 ∧ i0.bytes = 8)
    clear hw5 hb25 hW1 hb1 hb1e hown0 hAe hze HS1 HW1 hb2 hI2 hN r0 r1 f0 f1 hlt2 HA HL hz2' hg hs1
    go_loopw [5] (fun kv wr => ∃ (j : Nat) (Aj : Option Addr) (cj : Nat), j ≤ n - 1 ∧ kv = .int .i64 ((j : Int) + 1) ∧ Whole wr g 26 #[.slice A2 n c2, .slice Aj j cj] ∧ wr.ownsRow (g + 1) 3 1 (.slice Aj j cj) j (i64s (conK j)) ∧
        Whole wr w.heap.size 26 #[.slice none 0 0, .slice none 0 0] ∧ Ints wr (w.heap.size + 1) (.slice A2 n c2) q ∧ Below w.heap.size w wr) (fun kv _ => n + 1 - (intOf kv).toNat)
    case atStart => exact ⟨0, none, 0, Nat.zero_le _, rfl, hG5, World.ownsRow_nil _ _ _ _, hR5, hP5, hB5⟩
    case round =>
      obtain ⟨j, Aj, cj, hj, rfl, hG, hO, hR, hP, hB⟩ := hrel
      clear hG5 hR5 hP5 hB5
      have r0 := hG.cell 0
      have r1 := hG.cell 1
      have f1 := hG.frozen 1
      have hltg := hG.lt
      simp only [List.getElem?_toArray, List.getElem?_cons_zero, List.getElem?_cons_succ] at r0 r1
      by_cases hlt : j + 1 < n
      · have hlt' : (j : Int) + 1 < (n : Int) := by omega
        have hwj : IntKind.i64.wrap ((j : Int) + 1 + 1) = (j : Int) + 1 + 1 := by rw [IntKind.wrap_i64]; omega
        have HF := hide (⟨hG, hR, hP, hB, hO⟩ : Whole wr g 26 #[.slice A2 n c2, .slice Aj j cj] ∧ Whole wr w.heap.size 26 #[.slice none 0 0, .slice none 0 0] ∧ Ints wr (w.heap.size + 1) (.slice A2 n c2) q ∧ Below w.heap.size w wr ∧ wr.ownsRow (g + 1) 3 1 (.slice Aj j cj) j (i64s (conK j)))
        obtain ⟨i0, hi, hz0, hz1, hz2⟩ := unhide HI0
        clear hG hR hP hB
        go_wp2_with (first
          | (at_builtin; refine wpList_append_one rfl (.tmp 21) (.tmp 23) 24 rfl (g + 1) 3 i0 (.int .i64 0) 8 Tryd.underlying24 hi hz0 hz1 hz2 rfl wr wr _ j (i64s (conK j)) rfl hO (.int .i64 ((j : Int) + 1)) rfl rfl rfl (by omega) (by unfold maxLen; omega) (Below.refl _ _) hltg ?_; intro v' w' hO' hb' hg'; obtain ⟨A', c', rfl, hO2⟩ := con_own hO'; have r1' := ((unhide HF).1.below hb' (Nat.lt_succ_self g)).cell 1; have f1' := ((unhide HF).1.below hb' (Nat.lt_succ_self g)).frozen 1; simp only [List.getElem?_toArray, List.getElem?_cons_zero, List.getElem?_cons_succ] at r1'; clear hO' hO))
        obtain ⟨hG, hR, hP, hB, hO⟩ := unhide HF
        have hG' := (hG.below hb' (Nat.lt_succ_self g)).put 1 (.slice A' (j + 1) c')
        have hO3 := own_past hO2 (p := ⟨g, 1, none⟩) (Nat.lt_succ_self g) (.slice A' (j + 1) c')
        have hR' := (hR.below hb' (show w.heap.size < g + 1 by omega)).far (p := ⟨g, 1, none⟩) (by simp; omega) (.slice A' (j + 1) c')
        have hP' := (hP.kept hg' (apart hU5 (fun k hk => (hO.lt k hk).1) (Nat.le_succ g))).kept (grownBy_setCellA w' ⟨g, 1, none⟩ (.slice A' (j + 1) c')) (away_block hU5)
        have hB' := (hB.trans (hb'.mono (show w.heap.size ≤ g + 1 by omega))).setCell (p := ⟨g, 1, none⟩) (by show w.heap.size ≤ g; omega) (.slice A' (j + 1) c')
        clear hG hR hP hB hO HF
        go_roundw
        case rel => exact ⟨j + 1, A', c', by omega, by go_num, hG', hO3, hR', hP', hB'⟩
        case measure => simp [intOf]; omega
      · have hge : ¬ ((j : Int) + 1 < (n : Int)) := by omega
        have hjn : j = n - 1 := by omega
        have s0 := hR.cell 0
        have s1 := hR.cell 1
        have e0 := hR.frozen 0
        have e1 := hR.frozen 1
        have hltr := hR.lt
        simp only [List.getElem?_toArray, List.getElem?_cons_zero, List.getElem?_cons_succ] at s0 s1
        have hN : NearAt wr (w.heap.size + 1) (.slice A2 n c2) (.slice Aj j cj) q (conK (n - 1)) := ⟨hP, by rw [← hjn]; exact (Ints.of_own hO).low (show w.heap.size + 1 ≤ g + 1 by omega), apart hU5 (fun k hk => (hO.lt k hk).1) (Nat.le_succ g)⟩
        have HN := hide (⟨hR, hN, hB⟩ : Whole wr w.heap.size 26 #[.slice none 0 0, .slice none 0 0] ∧ NearAt wr (w.heap.size + 1) (.slice A2 n c2) (.slice Aj j cj) q (conK (n - 1)) ∧ Below w.heap.size w wr)
        clear hG hR hP hB hO hN hjn hlt
        go_wp2_with fail
        obtain ⟨hR, hN, hB⟩ := unhide HN
        have hWe := (hR.put 0 (.slice A2 n c2)).put 1 (.slice Aj j cj)
        refine bodyPost_ret (v := .tuple #[.agg #[.slice A2 n c2, .slice Aj j cj], .bool true]) (results_near Tryd.results15 _ _ w.heap.size 26 _ (0, 0) _ rfl hWe Tryd.underlying26 rfl nearInfo) rfl ?_
        exact nearB_end true hN (Nat.lt_succ_self _) hB
end Go.Proofs.YtabfjmabiapgoaaDoor


/-
  spec.ParseNear, by its contract.
-/

namespace Go.Proofs.YtabfjmabiapgoaaDoor
set_option maxRecDepth 100000
open Go.RowKit

theorem scanJ_len (L : List UInt8) : ∀ k, (scanJ L k).length ≤ k
  | 0 => Nat.le_refl _
  | k + 1 => by
    have := scanJ_len L k
    rw [scanJ]; split
    · omega
    · split <;> simp <;> omega
theorem scanJ_small (L : List UInt8) : ∀ k, ∀ z ∈ scanJ L k, 0 ≤ z ∧ z ≤ (L.length : Int)
  | 0, z, h => by simp [scanJ] at h
  | k + 1, z, h => by
    rw [scanJ] at h
    split at h
    · exact scanJ_small L k z h
    · split at h
      · rw [List.mem_append, List.mem_singleton] at h
        rcases h with h | rfl
        · exact scanJ_small L k z h
        · have h1 : (scanD (L.take k)).length ≤ (L.take k).length := List.length_filter_le _ _
          rw [List.length_take] at h1
          omega
      · exact scanJ_small L k z h
theorem scanD_take {L : List UInt8} {k : Nat} {b : UInt8} (hb : L[k]? = some b) : scanD (L.take (k + 1)) = if b = 95 then scanD (L.take k) else scanD (L.take k) ++ [b] := by
  unfold scanD
  rw [List.take_add_one, hb, Option.toList_some, List.filter_append]
  by_cases h : b = 95
  · rw [if_pos h, List.filter_cons_of_neg (by simp [h])]; simp
  · rw [if_neg h, List.filter_cons_of_pos (by simp [h])]; rfl
theorem scanJ_gap {L : List UInt8} {k : Nat} (hb : L[k]? = some 95) : scanJ L (k + 1) = scanJ L k := by rw [scanJ, if_pos (by rw [hb]; rfl)]
theorem scanJ_yes {L : List UInt8} {k : Nat} {b a : UInt8} (hb : L[k + 1]? = some b) (h : b ≠ 95) (ha : L[k]? = some a) (h2 : a ≠ 95) : scanJ L (k + 1 + 1) = scanJ L (k + 1) ++ [((scanD (L.take (k + 1))).length : Int)] := by
  rw [scanJ, if_neg (by rw [hb]; exact h), if_pos ⟨by omega, by rw [show k + 1 - 1 = k by omega, ha]; exact h2⟩]
theorem scanJ_no {L : List UInt8} {k : Nat} {b a : UInt8} (hb : L[k + 1]? = some b) (h : b ≠ 95) (ha : L[k]? = some a) (h2 : a = 95) : scanJ L (k + 1 + 1) = scanJ L (k + 1) := by
  rw [scanJ, if_neg (by rw [hb]; exact h), if_neg (fun hh => hh.2 (by rw [show k + 1 - 1 = k by omega, ha]; exact h2))]
theorem scanJ_first {L : List UInt8} : scanJ L 1 = [] := by
  rw [scanJ]; split
  · rfl
  · rw [if_neg (by omega)]; rfl
theorem ppR_small (s : ByteArray) : Small (ppR s) := fun z hz => by
  unfold ppR at hz
  split at hz
  · simp at hz
  · split at hz
    · have := tnums_small z hz; omega
    · simp at hz
theorem byte_at {s : ByteArray} {k : Nat} (h : k < s.size) : s.data.toList[k]? = some s[k] := by
  have e : s.data.toList.length = s.size := size_list' s
  rw [List.getElem?_eq_getElem (by omega)]; rfl
theorem extract_one {s : ByteArray} {k : Nat} (h : k < s.size) : s.extract k (k + 1) = ⟨[s[k]].toArray⟩ := by
  refine ByteArray.ext ?_
  rw [ByteArray.data_extract]
  refine Array.ext' ?_
  rw [Array.toList_extract, List.extract_eq_take_drop]
  have e := byte_at h
  rw [show k + 1 - k = 1 by omega]
  have h2 : s.data.toList.drop k = s[k] :: s.data.toList.drop (k + 1) := by
    have e : s.data.toList.length = s.size := size_list' s
    rw [List.drop_eq_getElem_cons (by omega)]; rfl
  rw [h2]; rfl
set_option maxHeartbeats 3200000 in
theorem spar_any (s : ByteArray) (hs : s.size ≤ 1048576) (w : World) :
    Calls Tryd.prog 10 #[.string s] w (GivesNB w (parQ s) (parN s) (parOK s)) := by
  obtain ⟨i0, hi, hz0, hz1, hz2⟩ := info_parts intInfo
  obtain ⟨L, hL⟩ : ∃ L, L = s.data.toList := ⟨_, rfl⟩
  have hLl : L.length = s.size := by rw [hL, size_list']
  have HBY := hide (show ∀ k (h : k < s.size), L[k]? = some s[k] from fun k h => by rw [hL]; exact byte_at h)
  obtain ⟨w0, hw0⟩ : ∃ w0, w0 = (w.alloc (.cells #[.slice none 0 0, .slice none 0 0] 26)).alloc (.cells #[.slice none 0 0, .slice none 0 0] 26) := ⟨_, rfl⟩
  have b0 : Below w.heap.size w w0 := by rw [hw0]; exact ((Below.refl _ w).alloc (Nat.le_refl _) _).alloc (by simp) _
  have hR0 : Whole w0 w.heap.size 26 #[.slice none 0 0, .slice none 0 0] := by rw [hw0]; exact (Whole.new _ _ _).alloc _
  obtain ⟨g, hg⟩ : ∃ g, g = w.heap.size + 1 := ⟨_, rfl⟩
  have hG0 : Whole w0 g 26 #[.slice none 0 0, .slice none 0 0] := by
    rw [hw0, hg]
    have := Whole.new (w.alloc (.cells #[.slice none 0 0, .slice none 0 0] 26)) 26 #[.slice none 0 0, .slice none 0 0]
    rwa [World.size_alloc] at this
  have HW0 := hide hw0
  have HI0 := hide (⟨hi, hz0, hz1, hz2⟩ : Tryd.prog.info? 3 = some i0 ∧ i0.zero = some (.int .i64 0) ∧ i0.size = 1 ∧ i0.bytes = 8)
  have HGW := hide hg
  clear hw0 hi hz0 hz1 hz2
  go_enter Tryd.func10, Tryd.ntmps10
  go_wp2
  rw [← unhide HW0, ← hg]
  have hgw : w.heap.size < g := by omega
  have HLL := hide hL
  clear HW0 hg hL
  go_loopw [5, 6] (fun d i wr => ∃ (k j : Nat) (Aj : Option Addr) (cj : Nat), k ≤ s.size ∧ i = .int .i64 k ∧ d = .string ⟨(scanD (L.take k)).toArray⟩ ∧ j = (scanJ L k).length ∧ Whole wr g 26 #[.slice none 0 0, .slice Aj j cj] ∧ wr.ownsRow (g + 1) 3 1 (.slice Aj j cj) j (i64s (scanJ L k)) ∧
      Whole wr w.heap.size 26 #[.slice none 0 0, .slice none 0 0] ∧ Below w.heap.size w wr) (fun _ i _ => s.size - (intOf i).toNat)
  case atStart => exact ⟨0, 0, none, 0, Nat.zero_le _, rfl, rfl, rfl, hG0, World.ownsRow_nil _ _ _ _, hR0, b0⟩
  case round =>
    obtain ⟨k, j, Aj, cj, hk, rfl, rfl, hj, hG, hO, hR, hB⟩ := hrel
    clear hG0 hR0 b0
    have hDl : (scanD (L.take k)).length ≤ k := by have h1 : (scanD (L.take k)).length ≤ (L.take k).length := List.length_filter_le _ _; rw [List.length_take] at h1; omega
    have hjk : j ≤ k := by rw [hj]; exact scanJ_len L k
    by_cases hlt : k < s.size
    · have hb := unhide HBY k hlt
      have hst := scanD_take hb
      by_cases h95 : s[k] = 95
      · rw [if_pos h95] at hst
        have hjs := scanJ_gap (h95 ▸ hb)
        have h95' : (s[k].toNat : Int) = 95 := by rw [h95]; rfl
        have HN := hide (⟨hst, hjs, hj, hG, hO, hR, hB⟩ : scanD (L.take (k + 1)) = scanD (L.take k) ∧ scanJ L (k + 1) = scanJ L k ∧ j = (scanJ L k).length ∧ Whole wr g 26 #[.slice none 0 0, .slice Aj j cj] ∧ wr.ownsRow (g + 1) 3 1 (.slice Aj j cj) j (i64s (scanJ L k)) ∧ Whole wr w.heap.size 26 #[.slice none 0 0, .slice none 0 0] ∧ Below w.heap.size w wr)
        clear hb hst h95 hjs hj hG hO hR hB
        go_wp2
        go_roundw
        case rel =>
          obtain ⟨h1, h2, h3, h4, h5, h6, h7⟩ := unhide HN
          exact ⟨k + 1, j, Aj, cj, by omega, by go_num, by rw [h1], by rw [h2]; exact h3, h4, by rw [h2]; exact h5, h6, h7⟩
        case measure => simp [intOf]; omega
      · rw [if_neg h95] at hst
        have hne : ((s[k].toNat : Int) == 95) = false := by
          rw [beq_eq_false_iff_ne]
          intro e
          exact h95 (UInt8.toNat_inj.1 (by rw [show (95 : UInt8).toNat = 95 from rfl]; omega))
        have hE := extract_one hlt
        obtain ⟨X, hX⟩ : ∃ X, X = scanD (L.take k) := ⟨_, rfl⟩
        rw [← hX] at hDl hst ⊢
        have hDD : ByteArray.mk X.toArray ++ ByteArray.mk [s[k]].toArray = ⟨(scanD (L.take (k + 1))).toArray⟩ := by rw [cat_list, hst]
        have HDD := hide hDD
        cases k with
        | zero =>
          have hjs : scanJ L 1 = scanJ L 0 := scanJ_first
          have HN := hide (⟨hj, hG, hO, hR, hB⟩ : j = (scanJ L 0).length ∧ Whole wr g 26 #[.slice none 0 0, .slice Aj j cj] ∧ wr.ownsRow (g + 1) 3 1 (.slice Aj j cj) j (i64s (scanJ L 0)) ∧ Whole wr w.heap.size 26 #[.slice none 0 0, .slice none 0 0] ∧ Below w.heap.size w wr)
          have HJS := hide hjs
          clear hb hst h95 hj hG hO hR hB hDD hX hjs
          go_wp2
          go_roundw
          case rel =>
            obtain ⟨h3, h4, h5, h6, h7⟩ := unhide HN
            exact ⟨1, j, Aj, cj, by omega, by go_num, by rw [unhide HDD], by rw [unhide HJS]; exact h3, h4, by rw [unhide HJS]; exact h5, h6, h7⟩
          case measure => simp [intOf]; omega
        | succ k2 =>
          have hlt2 : k2 < s.size := by omega
          have ha := unhide HBY k2 hlt2
          have hwk : IntKind.i64.wrap ((k2 : Int) + 1 - 1) = (k2 : Int) := by rw [IntKind.wrap_i64]; omega
          have hwk' : IntKind.i64.wrap (k2 : Int) = (k2 : Int) := by rw [IntKind.wrap_i64]; omega
          by_cases ha95 : s[k2] = 95
          · have hjs := scanJ_no hb h95 ha ha95
            have ha' : (s[k2].toNat : Int) = 95 := by rw [ha95]; rfl
            have HN := hide (⟨hj, hG, hO, hR, hB⟩ : j = (scanJ L (k2 + 1)).length ∧ Whole wr g 26 #[.slice none 0 0, .slice Aj j cj] ∧ wr.ownsRow (g + 1) 3 1 (.slice Aj j cj) j (i64s (scanJ L (k2 + 1))) ∧ Whole wr w.heap.size 26 #[.slice none 0 0, .slice none 0 0] ∧ Below w.heap.size w wr)
            have HJS := hide hjs
            clear hb hst h95 hj hG hO hR hB hDD hX hjs ha ha95
            go_wp2
            go_roundw
            case rel =>
              obtain ⟨h3, h4, h5, h6, h7⟩ := unhide HN
              exact ⟨k2 + 1 + 1, j, Aj, cj, by omega, by go_num, by rw [unhide HDD], by rw [unhide HJS]; exact h3, h4, by rw [unhide HJS]; exact h5, h6, h7⟩
            case measure => simp [intOf]; omega
          · have hjs := scanJ_yes hb h95 ha ha95
            rw [← hX] at hjs
            have ha' : ((s[k2].toNat : Int) == 95) = false := by
              rw [beq_eq_false_iff_ne]
              intro e
              exact ha95 (UInt8.toNat_inj.1 (by rw [show (95 : UInt8).toNat = 95 from rfl]; omega))
            have r0 := hG.cell 0
            have r1 := hG.cell 1
            have f1 := hG.frozen 1
            have hltg := hG.lt
            simp only [List.getElem?_toArray, List.getElem?_cons_zero, List.getElem?_cons_succ] at r0 r1
            have hjl : j + 1 = (scanJ L (k2 + 1 + 1)).length := by rw [hjs, List.length_append, ← hj]; rfl
            have hxs : i64s (scanJ L (k2 + 1)) ++ [Value.int .i64 (X.length : Int)] = i64s (scanJ L (k2 + 1 + 1)) := by rw [hjs]; unfold i64s; simp
            have HX2 := hide (⟨hxs, hjl⟩ : i64s (scanJ L (k2 + 1)) ++ [Value.int .i64 (X.length : Int)] = i64s (scanJ L (k2 + 1 + 1)) ∧ j + 1 = (scanJ L (k2 + 1 + 1)).length)
            have HF := hide (⟨hG, hR, hB⟩ : Whole wr g 26 #[.slice none 0 0, .slice Aj j cj] ∧ Whole wr w.heap.size 26 #[.slice none 0 0, .slice none 0 0] ∧ Below w.heap.size w wr)
            obtain ⟨hi, hz0, hz1, hz2⟩ := unhide HI0
            clear hb hst h95 hj hG hR hB hDD hX hjs ha ha95 hjl hxs
            go_wp2_with (at_builtin; refine wpList_append_one rfl (.tmp 30) (.tmp 33) 24 rfl (g + 1) 3 i0 (.int .i64 0) 8 Tryd.underlying24 hi hz0 hz1 hz2 rfl wr wr _ j (i64s (scanJ L (k2 + 1))) rfl hO (.int .i64 (X.length : Int)) rfl rfl rfl (by omega) (by unfold maxLen; omega) (Below.refl _ _) hltg ?_)
            intro v' w' hO' hb' hg'
            obtain ⟨A', c', rfl, _⟩ := own_form hO'
            obtain ⟨hG, hR, hB⟩ := unhide HF
            have hG1 := hG.below hb' (Nat.lt_succ_self g)
            have r1' := hG1.cell 1
            have f1' := hG1.frozen 1
            have l1' := hG1.lt
            simp only [List.getElem?_toArray, List.getElem?_cons_zero, List.getElem?_cons_succ] at r1'
            have hO2 := own_past hO' (p := ⟨g, 1, none⟩) (Nat.lt_succ_self g) (.slice A' (j + 1) c')
            rw [(unhide HX2).1] at hO2
            have hG2 := hG1.put 1 (.slice A' (j + 1) c')
            have hR2 := (hR.below hb' (show w.heap.size < g + 1 by omega)).far (p := ⟨g, 1, none⟩) (by simp; omega) (.slice A' (j + 1) c')
            have hB2 := (hB.trans (hb'.mono (show w.heap.size ≤ g + 1 by omega))).setCell (p := ⟨g, 1, none⟩) (by show w.heap.size ≤ g; omega) (.slice A' (j + 1) c')
            have HF2 := hide (⟨hG2, hO2, hR2, hB2⟩ : Whole (w'.setCell ⟨g, 1, none⟩ (.slice A' (j + 1) c')) g 26 #[.slice none 0 0, .slice A' (j + 1) c'] ∧ (w'.setCell ⟨g, 1, none⟩ (.slice A' (j + 1) c')).ownsRow (g + 1) 3 1 (.slice A' (j + 1) c') (j + 1) (i64s (scanJ L (k2 + 1 + 1))) ∧ Whole (w'.setCell ⟨g, 1, none⟩ (.slice A' (j + 1) c')) w.heap.size 26 #[.slice none 0 0, .slice none 0 0] ∧ Below w.heap.size w (w'.setCell ⟨g, 1, none⟩ (.slice A' (j + 1) c')))
            clear hO hO' hb' hg' hG hR hB hG1 hG2 hO2 hR2 hB2 r0 r1 f1 hltg hi hz0 hz1 hz2 HF
            go_wp2
            go_roundw
            case rel =>
              obtain ⟨h4, h5, h6, h7⟩ := unhide HF2
              exact ⟨k2 + 1 + 1, j + 1, A', c', by omega, by go_num, by rw [unhide HDD], (unhide HX2).2, h4, h5, h6, h7⟩
            case measure => simp [intOf]; omega
    · obtain rfl : k = s.size := by omega
      have hLt : L.take s.size = L := List.take_of_length_le (Nat.le_of_eq hLl)
      have hLL := unhide HLL
      rw [hLt]
      have hD : ByteArray.mk (scanD L).toArray = digB s := by rw [hLL]; rfl
      have hJ : scanJ L s.size = parJ s := by rw [hLL]; rfl
      rw [hD]
      rw [hJ] at hj hO
      have hjs : j ≤ 1048576 := by omega
      have hsm : Small (parJ s) := fun z hz => by
        have := scanJ_small L s.size z (by rw [hJ]; exact hz)
        omega
      have hds := digB_size s
      obtain ⟨b, hb⟩ : ∃ b, ppOK (digB s) = b := ⟨_, rfl⟩
      have H1 := hide (spp_any (digB s) (by omega) b hb wr)
      have HF := hide (⟨hG, hO, hR, hB⟩ : Whole wr g 26 #[.slice none 0 0, .slice Aj j cj] ∧ wr.ownsRow (g + 1) 3 1 (.slice Aj j cj) j (i64s (parJ s)) ∧ Whole wr w.heap.size 26 #[.slice none 0 0, .slice none 0 0] ∧ Below w.heap.size w wr)
      have HM := hide (⟨hjs, hsm⟩ : j ≤ 1048576 ∧ Small (parJ s))
      clear hG hO hR hB hD hJ hj hLt hLL hDl hjk hsm hjs
      go_wp2_with fail
      refine (unhide H1).mono ?_
      rintro e w2 ⟨A2, c2, rfl, o2, d2⟩
      obtain ⟨hG, hO, hR, hB⟩ := unhide HF
      have hG1 := hG.below d2 hG.lt
      have hR1 := hR.below d2 hR.lt
      have hB1 := below_after hB d2
      have hO1 := own_below hO d2
      have f0 := hG1.frozen 0
      have f1 := hG1.frozen 1
      have l1 := hG1.lt
      have r0 := hG1.cell 0
      simp only [List.getElem?_toArray, List.getElem?_cons_zero] at r0
      have hG2 : Whole (w2.setCell ⟨g, 0, none⟩ (.slice A2 (ppR (digB s)).length c2)) g 26 #[.slice A2 (ppR (digB s)).length c2, .slice Aj j cj] := hG1.put 0 (.slice A2 (ppR (digB s)).length c2)
      have hR2 := hR1.far (p := ⟨g, 0, none⟩) (by simp; omega) (.slice A2 (ppR (digB s)).length c2)
      have hB2 := hB1.setCell (p := ⟨g, 0, none⟩) (by show w.heap.size ≤ g; omega) (.slice A2 (ppR (digB s)).length c2)
      have hO2 := own_past hO1 (p := ⟨g, 0, none⟩) (Nat.lt_succ_self g) (.slice A2 (ppR (digB s)).length c2)
      have hgwr := hG.lt
      have o3 : Ints (w2.setCell ⟨g, 0, none⟩ (.slice A2 (ppR (digB s)).length c2)) wr.heap.size (.slice A2 (ppR (digB s)).length c2) (ppR (digB s)) := o2.past (p := ⟨g, 0, none⟩) hgwr _
      have hIJ : Ints (w2.setCell ⟨g, 0, none⟩ (.slice A2 (ppR (digB s)).length c2)) (g + 1) (.slice Aj j cj) (parJ s) := Ints.of_own hO2
      have haw : Away (.slice A2 (ppR (digB s)).length c2) (.slice Aj j cj) := apart' o2.since (show Until wr.heap.size (.slice Aj j cj) from fun k hk => (hO.lt k hk).2) (Nat.le_refl _)
      obtain ⟨w3, hw3⟩ : ∃ w3, w3 = w2.setCell ⟨g, 0, none⟩ (.slice A2 (ppR (digB s)).length c2) := ⟨_, rfl⟩
      have HW3 := hide hw3
      rw [← hw3] at hG2 hR2 hB2 o3 hIJ
      clear hG hO hR hB hG1 hR1 hB1 hO1 hO2 o2 d2 H1 HF hw3
      cases b with
      | false =>
        have hno : parOK s = false := by unfold parOK; rw [hb]; rfl
        have HNO := hide (⟨by unfold parQ; rw [hno]; rfl, by unfold parN; rw [hno]; rfl, hno⟩ : parQ s = [] ∧ parN s = [] ∧ parOK s = false)
        have q0 := hR2.cell 0
        have q1 := hR2.cell 1
        have e0 := hR2.frozen 0
        have e1 := hR2.frozen 1
        have hltr := hR2.lt
        simp only [List.getElem?_toArray, List.getElem?_cons_zero, List.getElem?_cons_succ] at q0 q1
        rw [unhide HW3] at q0 q1 e0 e1 hltr
        have HN := hide (⟨hR2, hB2⟩ : Whole w3 w.heap.size 26 #[.slice none 0 0, .slice none 0 0] ∧ Below w.heap.size w w3)
        clear hR2 hB2 hG2 o3 hIJ haw hb hno
        go_wp2_with fail
        obtain ⟨hR, hB⟩ := unhide HN
        have hWe := (hR.put 0 (.slice none 0 0)).put 1 (.slice none 0 0)
        rw [unhide HW3] at hWe hB
        refine bodyPost_ret (v := .tuple #[.agg #[.slice none 0 0, .slice none 0 0], .bool false]) (results_near Tryd.results10 _ _ w.heap.size 26 _ (0, 0) _ rfl hWe Tryd.underlying26 rfl nearInfo) rfl ?_
        rw [(unhide HNO).1, (unhide HNO).2.1, (unhide HNO).2.2]
        exact nearB_end false (NearAt.none_ _ (w.heap.size + 1)) (Nat.lt_succ_self _) hB
      | true =>
        have hp8 := ppR_le (digB s)
        have H2 := hide (sntxt_any A2 Aj (ppR (digB s)).length c2 w3.heap.size j cj w3.heap.size (ppR (digB s)) (parJ s) w3 (o3.arg (by omega) o3.cap (ppR_small _)) (by
          have h1 := hIJ.len
          exact hIJ.arg (by have := (unhide HM).1; omega) hIJ.cap (unhide HM).2))
        have q0 := hG2.cell 0
        have q1 := hG2.cell 1
        simp only [List.getElem?_toArray, List.getElem?_cons_zero, List.getElem?_cons_succ] at q0 q1
        rw [unhide HW3] at q0 q1
        have HN := hide (⟨hG2, hR2, hB2, o3, hIJ, haw⟩ : Whole w3 g 26 #[.slice A2 (ppR (digB s)).length c2, .slice Aj j cj] ∧ Whole w3 w.heap.size 26 #[.slice none 0 0, .slice none 0 0] ∧ Below w.heap.size w w3 ∧ Ints w3 wr.heap.size (.slice A2 (ppR (digB s)).length c2) (ppR (digB s)) ∧ Ints w3 (g + 1) (.slice Aj j cj) (parJ s) ∧ Away (.slice A2 (ppR (digB s)).length c2) (.slice Aj j cj))
        have HB := hide hb
        clear hR2 hB2 hG2 o3 hIJ haw hb
        go_wp2_with fail
        rw [← unhide HW3]
        refine (unhide H2).mono ?_
        rintro e w4 ⟨rfl, d4⟩
        obtain ⟨hG, hR, hB, o4, hIJ, haw⟩ := unhide HN
        have hG4 := hG.below d4 hG.lt
        have hR4 := hR.below d4 hR.lt
        have hB4 := below_after hB d4
        have hNr : NearAt w4 (w.heap.size + 1) (.slice A2 (ppR (digB s)).length c2) (.slice Aj j cj) (ppR (digB s)) (parJ s) := ⟨(o4.below d4).low (by omega), (hIJ.below d4).low (by omega), haw⟩
        have q0 := hR4.cell 0
        have q1 := hR4.cell 1
        have e0 := hR4.frozen 0
        have e1 := hR4.frozen 1
        have hltr := hR4.lt
        have p0 := hG4.cell 0
        have p1 := hG4.cell 1
        simp only [List.getElem?_toArray, List.getElem?_cons_zero, List.getElem?_cons_succ] at q0 q1 p0 p1
        obtain ⟨T, hT⟩ : ∃ T, T = ntext (ppR (digB s)) (parJ s) := ⟨_, rfl⟩
        rw [← hT]
        by_cases hTs : T = s
        · have hyes : parOK s = true := by unfold parOK; rw [unhide HB, ← hT, decide_eq_true hTs]; rfl
          have HNO := hide (⟨by unfold parQ; rw [hyes]; rfl, by unfold parN; rw [hyes]; rfl, hyes⟩ : parQ s = ppR (digB s) ∧ parN s = parJ s ∧ parOK s = true)
          have HN2 := hide (⟨hR4, hB4, hNr⟩ : Whole w4 w.heap.size 26 #[.slice none 0 0, .slice none 0 0] ∧ Below w.heap.size w w4 ∧ NearAt w4 (w.heap.size + 1) (.slice A2 (ppR (digB s)).length c2) (.slice Aj j cj) (ppR (digB s)) (parJ s))
          rw [hTs]
          clear hG hR hB o4 hIJ haw hG4 hR4 hB4 hNr hyes hTs hT HN H2 HB d4
          go_wp2_with fail
          obtain ⟨hR, hB, hNr⟩ := unhide HN2
          have hWe := (hR.put 0 (.slice A2 (ppR (digB s)).length c2)).put 1 (.slice Aj j cj)
          refine bodyPost_ret (v := .tuple #[.agg #[.slice A2 (ppR (digB s)).length c2, .slice Aj j cj], .bool true]) (results_near Tryd.results10 _ _ w.heap.size 26 _ (0, 0) _ rfl hWe Tryd.underlying26 rfl nearInfo) rfl ?_
          rw [(unhide HNO).1, (unhide HNO).2.1, (unhide HNO).2.2]
          exact nearB_end true hNr (Nat.lt_succ_self _) hB
        · have hno : parOK s = false := by unfold parOK; rw [unhide HB, ← hT, decide_eq_false hTs]; rfl
          have HNO := hide (⟨by unfold parQ; rw [hno]; rfl, by unfold parN; rw [hno]; rfl, hno⟩ : parQ s = [] ∧ parN s = [] ∧ parOK s = false)
          have HN2 := hide (⟨hR4, hB4⟩ : Whole w4 w.heap.size 26 #[.slice none 0 0, .slice none 0 0] ∧ Below w.heap.size w w4)
          have hne : (T.data.toList == s.toList) = false := by
            rw [ByteArray.toList_eq, beq_eq_false_iff_ne]
            intro e
            exact hTs (by cases T; cases s; simpa using e)
          have hne2 : (T.toList == s.toList) = false := by
            rw [ByteArray.toList_eq, ByteArray.toList_eq, beq_eq_false_iff_ne]
            intro e
            exact hTs (by cases T; cases s; simpa using e)
          clear hG hR hB o4 hIJ haw hG4 hR4 hB4 hNr hno hTs hT HN H2 HB d4
          go_wp2_with fail
          obtain ⟨hR, hB⟩ := unhide HN2
          have hWe := (hR.put 0 (.slice none 0 0)).put 1 (.slice none 0 0)
          refine bodyPost_ret (v := .tuple #[.agg #[.slice none 0 0, .slice none 0 0], .bool false]) (results_near Tryd.results10 _ _ w.heap.size 26 _ (0, 0) _ rfl hWe Tryd.underlying26 rfl nearInfo) rfl ?_
          rw [(unhide HNO).1, (unhide HNO).2.1, (unhide HNO).2.2]
          exact nearB_end false (NearAt.none_ _ (w.heap.size + 1)) (Nat.lt_succ_self _) hB
end Go.Proofs.YtabfjmabiapgoaaDoor


/-
  impl.joints (a bit for each joined number): jointsOf, has, fit; impl.IsNear, by their contracts.
-/

namespace Go.Proofs.YtabfjmabiapgoaaDoor
set_option maxRecDepth 100000
open Go.RowKit

/-- A bit for each number. -/
def jB (J : List Int) : Nat := J.foldl (fun a j => a ||| 2 ^ j.toNat) 0
theorem jB_nil : jB [] = 0 := rfl
theorem jB_snoc (J : List Int) (x : Int) : jB (J ++ [x]) = jB J ||| 2 ^ x.toNat := by unfold jB; rw [List.foldl_append]; rfl
theorem jB_step {J : List Int} {k : Nat} {x : Int} (hx : J[k]? = some x) : jB (J.take (k + 1)) = jB (J.take k) ||| 2 ^ x.toNat := by rw [take_snoc_i hx, jB_snoc]
theorem jB_lt_aux : ∀ (J : List Int) (a : Nat), a < 512 → (∀ x ∈ J, 0 ≤ x ∧ x ≤ 8) → J.foldl (fun a j => a ||| 2 ^ j.toNat) a < 512
  | [], a, ha, _ => ha
  | x :: J, a, ha, h => by
    rw [List.foldl_cons]
    refine jB_lt_aux J _ ?_ fun y hy => h y (List.mem_cons_of_mem _ hy)
    have hx := h x (List.mem_cons_self ..)
    have h2 : 2 ^ x.toNat < 2 ^ 9 := Nat.pow_lt_pow_right (by decide) (by omega)
    exact Nat.or_lt_two_pow (n := 9) ha h2
theorem jB_lt {J : List Int} (h : ∀ x ∈ J, 0 ≤ x ∧ x ≤ 8) : jB J < 512 := jB_lt_aux J 0 (by decide) h
theorem jB_test_aux (i : Nat) : ∀ (J : List Int) (a : Nat), (∀ x ∈ J, 0 ≤ x) → (J.foldl (fun a j => a ||| 2 ^ j.toNat) a).testBit i = (a.testBit i || decide ((i : Int) ∈ J))
  | [], a, _ => by simp
  | x :: J, a, h => by
    have hx := h x (List.mem_cons_self ..)
    rw [List.foldl_cons, jB_test_aux i J _ fun y hy => h y (List.mem_cons_of_mem _ hy), Nat.testBit_or, Nat.testBit_two_pow, Bool.or_assoc]
    congr 1
    by_cases e : x.toNat = i
    · have e2 : (i : Int) = x := by omega
      simp [e, e2]
    · have e2 : ¬ (i : Int) = x := by omega
      simp [e, e2]
theorem jB_test {J : List Int} (h : ∀ x ∈ J, 0 ≤ x) (i : Nat) : (jB J).testBit i = decide ((i : Int) ∈ J) := by
  unfold jB; rw [jB_test_aux i J 0 h]; simp
theorem bit_testU (s k : Nat) (hs : s < 512) : (bits .and .u64 ((s : Int) / 2 ^ k) 1 == 1) = s.testBit k := by
  have h0 : (s : Int) / 2 ^ k = ((s / 2 ^ k : Nat) : Int) := by push_cast; rfl
  have hle : s / 2 ^ k ≤ s := Nat.div_le_self _ _
  have h1 : bits .and .u64 ((s / 2 ^ k : Nat) : Int) 1 = ((s / 2 ^ k % 2 : Nat) : Int) := by
    have := bits_mask .u64 63 (by decide) (fun n h0 h1 => by rw [IntKind.wrap_u64]; omega) 1 (by decide) ((s / 2 ^ k : Nat) : Int) (Int.natCast_nonneg _) (Int.lt_of_le_of_lt (Int.ofNat_le.2 hle) (by omega))
    simpa using this
  rw [h0, h1, Nat.testBit_eq_decide_div_mod_eq]
  by_cases h : s / 2 ^ k % 2 = 1
  · rw [h]; rfl
  · have h2 : s / 2 ^ k % 2 = 0 := by omega
    rw [h2]; rfl
set_option maxHeartbeats 800000 in
theorem jots_any (A : Option Addr) (n c B : Nat) (J : List Int) (w : World) (h : Arg w B A n c J) (hJ : ∀ x ∈ J, 0 ≤ x ∧ x ≤ 8) :
    Calls Tryd.prog 32 #[.slice A n c] w fun e w' => e = .returned (.int .u64 (jB J : Nat)) ∧ Drew w w' := by
  have hl := h.len
  have hr := h.reads
  have hm := h.le
  have HJ := hide (fun k x (hx : J[k]? = some x) => hJ x (List.mem_of_getElem? hx))
  have HT := hide (fun k => jB_lt (J := J.take k) fun x hx => hJ x (List.mem_of_mem_take hx))
  have HL := hide hl
  clear h hl hJ
  go_enter Tryd.func32, Tryd.ntmps32
  go_wp2
  go_loopw [3, 8] (fun b i wr => ∃ k : Nat, k ≤ n ∧ i = .int .i64 k ∧ b = .int .u64 (jB (J.take k) : Nat) ∧ Drew w wr) (fun _ i _ => n - (intOf i).toNat)
  case atStart => exact ⟨0, Nat.zero_le _, rfl, rfl, Drew.refl _⟩
  case round =>
    obtain ⟨k, hk, rfl, rfl, hd⟩ := hrel
    by_cases hlt : k < n
    · obtain ⟨ad, u, rfl, _, hu, hc⟩ := (hr.ofDrew hd).at_ hlt
      obtain ⟨x, hx, rfl⟩ := i64_at hu
      obtain ⟨hx0, hx8⟩ := unhide HJ k x hx
      have hlt1 := unhide HT k
      have hstep := jB_step hx
      obtain ⟨j, rfl⟩ : ∃ j : Nat, x = (j : Int) := ⟨x.toNat, by omega⟩
      rw [Int.toNat_natCast] at hstep
      have hp : 2 ^ j < 2 ^ 9 := Nat.pow_lt_pow_right (by decide) (by omega)
      have hor := bits_or_u64_nat (jB (J.take k)) (2 ^ j) (by omega) (by omega)
      rw [← hstep] at hor
      clear hu hx hstep
      have HD := hide hd
      have HO := hide hor
      have hw2 : IntKind.u64.wrap (2 ^ j) = ((2 ^ j : Nat) : Int) := by
        have e : ((2 : Int) ^ j) = ((2 ^ j : Nat) : Int) := by push_cast; rfl
        rw [e, IntKind.wrap_u64]
        generalize 2 ^ j = P at hp
        omega
      have HW := hide hw2
      clear hd hor hw2
      go_wp2
      go_roundw
      case rel => exact ⟨k + 1, by omega, by go_num, by rw [unhide HW, unhide HO], unhide HD⟩
      case measure => simp [intOf]; omega
    · obtain rfl : n = k := by omega
      rw [List.take_of_length_le (Nat.le_of_eq (unhide HL))]
      go_wp2
      go_ret
      exact ⟨rfl, hd⟩
theorem jhas_any (s i : Nat) (hs : s < 512) (hi : i ≤ 62) (w : World) :
    Calls Tryd.prog 56 #[.int .u64 (s : Nat), .int .i64 i] w fun e w' => e = .returned (.bool (s.testBit i)) ∧ w' = w := by
  have H := hide (bit_testU s i hs)
  go_enter Tryd.func56, Tryd.ntmps56
  go_wp2
  go_ret
  exact ⟨ret_bool (unhide H), rfl⟩
theorem jhas_in {J : List Int} (hJ : ∀ x ∈ J, 0 ≤ x ∧ x ≤ 8) (i : Int) (hi : 0 ≤ i ∧ i ≤ 62) (b : Bool) (hb : decide (i ∈ J) = b) (w : World) :
    Calls Tryd.prog 56 #[.int .u64 (jB J : Nat), .int .i64 i] w fun e w' => e = .returned (.bool b) ∧ w' = w := by
  obtain ⟨k, rfl⟩ : ∃ k : Nat, i = (k : Int) := ⟨i.toNat, by omega⟩
  rw [← hb, ← jB_test (fun x hx => (hJ x hx).1)]
  exact jhas_any (jB J) k (jB_lt hJ) (by omega) w
set_option maxHeartbeats 800000 in
theorem jfit_any (A : Option Addr) (n c B : Nat) (pl J : List Int) (w : World) (h : Arg w B A n c pl) (hJ : PlOK (n - 1) J) (hpl : ∀ x ∈ pl, 1 ≤ x ∧ x ≤ 8) (hn : n ≤ 8) :
    Calls Tryd.prog 34 #[.int .u64 (jB J : Nat), .slice A n c] w fun e w' => e = .returned (.bool (fitJ J pl)) ∧ Drew w w' := by
  have hl := h.len
  have hr := h.reads
  obtain ⟨b, hb⟩ : ∃ b, fitJ J pl = b := ⟨_, rfl⟩
  rw [hb]
  have HB := hide hb
  have hJ8 : ∀ x ∈ J, 0 ≤ x ∧ x ≤ 8 := fun x hx => by have := hJ.1 x hx; omega
  have HJ := hide hJ
  have HH := hide (fun (i : Int) (hi : 0 ≤ i ∧ i ≤ 62) b hb (w' : World) => jhas_in hJ8 i hi b hb w')
  have HPL := hide (fun k x (hx : pl[k]? = some x) => hpl x (List.mem_of_getElem? hx))
  have HL := hide hl
  clear h hJ hJ8 hpl hl hb
  go_enter Tryd.func34, Tryd.ntmps34
  go_wp2
  go_loopw [5] (fun i wr => ∃ k : Nat, (k ≤ n ∨ k = 1) ∧ 1 ≤ k ∧ i = .int .i64 k ∧ Drew w wr ∧ Hid (∀ j ∈ J, j < (k : Int) → at0 pl j.toNat = at0 pl (j.toNat - 1) + 1)) (fun i _ => n - (intOf i).toNat)
  case atStart => exact ⟨1, .inr rfl, Nat.le_refl _, rfl, Drew.refl _, hide fun j hj hlt => by have := (unhide HJ).1 j hj; omega⟩
  case round =>
    obtain ⟨k, hk, hk1, rfl, hd, hs⟩ := hrel
    by_cases hlt : k < n
    · obtain ⟨k2, rfl⟩ : ∃ k2, k = k2 + 1 := ⟨k - 1, by omega⟩
      obtain ⟨ad1, u1, rfl, _, hu1, hc1⟩ := (hr.ofDrew hd).at_ hlt
      obtain ⟨ad2, u2, hA2, _, hu2, hc2⟩ := (hr.ofDrew hd).at_ (show k2 < n by omega)
      obtain rfl : ad1 = ad2 := by injection hA2
      obtain ⟨y, hy, rfl⟩ := i64_at hu1
      obtain ⟨z, hz, rfl⟩ := i64_at hu2
      have hzr := unhide HPL _ z hz
      have ey : at0 pl (k2 + 1) = y := at0_of hy
      have ez : at0 pl k2 = z := at0_of hz
      have hw2 : IntKind.i64.wrap (z + 1) = z + 1 := by rw [IntKind.wrap_i64]; omega
      have hc3 : wr.cell? ⟨ad1.block, ad1.off + (k2 + 1), none⟩ = some (.int .i64 y) := by rw [← show ad1.add (k2 + 1) = ⟨ad1.block, ad1.off + (k2 + 1), none⟩ by unfold Addr.add; rw [if_neg (by omega)]]; exact hc1
      have hwk : IntKind.i64.wrap ((k2 : Int) + 1 - 1) = (k2 : Int) := by rw [IntKind.wrap_i64]; omega
      have hwk' : IntKind.i64.wrap (k2 : Int) = (k2 : Int) := by rw [IntKind.wrap_i64]; omega
      have hb2 : (k2 : Int) < (n : Int) := by omega
      have hb3 : (k2 : Int) + 1 < (n : Int) := by omega
      have hb4 : (0 : Int) ≤ (k2 : Int) := by omega
      have HD := hide hd
      obtain ⟨bh, hbh⟩ : ∃ bh, decide ((k2 : Int) + 1 ∈ J) = bh := ⟨_, rfl⟩
      have HC := hide (fun w' => unhide HH ((k2 : Int) + 1) (by omega) bh hbh w')
      cases bh with
      | false =>
        have hnot : ¬ (k2 : Int) + 1 ∈ J := of_decide_eq_false hbh
        have hnext := hide (show ∀ j ∈ J, j < ((k2 + 1 + 1 : Nat) : Int) → at0 pl j.toNat = at0 pl (j.toNat - 1) + 1 from fun j hj hlt => by
          by_cases e : j = (k2 : Int) + 1
          · exact absurd (e ▸ hj) hnot
          · exact unhide hs j hj (by omega))
        clear hnot hbh hs ey ez hu1 hu2 hy hz hr hd HH hzr
        go_wp2
        go_quiet ((go_at_call 56; exact Calls.quiet_of_same (unhide HC _)))
        go_wp2
        go_roundw
        case rel => exact ⟨k2 + 1 + 1, .inl (by omega), by omega, by go_num, (unhide HD).more _, hnext⟩
        case measure => simp [intOf]; omega
      | true =>
        have hin : (k2 : Int) + 1 ∈ J := of_decide_eq_true hbh
        by_cases hyz : y = z + 1
        · have hnext := hide (show ∀ j ∈ J, j < ((k2 + 1 + 1 : Nat) : Int) → at0 pl j.toNat = at0 pl (j.toNat - 1) + 1 from fun j hj hlt => by
            by_cases e : j = (k2 : Int) + 1
            · subst e; rw [show ((k2 : Int) + 1).toNat = k2 + 1 by omega, Nat.add_sub_cancel, ey, ez]; exact hyz
            · exact unhide hs j hj (by omega))
          subst hyz
          clear hin hbh hs ey ez hu1 hu2 hy hz hr hd HH hzr
          go_wp2
          go_quiet ((go_at_call 56; exact Calls.quiet_of_same (unhide HC _)))
          go_wp2
          go_roundw
          case rel => exact ⟨k2 + 1 + 1, .inl (by omega), by omega, by go_num, (unhide HD).more _, hnext⟩
          case measure => simp [intOf]; omega
        · obtain rfl : b = false := (unhide HB).symm.trans (by
            cases hf : fitJ J pl with
            | false => rfl
            | true => exact absurd (by have := fitJ_iff.1 hf _ hin; rwa [show ((k2 : Int) + 1).toNat = k2 + 1 by omega, Nat.add_sub_cancel, ey, ez] at this) hyz)
          have hne : (y == z + 1) = false := by simpa using hyz
          clear hin hbh hs ey ez hu1 hu2 hy hz hr hd HH hzr HB hyz
          go_wp2
          go_quiet ((go_at_call 56; exact Calls.quiet_of_same (unhide HC _)))
          go_wp2
          go_ret
          exact ⟨rfl, (unhide HD).more _⟩
    · obtain rfl : b = true := (unhide HB).symm.trans (fitJ_iff.2 fun j hj => unhide hs j hj (by have := (unhide HJ).1 j hj; omega))
      clear HB hs HH
      go_wp2
      go_ret
      exact ⟨rfl, hd⟩
set_option maxHeartbeats 1600000 in
theorem inear_any (A P : Option Addr) (n c B m d B' : Nat) (q J : List Int) (w : World) (h : Arg w B A n c q) (h' : Arg w B' P m d J) :
    Calls Tryd.prog 18 #[.agg #[.slice A n c, .slice P m d]] w (GivesB w (nearOK q J)) := by
  have hl := h.len
  have hl' := h'.len
  have hm := h'.le
  have hn := h.le
  obtain ⟨w0, hw0⟩ : ∃ w0, w0 = w.alloc (.cells #[.slice A n c, .slice P m d] 26) := ⟨_, rfl⟩
  have b0 : Below w.heap.size w w0 := by rw [hw0]; exact (Below.refl _ w).alloc (Nat.le_refl _) _
  have g0 : Whole w0 w.heap.size 26 #[.slice A n c, .slice P m d] := by rw [hw0]; exact Whole.new _ _ _
  have hr' := (h'.below b0).reads
  obtain ⟨bp, hbp⟩ : ∃ b, isP q = b := ⟨_, rfl⟩
  have q0 := g0.cell 0
  simp only [List.getElem?_toArray, List.getElem?_cons_zero] at q0
  have H1 := hide (iisperm_any A n c B q bp hbp w0 (h.below b0).reads (h.below b0).under h.le h.small)
  cases bp with
  | false =>
    rw [show nearOK q J = false from by unfold nearOK; rw [hbp]; rfl]
    have HW := hide hw0
    clear h h' hl hl' hbp g0 hr'
    rw [hw0] at q0
    clear hw0
    go_enter Tryd.func18, Tryd.ntmps18
    go_wp2_with fail
    rw [← unhide HW]
    refine (unhide H1).mono ?_
    rintro e w1 ⟨rfl, d1⟩
    have d2 := below_after b0 d1
    clear H1 HW d1 b0
    go_wp2
    go_ret
    exact ⟨rfl, d2⟩
  | true =>
    obtain ⟨b, hb⟩ : ∃ b, nearOK q J = b := ⟨_, rfl⟩
    rw [hb]
    have HB := hide hb
    have HBP := hide hbp
    have HL := hide (⟨hl, hl'⟩ : q.length = n ∧ J.length = m)
    have HJS := hide (fun k x (hx : J[k]? = some x) => h'.small x (List.mem_of_getElem? hx))
    have HW := hide hw0
    have HU := hide (⟨h'.under, b0.size⟩ : B' ≤ w.heap.size ∧ w.heap.size ≤ w0.heap.size)
    have G0 := hide g0
    clear h h' hl hl' hbp g0 hb
    rw [hw0] at q0
    clear hw0
    go_enter Tryd.func18, Tryd.ntmps18
    go_wp2_with fail
    rw [← unhide HW]
    refine (unhide H1).mono ?_
    rintro e w1 ⟨rfl, d1⟩
    have d2 := below_after b0 d1
    have g1 := (unhide G0).below d1 (by have := (unhide G0).lt; omega)
    have c0' := g1.cell 0
    have c1' := g1.cell 1
    simp only [List.getElem?_toArray, List.getElem?_cons_zero, List.getElem?_cons_succ] at c0' c1'
    have hr1 := hr'.below (d1.mono (by have := unhide HU; omega))
    clear H1 HW d1 b0 q0 hr' G0 g1
    go_wp2
    go_loopw [3, 13] (fun l i wr => ∃ k : Nat, k ≤ m ∧ i = .int .i64 k ∧ l = .int .i64 (lastP (J.take k) : Nat) ∧ Drew w1 wr ∧ Hid (PlOK (q.length - 1) (J.take k))) (fun _ i _ => m - (intOf i).toNat)
    case atStart => exact ⟨0, Nat.zero_le _, rfl, by rw [List.take_zero, lastP_nil]; rfl, Drew.refl _, hide (PlOK.nil _)⟩
    case round =>
      obtain ⟨k, hk, rfl, rfl, hd, hs⟩ := hrel
      have c0 := (hd.cell ⟨w.heap.size, 0, none⟩).trans c0'
      have c1 := (hd.cell ⟨w.heap.size, 1, none⟩).trans c1'
      by_cases hlt : k < m
      · obtain ⟨ad, u, rfl, _, hu, hc⟩ := (hr1.ofDrew hd).at_ hlt
        obtain ⟨x, hx, rfl⟩ := i64_at hu
        have HD := hide hd
        have hstep := plok_step (n := q.length - 1) hx
        have hlq := (unhide HL).1
        have hlast := take_last hx
        obtain ⟨l, hl⟩ : ∃ l, lastP (J.take k) = l := ⟨_, rfl⟩
        rw [hl] at hstep ⊢
        by_cases hno : x ≤ (l : Int)
        · obtain rfl : b = false := (unhide HB).symm.trans (near_false (plok_no (k := k + 1) fun h2 => by
            have h3 := (hstep.1 h2).2.1
            omega))
          clear hx hu hs hr1 hd HB hstep c0' c1' hlq hlast hl
          go_wp2
          go_ret
          exact ⟨rfl, d2.trans ((unhide HD).below _)⟩
        · by_cases hge : (n : Int) ≤ x
          · obtain rfl : b = false := (unhide HB).symm.trans (near_false (plok_no (k := k + 1) fun h2 => by
              have h3 := (hstep.1 h2).2.2
              omega))
            clear hx hu hs hr1 hd HB hstep c0' c1' hlq hlast hl
            go_wp2
            go_ret
            exact ⟨rfl, d2.trans ((unhide HD).below _)⟩
          · have hnext := hide (hstep.2 ⟨unhide hs, by omega, by omega⟩)
            have hx' : x = ((x.toNat : Nat) : Int) := by omega
            have HX := hide (show Value.int .i64 x = .int .i64 (lastP (J.take (k + 1)) : Nat) by rw [hlast, ← hx'])
            clear hx hu hs hr1 hd hstep c0' c1' hlq hlast hl hx'
            go_wp2
            go_roundw
            case rel => exact ⟨k + 1, by omega, by go_num, unhide HX, unhide HD, hnext⟩
            case measure => simp [intOf]; omega
      · obtain rfl : m = k := by omega
        obtain rfl : true = b := (near_true (unhide HBP) (by have h := unhide hs; rwa [List.take_of_length_le (by rw [(unhide HL).2]; exact Nat.le_refl _)] at h)).symm.trans (unhide HB)
        clear HB hs hr1
        go_wp2
        go_ret
        exact ⟨rfl, d2.trans (hd.below _)⟩
end Go.Proofs.YtabfjmabiapgoaaDoor


/-
  impl.NearText, by its contract.
-/

namespace Go.Proofs.YtabfjmabiapgoaaDoor
set_option maxRecDepth 100000
open Go.RowKit

theorem u8s_u8c (L : List UInt8) : u8s L = u8c (L.map fun b => (b.toNat : Int)) := by unfold u8s u8c; rw [List.map_map]; rfl
theorem u8_back (L : List UInt8) : (L.map fun b => (b.toNat : Int)).map (fun n => UInt8.ofNat n.toNat) = L := by
  rw [List.map_map]
  conv => rhs; rw [← List.map_id L]
  refine List.map_congr_left fun b _ => ?_
  simp
theorem u8_row {P : Program} {src dst e : TypeId} (hs : P.underlying src = some (.slice e)) (he : P.underlying e = some (.int .u8)) (hd : P.underlying dst = some .string) (w : World) (B g n c : Nat) (t : TypeId) (L : List UInt8)
    (hown : w.ownsRow B t 1 (.slice (some ⟨g, 0, none⟩) n c) n (u8s L)) :
    (convert src dst (.slice (some ⟨g, 0, none⟩) n c)).run P w = .ok (.string ⟨L.toArray⟩) w := by
  have := cv_row hs he hd w B g n c t (L.map fun b => (b.toNat : Int)) (by rw [← u8s_u8c]; exact hown)
  rwa [u8_back] at this
theorem u8s_snoc (L : List UInt8) (b : UInt8) : u8s L ++ [Value.int .u8 b.toNat] = u8s (L ++ [b]) := by unfold u8s; simp
theorem bytes_reads (w : World) (e : TypeId) (L : List UInt8) : Reads (Lib.bytesWorld w e ⟨L.toArray⟩) (w.heap.size + 1) (some ⟨w.heap.size, 0, none⟩) L.length (u8s L) := by
  refine ⟨by simp [u8s], fun _ => ⟨_, rfl, Nat.lt_succ_self _, fun j u hu => ?_⟩⟩
  obtain ⟨b, hb, rfl⟩ := u8_at hu
  have hj : j < L.length := (List.getElem?_eq_some_iff.1 hb).1
  have := Lib.bytesWorld_cell w e ⟨L.toArray⟩ j (by simpa [ByteArray.size] using hj)
  rw [show (⟨w.heap.size, 0, none⟩ : Addr).add j = ⟨w.heap.size, j, none⟩ by unfold Addr.add; split <;> simp_all, this]
  simp [List.getD_eq_getElem?_getD, hb]
set_option maxHeartbeats 1600000 in
theorem ntxt_yes (A P : Option Addr) (n c B m d B' : Nat) (q J : List Int) (w : World) (h : Arg w B A n c q) (h' : Arg w B' P m d J) (hok : nearOK q J = true) :
    Calls Tryd.prog 20 #[.agg #[.slice A n c, .slice P m d]] w (GivesS w (ntext q J)) := by
  obtain ⟨hq, hJ⟩ := nearOK_iff.1 hok
  obtain ⟨i0, hi, hz0, hz1, hz2⟩ := info_parts byteInfo
  have hn8 : n ≤ 8 := by have := isP_le hq; have := h.len; omega
  have hq8 := isP_le hq
  have hJ8 : ∀ x ∈ J, 0 ≤ x ∧ x ≤ 8 := fun x hx => by have := hJ.1 x hx; omega
  obtain ⟨w0, hw0⟩ : ∃ w0, w0 = w.alloc (.cells #[.slice A n c, .slice P m d] 26) := ⟨_, rfl⟩
  have b0 : Below w.heap.size w w0 := by rw [hw0]; exact (Below.refl _ w).alloc (Nat.le_refl _) _
  have g0 : Whole w0 w.heap.size 26 #[.slice A n c, .slice P m d] := by rw [hw0]; exact Whole.new _ _ _
  have H1 := hide (inear_any A P n c B m d B' q J w0 (h.below b0) (h'.below b0))
  have H2 := hide (show ∀ w2, Below w.heap.size w w2 → _ from fun w2 d2 => jots_any P m d B' J w2 (h'.below d2) hJ8)
  have H3 := hide (show ∀ w2, Below w.heap.size w w2 → _ from fun w2 d2 => itext_any A n c B q w2 (h.below d2))
  have HH := hide (fun (i : Int) (hi : 0 ≤ i ∧ i ≤ 62) b hb (w' : World) => jhas_in hJ8 i hi b hb w')
  obtain ⟨L, hL⟩ : ∃ L, L = ptextL q := ⟨_, rfl⟩
  obtain ⟨hL1, hL8⟩ := ptextL_len hq
  have HG := gapB_text hok
  rw [ptext_list hq] at H3
  rw [hok] at H1
  rw [← hL] at H3 HG hL1 hL8
  have x0 := g0.cell 0
  have x1 := g0.cell 1
  simp only [List.getElem?_toArray, List.getElem?_cons_zero, List.getElem?_cons_succ] at x0 x1
  have HW0 := hide hw0
  have HGG := hide HG
  clear h h' hok hq hJ hJ8 hL HG
  rw [hw0] at x0 x1
  clear hw0
  go_enter Tryd.func20, Tryd.ntmps20
  go_wp2_with fail
  rw [← unhide HW0]
  refine (unhide H1).mono ?_
  rintro e w1 ⟨rfl, d1⟩
  have d1' := below_after b0 d1
  have g1 := g0.below d1 g0.lt
  have x0 := g1.cell 0
  have x1 := g1.cell 1
  simp only [List.getElem?_toArray, List.getElem?_cons_zero, List.getElem?_cons_succ] at x0 x1
  have HX := hide (unhide H2 w1 d1')
  clear H1 H2 g0 b0 d1 HW0
  go_wp2_with fail
  refine (unhide HX).mono ?_
  rintro e w2 ⟨rfl, d2⟩
  have d2' := d1'.trans (d2.below _)
  have g2 : Whole w2 w.heap.size 26 #[.slice A n c, .slice P m d] := g1.below (d2.below (w.heap.size + 1)) (Nat.lt_succ_self _)
  have y0 := g2.cell 0
  simp only [List.getElem?_toArray, List.getElem?_cons_zero] at y0
  have HY := hide (unhide H3 w2 d2')
  clear HX H3 d1' d2 g1 x0 x1
  go_wp2_with fail
  refine (unhide HY).mono ?_
  rintro e w3 ⟨rfl, d3⟩
  have d3' := below_after d2' d3
  have hcv := Lib.run_convert_string_bytes (P := Tryd.prog) w3 9 22 5 ⟨L.toArray⟩ (u := .string) Tryd.underlying9 Tryd.underlying22 Tryd.underlying5
  have hbw := Lib.bytesWorld_below w3 5 ⟨L.toArray⟩
  have hrd := bytes_reads w3 5 L
  have hsz := Lib.bytesWorld_size w3 5 ⟨L.toArray⟩
  have hsl : (ByteArray.mk L.toArray).size = L.length := by simp [ByteArray.size]
  rw [hsl] at hcv
  obtain ⟨cap, hcap⟩ : ∃ cap, grownCap w3 L.length 0 5 = cap := ⟨_, rfl⟩
  rw [hcap] at hcv
  obtain ⟨w4, hw4⟩ : ∃ w4, w4 = Lib.bytesWorld w3 5 ⟨L.toArray⟩ := ⟨_, rfl⟩
  rw [← hw4] at hcv hbw hrd hsz
  have d4 := below_after d3' hbw
  obtain ⟨gd, hgd⟩ : ∃ g, g = w3.heap.size := ⟨_, rfl⟩
  rw [← hgd] at hcv hrd hsz
  have HR := hide (⟨hrd, hsz, d4⟩ : Reads w4 (gd + 1) (some ⟨gd, 0, none⟩) L.length (u8s L) ∧ w4.heap.size = gd + 1 ∧ Below w.heap.size w w4)
  clear HY d2' y0 g2 d3 d3' hbw hsl hw4 hgd hcap hrd hsz d4
  go_wp2
  obtain ⟨hrd, hsz, d4⟩ := unhide HR
  have hgw := d4.size
  obtain ⟨t, ht⟩ : ∃ t : Nat, L.length = t := ⟨_, rfl⟩
  rw [ht] at hrd hL1 hL8
  rw [ht]
  have HT := hide ht
  clear hcv ht
  go_loopw [4, 18] (fun v i wr => ∃ (k r : Nat), k ≤ t ∧ i = .int .i64 k ∧ r = (gapB J L k).length ∧ Below (gd + 1) w4 wr ∧ wr.ownsRow (gd + 1) 5 1 v r (u8s (gapB J L k))) (fun _ i _ => t - (intOf i).toNat)
  case atStart => exact ⟨0, 0, Nat.zero_le _, rfl, rfl, Below.refl _ _, World.ownsRow_nil _ _ _ _⟩
  case round =>
    obtain ⟨k, r, hk, rfl, hr, hb, hown⟩ := hrel
    have hrl : r ≤ 16 := by have := gapB_len J L k; omega
    have hbs : gd + 1 ≤ wr.heap.size := by have := hb.size; omega
    by_cases hlt : k < t
    · obtain ⟨ad, u, hA, _, hu, hc⟩ := (hrd.below hb).at_ hlt
      obtain ⟨b, hbk, rfl⟩ := u8_at hu
      obtain rfl : ad = ⟨gd, 0, none⟩ := by injection hA with h; exact h.symm
      have hc3 : wr.cell? ⟨gd, k, none⟩ = some (.int .u8 b.toNat) := by rw [← show (⟨gd, 0, none⟩ : Addr).add k = ⟨gd, k, none⟩ by unfold Addr.add; split <;> simp_all]; exact hc
      have HA := hide hA
      clear hA hu hc
      by_cases hins : 0 < k ∧ ¬ (k : Int) ∈ J
      · have hst := gapB_yes hbk hins
        have HC := hide (fun w' => unhide HH (k : Int) (by omega) false (decide_eq_false hins.2) w')
        have hk0 : (0 : Int) < (k : Int) := by have := hins.1; omega
        have HE := hide (show u8s (gapB J L (k + 1)) = u8s (gapB J L k) ++ [Value.int .u8 95, Value.int .u8 b.toNat] by rw [hst]; unfold u8s; simp)
        have hr2 : r + 1 + 1 = (gapB J L (k + 1)).length := by rw [hst, hr]; simp
        have HR2 := hide hr2
        clear hst hins hbk hr hr2 hrd
        go_wp2_with fail
        refine (unhide HC _).mono ?_
        rintro e w5 ⟨rfl, hw5⟩
        subst hw5
        clear HC
        go_wp2_with (at_builtin; refine wpList_append_one rfl (.tmp 31) (.tmp 32) 22 rfl (gd + 1) 5 i0 (.int .u8 0) 1 Tryd.underlying22 hi hz0 hz1 hz2 rfl w5 w5 _ r (u8s (gapB J L k)) rfl hown (.int .u8 95) rfl rfl rfl (by omega) (by unfold maxLen; omega) (Below.refl _ _) hbs ?_)
        intro v1 w6 hown1 hb6 hg6
        have hbs2 : gd + 1 ≤ w6.heap.size := by have := hb6.size; omega
        have hb7 := hb.trans hb6
        clear hown hb hb6 hg6 hbs hc3
        go_wp2_with (at_builtin; refine wpList_append_one rfl (.tmp 34) (.tmp 36) 22 rfl (gd + 1) 5 i0 (.int .u8 0) 1 Tryd.underlying22 hi hz0 hz1 hz2 rfl w6 w6 _ (r + 1) _ rfl hown1 (.int .u8 b.toNat) rfl rfl rfl (by omega) (by unfold maxLen; omega) (Below.refl _ _) hbs2 ?_)
        intro v2 w8 hown2 hb8 hg8
        have hb9 := hb7.trans hb8
        rw [← unhide HE] at hown2
        clear hown1 hb7 hb8 hg8 HE
        go_wp2
        go_roundw
        case rel => exact ⟨k + 1, r + 1 + 1, by omega, by go_num, unhide HR2, hb9, hown2⟩
        case measure => simp [intOf]; omega
      · have hst := gapB_no hbk hins
        have HE := hide (show u8s (gapB J L (k + 1)) = u8s (gapB J L k) ++ [Value.int .u8 b.toNat] by rw [hst]; unfold u8s; simp)
        have hr2 : r + 1 = (gapB J L (k + 1)).length := by rw [hst, hr]; simp
        have HR2 := hide hr2
        by_cases h0 : k = 0
        · subst h0
          clear hst hins hbk hr hr2 hrd
          go_wp2_with (at_builtin; refine wpList_append_one rfl (.tmp 34) (.tmp 36) 22 rfl (gd + 1) 5 i0 (.int .u8 0) 1 Tryd.underlying22 hi hz0 hz1 hz2 rfl wr wr _ r _ rfl hown (.int .u8 b.toNat) rfl rfl rfl (by omega) (by unfold maxLen; omega) (Below.refl _ _) hbs ?_)
          intro v2 w8 hown2 hb8 hg8
          have hb9 := hb.trans hb8
          rw [← unhide HE] at hown2
          clear hown hb hb8 hg8 HE
          go_wp2
          go_roundw
          case rel => exact ⟨0 + 1, r + 1, by omega, by go_num, unhide HR2, hb9, hown2⟩
          case measure => simp [intOf]; omega
        · have hin : (k : Int) ∈ J := by
            by_cases hi : (k : Int) ∈ J
            · exact hi
            · exact absurd ⟨by omega, hi⟩ hins
          have hk0 : (0 : Int) < (k : Int) := by omega
          have HC := hide (fun w' => unhide HH (k : Int) (by omega) true (decide_eq_true hin) w')
          clear hst hins hbk hr hr2 hrd hin h0
          go_wp2_with fail
          refine (unhide HC _).mono ?_
          rintro e w5 ⟨rfl, hw5⟩
          subst hw5
          clear HC
          go_wp2_with (at_builtin; refine wpList_append_one rfl (.tmp 34) (.tmp 36) 22 rfl (gd + 1) 5 i0 (.int .u8 0) 1 Tryd.underlying22 hi hz0 hz1 hz2 rfl w5 w5 _ r _ rfl hown (.int .u8 b.toNat) rfl rfl rfl (by omega) (by unfold maxLen; omega) (Below.refl _ _) hbs ?_)
          intro v2 w8 hown2 hb8 hg8
          have hb9 := hb.trans hb8
          rw [← unhide HE] at hown2
          clear hown hb hb8 hg8 HE
          go_wp2
          go_roundw
          case rel => exact ⟨k + 1, r + 1, by omega, by go_num, unhide HR2, hb9, hown2⟩
          case measure => simp [intOf]; omega
    · obtain rfl : t = k := by omega
      have hr1 : 0 < r := by
        have : (gapB J L (t - 1 + 1)).length ≠ 0 := by rw [gapB]; simp
        rw [show t - 1 + 1 = t by omega] at this
        omega
      have hv : ∃ g c, u4 = Value.slice (some ⟨g, 0, none⟩) r c := by
        rcases hown.2 with ⟨_, h0⟩ | ⟨g, cap, cur, hv, _⟩
        · omega
        · exact ⟨g, cap, hv⟩
      obtain ⟨g, c9, rfl⟩ := hv
      have hcv := u8_row (P := Tryd.prog) Tryd.underlying22 Tryd.underlying5 Tryd.underlying9 wr (gd + 1) g r c9 5 _ hown
      have hgg := unhide HGG
      rw [unhide HT] at hgg
      rw [hgg] at hcv
      have hend := d4.trans (hb.mono (by omega))
      clear hown hb hrd hgg HGG hr hr1 hrl
      go_wp2
      go_ret
      exact ⟨rfl, hend⟩
set_option maxHeartbeats 800000 in
theorem intxt_any (A P : Option Addr) (n c B m d B' : Nat) (q J : List Int) (w : World) (h : Arg w B A n c q) (h' : Arg w B' P m d J) :
    Calls Tryd.prog 20 #[.agg #[.slice A n c, .slice P m d]] w (GivesS w (ntext q J)) := by
  obtain ⟨b, hok⟩ : ∃ b, nearOK q J = b := ⟨_, rfl⟩
  cases b with
  | true => exact ntxt_yes A P n c B m d B' q J w h h' hok
  | false =>
    obtain ⟨w0, hw0⟩ : ∃ w0, w0 = w.alloc (.cells #[.slice A n c, .slice P m d] 26) := ⟨_, rfl⟩
    have b0 : Below w.heap.size w w0 := by rw [hw0]; exact (Below.refl _ w).alloc (Nat.le_refl _) _
    have g0 : Whole w0 w.heap.size 26 #[.slice A n c, .slice P m d] := by rw [hw0]; exact Whole.new _ _ _
    have H1 := hide (inear_any A P n c B m d B' q J w0 (h.below b0) (h'.below b0))
    rw [hok] at H1
    rw [ntext_no hok]
    have x0 := g0.cell 0
    have x1 := g0.cell 1
    simp only [List.getElem?_toArray, List.getElem?_cons_zero, List.getElem?_cons_succ] at x0 x1
    have HW0 := hide hw0
    clear h h' hok g0
    rw [hw0] at x0 x1
    clear hw0
    go_enter Tryd.func20, Tryd.ntmps20
    go_wp2_with fail
    rw [← unhide HW0]
    refine (unhide H1).mono ?_
    rintro e w1 ⟨rfl, d1⟩
    have d := below_after b0 d1
    clear H1 HW0 b0 d1
    go_wp2
    go_ret
    exact ⟨rfl, d⟩
end Go.Proofs.YtabfjmabiapgoaaDoor


/-
  impl.ParseNear, by its contract.
-/

namespace Go.Proofs.YtabfjmabiapgoaaDoor
set_option maxRecDepth 100000
open Go.RowKit

theorem reads_own {w : World} {B n : Nat} {A : Option Addr} {c : Nat} {xs : List Value} {e : TypeId} (h : w.ownsRow B e 1 (.slice A n c) n xs) : Reads w w.heap.size A n xs := Reads.of_own_at h
theorem parJ_small (s : ByteArray) (hs : s.size ≤ 1048576) : Small (parJ s) := fun z hz => by
  have := scanJ_small s.data.toList s.size z hz
  have h2 := size_list' s
  omega
theorem parJ_len (s : ByteArray) : (parJ s).length ≤ s.size := scanJ_len _ _
theorem runs_sum (s : ByteArray) : ((pieces s 95).map (·.size)).sum ≤ s.size := by
  rw [pieces_lens, sum_runs]
  have h1 := size_list' s
  have h4 : (scanD s.data.toList).length ≤ s.data.toList.length := List.length_filter_le _ _
  omega
set_option maxHeartbeats 3200000 in
theorem ipar_any (s : ByteArray) (hs : s.size ≤ 1048576) (m : Int) (w : World) (hm : w.cell? ⟨0, 0, none⟩ = some (.int .i64 m)) :
    Calls Tryd.prog 9 #[.string s] w (GivesNB w (parQ s) (parN s) (parOK s)) := by
  obtain ⟨w0, hw0⟩ : ∃ w0, w0 = w.alloc (.cells #[.slice none 0 0, .slice none 0 0] 26) := ⟨_, rfl⟩
  have b0 : Below w.heap.size w w0 := by rw [hw0]; exact (Below.refl _ w).alloc (Nat.le_refl _) _
  have hR0 : Whole w0 w.heap.size 26 #[.slice none 0 0, .slice none 0 0] := by rw [hw0]; exact Whole.new _ _ _
  have hmb : 0 < w.heap.size := World.block_lt_of_cell? w _ hm
  have hb95 : byteOf 95 = 95 := rfl
  have H1 := hide (isplit_any s hs 95 m w0 ((b0.cell (p := ⟨0, 0, none⟩) hmb).trans hm))
  rw [hb95] at H1
  have hpl := pieces_le s 95
  have hpn : 0 < (pieces s 95).length := by rw [pieces_length]; omega
  have HRS := hide (runs_sum s)
  have HJD := hide (join_dig s)
  have HPJ := hide (pieces_joined s)
  have hds := digB_size s
  obtain ⟨ps, hps⟩ : ∃ ps, ps = pieces s 95 := ⟨_, rfl⟩
  rw [← hps] at H1 hpl hpn HRS HJD HPJ
  have HW0 := hide hw0
  clear hm hmb hb95 hps hw0
  go_enter Tryd.func9, Tryd.ntmps9
  go_wp2_with fail
  rw [← unhide HW0]
  refine (unhide H1).mono ?_
  rintro e w1 ⟨v1, rfl, hown1, d1⟩
  obtain ⟨gr, cr, rfl⟩ := own_head hown1 hpn
  have hB1 := below_after b0 d1
  have hR1 := hR0.below d1 hR0.lt
  have H2 := hide (ijoin_row gr ps.length cr ps ⟨#[]⟩ w1 _ hown1 (by omega) (own_cap hown1) (by rw [show (⟨#[]⟩ : ByteArray).data.toList = [] from rfl, unhide HJD]; have h1 := size_list' s; have h4 : (scanD s.data.toList).length ≤ s.data.toList.length := List.length_filter_le _ _; omega))
  rw [show (⟨#[]⟩ : ByteArray).data.toList = [] from rfl, unhide HJD, show (⟨(scanD s.data.toList).toArray⟩ : ByteArray) = digB s from rfl] at H2
  clear H1 HJD b0 d1 hR0 HW0
  go_wp2_with fail
  refine (unhide H2).mono ?_
  rintro e w2 ⟨rfl, d2⟩
  have hB2 := below_after hB1 d2
  have hR2 := hR1.below d2 hR1.lt
  have hown2 := own_below hown1 d2
  have hs2 : w.heap.size + 1 ≤ w2.heap.size := hR2.lt
  obtain ⟨b, hb⟩ : ∃ b, ppOK (digB s) = b := ⟨_, rfl⟩
  have H3 := hide (ipp_any (digB s) (by omega) b hb w2)
  clear H2 d2 hB1 hR1 hown1
  go_wp2_with fail
  refine (unhide H3).mono ?_
  rintro e w3 ⟨A3, c3, rfl, o3, d3⟩
  have hB3 := below_after hB2 d3
  have hR3 := hR2.below d3 hR2.lt
  have hown3 := own_below hown2 d3
  clear H3 d3 hB2 hR2 hown2
  cases b with
  | false =>
    have hno : parOK s = false := by unfold parOK; rw [hb]; rfl
    have HNO := hide (⟨by unfold parQ; rw [hno]; rfl, by unfold parN; rw [hno]; rfl, hno⟩ : parQ s = [] ∧ parN s = [] ∧ parOK s = false)
    have q0 := hR3.cell 0
    have q1 := hR3.cell 1
    have e0 := hR3.frozen 0
    have e1 := hR3.frozen 1
    have hltr := hR3.lt
    simp only [List.getElem?_toArray, List.getElem?_cons_zero, List.getElem?_cons_succ] at q0 q1
    have HN := hide (⟨hR3, hB3⟩ : Whole w3 w.heap.size 26 #[.slice none 0 0, .slice none 0 0] ∧ Below w.heap.size w w3)
    clear hR3 hB3 o3 hown3 hb hno
    go_wp2_with fail
    obtain ⟨hR, hB⟩ := unhide HN
    have hWe := (hR.put 0 (.slice none 0 0)).put 1 (.slice none 0 0)
    refine bodyPost_ret (v := .tuple #[.agg #[.slice none 0 0, .slice none 0 0], .bool false]) (results_near Tryd.results9 _ _ w.heap.size 26 _ (0, 0) _ rfl hWe Tryd.underlying26 rfl nearInfo) rfl ?_
    rw [(unhide HNO).1, (unhide HNO).2.1, (unhide HNO).2.2]
    exact nearB_end false (NearAt.none_ _ (w.heap.size + 1)) (Nat.lt_succ_self _) hB
  | true =>
    have H4 := hide (runs_any (some ⟨gr, 0, none⟩) ps.length cr w3.heap.size ps w3 (reads_own hown3) (Nat.le_refl _) (by omega) (Nat.le_trans (unhide HRS) hs))
    rw [unhide HPJ] at H4
    clear hown3 HRS HPJ
    go_wp2_with fail
    refine (unhide H4).mono ?_
    rintro e w4 ⟨A4, c4, rfl, o4, d4⟩
    have hs3 := hR3.lt
    have hB4 := below_after hB3 d4
    have hR4 := hR3.below d4 hR3.lt
    have hs4 := d4.size
    have hN4 : NearAt w4 (w.heap.size + 1) (.slice A3 (ppR (digB s)).length c3) (.slice A4 (parJ s).length c4) (ppR (digB s)) (parJ s) := ⟨(o3.below d4).low hs2, o4.low (by omega), apart o3.until_ o4.since (Nat.le_refl _)⟩
    obtain ⟨w5, hw5⟩ : ∃ w5, w5 = w4.alloc (.cells #[.slice A3 (ppR (digB s)).length c3, .slice A4 (parJ s).length c4] 26) := ⟨_, rfl⟩
    obtain ⟨g, hg⟩ : ∃ g, g = w4.heap.size := ⟨_, rfl⟩
    have b45 : Below w4.heap.size w4 w5 := by rw [hw5]; exact (Below.refl _ w4).alloc (Nat.le_refl _) _
    have hG5 : Whole w5 g 26 #[.slice A3 (ppR (digB s)).length c3, .slice A4 (parJ s).length c4] := by rw [hw5, hg]; exact Whole.new _ _ _
    have hB5 := below_after hB4 b45
    have hR5 := hR4.below b45 hR4.lt
    have hN5 := hN4.below b45
    have hp8 := ppR_le (digB s)
    have hjl := parJ_len s
    have H5 := hide (intxt_any A3 A4 (ppR (digB s)).length c3 w5.heap.size (parJ s).length c4 w5.heap.size (ppR (digB s)) (parJ s) w5 (hN5.p.arg (by omega) hN5.p.cap (ppR_small _)) (hN5.j.arg (by omega) hN5.j.cap (parJ_small s hs)))
    have q0 := hG5.cell 0
    have q1 := hG5.cell 1
    simp only [List.getElem?_toArray, List.getElem?_cons_zero, List.getElem?_cons_succ] at q0 q1
    rw [hw5, hg] at q0 q1
    have HW5 := hide hw5
    have HG := hide hg
    have HN := hide (⟨hG5, hR5, hB5, hN5⟩ : Whole w5 g 26 #[.slice A3 (ppR (digB s)).length c3, .slice A4 (parJ s).length c4] ∧ Whole w5 w.heap.size 26 #[.slice none 0 0, .slice none 0 0] ∧ Below w.heap.size w w5 ∧ NearAt w5 (w.heap.size + 1) (.slice A3 (ppR (digB s)).length c3) (.slice A4 (parJ s).length c4) (ppR (digB s)) (parJ s))
    have HB := hide hb
    clear H4 o3 o4 d4 hR3 hB3 hB4 hR4 hN4 hw5 hg b45 hG5 hB5 hR5 hN5 hb
    go_wp2_with fail
    rw [← unhide HW5, ← unhide HG]
    refine (unhide H5).mono ?_
    rintro e w6 ⟨rfl, d6⟩
    obtain ⟨hG5, hR5, hB5, hN5⟩ := unhide HN
    have hG6 := hG5.below d6 hG5.lt
    have hR6 := hR5.below d6 hR5.lt
    have hB6 := below_after hB5 d6
    have hN6 := hN5.below d6
    have q0 := hR6.cell 0
    have q1 := hR6.cell 1
    have e0 := hR6.frozen 0
    have e1 := hR6.frozen 1
    have hltr := hR6.lt
    have p0 := hG6.cell 0
    have p1 := hG6.cell 1
    simp only [List.getElem?_toArray, List.getElem?_cons_zero, List.getElem?_cons_succ] at q0 q1 p0 p1
    obtain ⟨T, hT⟩ : ∃ T, T = ntext (ppR (digB s)) (parJ s) := ⟨_, rfl⟩
    rw [← hT]
    by_cases hTs : T = s
    · have hyes : parOK s = true := by unfold parOK; rw [unhide HB, ← hT, decide_eq_true hTs]; rfl
      have HNO := hide (⟨by unfold parQ; rw [hyes]; rfl, by unfold parN; rw [hyes]; rfl, hyes⟩ : parQ s = ppR (digB s) ∧ parN s = parJ s ∧ parOK s = true)
      have HN2 := hide (⟨hR6, hB6, hN6⟩ : Whole w6 w.heap.size 26 #[.slice none 0 0, .slice none 0 0] ∧ Below w.heap.size w w6 ∧ NearAt w6 (w.heap.size + 1) (.slice A3 (ppR (digB s)).length c3) (.slice A4 (parJ s).length c4) (ppR (digB s)) (parJ s))
      rw [hTs]
      clear hG5 hR5 hB5 hN5 hG6 hR6 hB6 hN6 hyes hTs hT HN H5 HB HW5 HG d6 hs2 hs3 hs4
      go_wp2_with fail
      obtain ⟨hR, hB, hNr⟩ := unhide HN2
      have hWe := (hR.put 0 (.slice A3 (ppR (digB s)).length c3)).put 1 (.slice A4 (parJ s).length c4)
      refine bodyPost_ret (v := .tuple #[.agg #[.slice A3 (ppR (digB s)).length c3, .slice A4 (parJ s).length c4], .bool true]) (results_near Tryd.results9 _ _ w.heap.size 26 _ (0, 0) _ rfl hWe Tryd.underlying26 rfl nearInfo) rfl ?_
      rw [(unhide HNO).1, (unhide HNO).2.1, (unhide HNO).2.2]
      exact nearB_end true hNr (Nat.lt_succ_self _) hB
    · have hno : parOK s = false := by unfold parOK; rw [unhide HB, ← hT, decide_eq_false hTs]; rfl
      have HNO := hide (⟨by unfold parQ; rw [hno]; rfl, by unfold parN; rw [hno]; rfl, hno⟩ : parQ s = [] ∧ parN s = [] ∧ parOK s = false)
      have HN2 := hide (⟨hR6, hB6⟩ : Whole w6 w.heap.size 26 #[.slice none 0 0, .slice none 0 0] ∧ Below w.heap.size w w6)
      have hne : (T.data.toList == s.toList) = false := by
        rw [ByteArray.toList_eq, beq_eq_false_iff_ne]
        intro e
        exact hTs (by cases T; cases s; simpa using e)
      have hne2 : (T.toList == s.toList) = false := by
        rw [ByteArray.toList_eq, ByteArray.toList_eq, beq_eq_false_iff_ne]
        intro e
        exact hTs (by cases T; cases s; simpa using e)
      clear hG5 hR5 hB5 hN5 hG6 hR6 hB6 hN6 hno hTs hT HN H5 HB HW5 HG d6 hs2 hs3 hs4
      go_wp2_with fail
      obtain ⟨hR, hB⟩ := unhide HN2
      have hWe := (hR.put 0 (.slice none 0 0)).put 1 (.slice none 0 0)
      refine bodyPost_ret (v := .tuple #[.agg #[.slice none 0 0, .slice none 0 0], .bool false]) (results_near Tryd.results9 _ _ w.heap.size 26 _ (0, 0) _ rfl hWe Tryd.underlying26 rfl nearInfo) rfl ?_
      rw [(unhide HNO).1, (unhide HNO).2.1, (unhide HNO).2.2]
      exact nearB_end false (NearAt.none_ _ (w.heap.size + 1)) (Nat.lt_succ_self _) hB
end Go.Proofs.YtabfjmabiapgoaaDoor


/-
  spec.ReverseNear, by its contract.
-/

namespace Go.Proofs.YtabfjmabiapgoaaDoor
set_option maxRecDepth 100000
open Go.RowKit

theorem plOK_len {n : Nat} {pl : List Int} (h : PlOK n pl) : pl.length ≤ n := by
  by_cases h0 : pl.length = 0
  · omega
  · have key : ∀ i, i < pl.length → (i : Int) + 1 ≤ at0 pl i := by
      intro i
      induction i with
      | zero => intro hi; have := (h.rng hi).1; simpa using this
      | succ i ih => intro hi; have h1 := ih (by omega); have h2 := h.mono (show i < i + 1 by omega) hi; omega
    have h1 := key (pl.length - 1) (by omega)
    have h2 := (h.rng (i := pl.length - 1) (by omega)).2
    omega
theorem ints_under {w w' : World} {B g : Nat} {v : Value} {zs : List Int} (h : Ints w B v zs) (hu : Until g v) (hb : Below (g + 1) w w') : Ints w' B v zs := by
  refine ⟨h.1, ?_⟩
  rcases h.2 with h0 | ⟨k, cap, cur, e, hv, hk, hc, rest⟩
  · exact .inl h0
  · have hlt : k < g := hu k (by rw [hv]; rfl)
    exact .inr ⟨k, cap, cur, e, hv, hk, (hb.block k (by omega)).trans hc, rest⟩
def revQ (q J : List Int) : List Int := if nearOK q J then q.reverse else []
def revJJ (q J : List Int) : List Int := if nearOK q J then plRev (q.length - 1) J else []
/-- The first j of the joined places of the reverse. -/
def revP (n : Nat) (J : List Int) (j : Nat) : List Int := (J.reverse.take j).map fun x => (n : Int) - x
theorem revP_step {n i : Nat} {J : List Int} {x : Int} (hx : J[i]? = some x) (j : Nat) (hj : j = J.length - (i + 1)) : revP n J (j + 1) = revP n J j ++ [(n : Int) - x] := by
  have hi : i < J.length := (List.getElem?_eq_some_iff.1 hx).1
  unfold revP
  rw [List.take_add_one, List.getElem?_reverse (by omega), show J.length - 1 - j = i by omega, hx, List.map_append]
  rfl
theorem revP_all {q J : List Int} (h : nearOK q J = true) : revP q.length J J.length = plRev (q.length - 1) J := by
  have hJ := (nearOK_iff.1 h).2
  unfold revP plRev
  rw [List.take_of_length_le (by rw [List.length_reverse]; exact Nat.le_refl _), List.map_reverse]
  congr 1
  refine List.map_congr_left fun x hx => ?_
  have := hJ.1 x hx
  omega
theorem rev_own {w : World} {B j n : Nat} {v : Value} {J xs : List Int} {y : Int} (h : w.ownsRow B 3 1 v (j + 1) (i64s (revP n J j ++ [y]))) (hx : revP n J j ++ [y] = xs) : ∃ A c, v = .slice A (j + 1) c ∧ w.ownsRow B 3 1 (.slice A (j + 1) c) (j + 1) (i64s xs) := by
  rw [hx] at h
  rcases h.2 with ⟨_, h0⟩ | ⟨g, cap, cur, rfl, hr⟩
  · omega
  · exact ⟨_, _, rfl, h⟩
set_option maxHeartbeats 6400000 in
theorem srevn_any (A P : Option Addr) (n c B m d B' : Nat) (q J : List Int) (w : World) (h : Arg w B A n c q) (h' : Arg w B' P m d J) :
    Calls Tryd.prog 12 #[.agg #[.slice A n c, .slice P m d]] w (GivesNB w (revQ q J) (revJJ q J) (nearOK q J)) := by
  have hl := h.len
  have hl' := h'.len
  have hle' := h'.le
  obtain ⟨b, hb⟩ : ∃ b, nearOK q J = b := ⟨_, rfl⟩
  obtain ⟨w0, hw0⟩ : ∃ w0, w0 = (w.alloc (.cells #[.slice A n c, .slice P m d] 26)).alloc (.cells #[.slice none 0 0, .slice none 0 0] 26) := ⟨_, rfl⟩
  have b0 : Below w.heap.size w w0 := by rw [hw0]; exact ((Below.refl _ w).alloc (Nat.le_refl _) _).alloc (by simp) _
  have hs0 : w0.heap.size = w.heap.size + 2 := by rw [hw0]; simp
  have gx : Whole w0 w.heap.size 26 #[.slice A n c, .slice P m d] := by rw [hw0]; exact (Whole.new _ _ _).alloc _
  have gr : Whole w0 (w.heap.size + 1) 26 #[.slice none 0 0, .slice none 0 0] := by
    rw [hw0]
    have := Whole.new (w.alloc (.cells #[.slice A n c, .slice P m d] 26)) 26 #[.slice none 0 0, .slice none 0 0]
    rwa [World.size_alloc] at this
  have x0 := gx.cell 0
  have x1 := gx.cell 1
  have x2 := gx.lt
  simp only [List.getElem?_toArray, List.getElem?_cons_zero, List.getElem?_cons_succ] at x0 x1
  have H1 := hide (show Calls Tryd.prog 19 #[.agg #[.slice A n c, .slice P m d]] w0 (GivesB w0 b) from by
    rw [← hb]; exact snear_any A P n c B m d B' q J w0 (h.below b0) (h'.below b0))
  rw [hw0] at H1 x0 x1 x2
  have HS := hide hs0
  have HW := hide (⟨hw0, gx, gr, b0⟩ : w0 = (w.alloc (.cells #[.slice A n c, .slice P m d] 26)).alloc (.cells #[.slice none 0 0, .slice none 0 0] 26) ∧ Whole w0 w.heap.size 26 #[.slice A n c, .slice P m d] ∧ Whole w0 (w.heap.size + 1) 26 #[.slice none 0 0, .slice none 0 0] ∧ Below w.heap.size w w0)
  clear hs0 hw0 gx gr b0
  cases b with
  | false =>
    rw [show revQ q J = [] by unfold revQ; rw [hb]; rfl, show revJJ q J = [] by unfold revJJ; rw [hb]; rfl, hb]
    clear h h' hl hl' hb hle'
    go_enter Tryd.func12, Tryd.ntmps12
    go_wp2_with fail
    refine (unhide H1).mono ?_
    rintro e w1 ⟨rfl, d1⟩
    obtain ⟨hw0, gx, gr, b0⟩ := unhide HW
    rw [← hw0] at d1
    have hs0 := unhide HS
    have hR := gr.below d1 (by omega)
    have hb1 := below_after b0 d1
    have r0 := hR.cell 0
    have r1 := hR.cell 1
    have f0 := hR.frozen 0
    have f1 := hR.frozen 1
    have hltr := hR.lt
    simp only [List.getElem?_toArray, List.getElem?_cons_zero, List.getElem?_cons_succ] at r0 r1
    clear H1 HW d1 hw0 gx gr b0 hs0 HS x0 x1 x2
    go_wp2_with fail
    have hWe := (hR.put 0 (.slice none 0 0)).put 1 (.slice none 0 0)
    refine bodyPost_ret (v := .tuple #[.agg #[.slice none 0 0, .slice none 0 0], .bool false]) (results_near Tryd.results12 _ _ (w.heap.size + 1) 26 _ (0, 0) _ rfl hWe Tryd.underlying26 rfl nearInfo) rfl ?_
    exact GivesNB.mk false (NearAt.none_ _ _) ((hb1.setCell (by simp) _).setCell (by simp) _)
  | true =>
    obtain ⟨hq, hJ⟩ := nearOK_iff.1 hb
    have hn8 : n ≤ 8 := by have := isP_le hq; omega
    have hm8 : m ≤ 8 := by have := plOK_len hJ; omega
    have HQ := hide (show revQ q J = q.reverse ∧ revJJ q J = revP n J m from ⟨by unfold revQ; rw [hb]; rfl, by unfold revJJ; rw [hb, ← hl, ← hl', revP_all hb]; rfl⟩)
    have HJ := hide (fun k x (hx : J[k]? = some x) => hJ.1 x (List.mem_of_getElem? hx))
    have HA := hide (⟨h, h'⟩ : Arg w B A n c q ∧ Arg w B' P m d J)
    have HL := hide (⟨hl, hl'⟩ : q.length = n ∧ J.length = m)
    rw [(unhide HQ).1, (unhide HQ).2, hb]
    clear h h' hl hl' hb hle' hq hJ
    go_enter Tryd.func12, Tryd.ntmps12
    go_wp2_with fail
    refine (unhide H1).mono ?_
    rintro e w1 ⟨rfl, d1⟩
    obtain ⟨hw0, gx, gr, b0⟩ := unhide HW
    rw [← hw0] at d1
    have hs0 := unhide HS
    have hX := gx.below d1 (by omega)
    have hR := gr.below d1 (by omega)
    have hb1 := below_after b0 d1
    have hs1 := d1.size
    clear x0 x1 x2
    have x0 := hX.cell 0
    have x2 := hX.lt
    simp only [List.getElem?_toArray, List.getElem?_cons_zero] at x0
    have H2 := hide (l3rev_any A n c B q w1 ((unhide HA).1.below hb1))
    have HF1 := hide (⟨hX, hR, hb1, hs0, hs1⟩ : Whole w1 w.heap.size 26 #[.slice A n c, .slice P m d] ∧ Whole w1 (w.heap.size + 1) 26 #[.slice none 0 0, .slice none 0 0] ∧ Below w.heap.size w w1 ∧ w0.heap.size = w.heap.size + 2 ∧ w0.heap.size ≤ w1.heap.size)
    clear H1 HW HS d1 hw0 gx gr b0 hs0 hs1 hX hR hb1
    go_wp2_with fail
    refine (unhide H2).mono ?_
    rintro e w2 ⟨A2, c2, rfl, o2, d2⟩
    obtain ⟨hX, hR, hb1, hs0, hs1⟩ := unhide HF1
    have hrl : q.reverse.length = n := by rw [List.length_reverse]; exact (unhide HL).1
    rw [hrl] at o2 ⊢
    obtain ⟨g, hg⟩ : ∃ g, g = w2.heap.size := ⟨_, rfl⟩
    obtain ⟨w5, hw5⟩ : ∃ w5, w5 = w2.alloc (.cells #[.slice A2 n c2, .slice none 0 0] 26) := ⟨_, rfl⟩
    have hb25 : Below w2.heap.size w2 w5 := by rw [hw5]; exact (Below.refl _ w2).alloc (Nat.le_refl _) _
    have hs2 := d2.size
    have d5 := below_after d2 hb25
    have hG5 : Whole w5 g 26 #[.slice A2 n c2, .slice none 0 0] := by rw [hw5, hg]; exact Whole.new _ _ _
    have hX5 := hX.below d5 (by omega)
    have hR5 := hR.below d5 (by omega)
    have hU5 : Until g (.slice A2 n c2) := by rw [hg]; exact o2.until_
    have hP5 : Ints w5 (w.heap.size + 2) (.slice A2 n c2) q.reverse := (o2.below hb25).low (by omega)
    have hB5 := below_after hb1 d5
    have hg1 : w.heap.size + 2 ≤ g := by omega
    have y1 := hX5.cell 1
    have y2 := hX5.lt
    simp only [List.getElem?_toArray, List.getElem?_cons_zero, List.getElem?_cons_succ] at y1
    rw [hw5] at y1 y2
    have hwm : IntKind.i64.wrap ((m : Int) - 1) = (m : Int) - 1 := by rw [IntKind.wrap_i64]; omega
    have HW5 := hide (⟨hw5, hg⟩ : w5 = w2.alloc (.cells #[.slice A2 n c2, .slice none 0 0] 26) ∧ g = w2.heap.size)
    have HF5 := hide (⟨hG5, hX5, hR5, hP5, hB5⟩ : Whole w5 g 26 #[.slice A2 n c2, .slice none 0 0] ∧ Whole w5 w.heap.size 26 #[.slice A n c, .slice P m d] ∧ Whole w5 (w.heap.size + 1) 26 #[.slice none 0 0, .slice none 0 0] ∧ Ints w5 (w.heap.size + 2) (.slice A2 n c2) q.reverse ∧ Below w.heap.size w w5)
    clear H2 HF1 hX hR hb1 hs0 hs1 x0 x2 o2 d2 hrl hb25 d5 hs2 hw5 hg hG5 hX5 hR5 hP5 hB5
    go_wp2
    obtain ⟨hw5, hg⟩ := unhide HW5
    rw [← hw5, ← hg]
    clear hw5 hg HW5 y1 y2
    go_loopw [5] (fun kv wr => ∃ (r j : Nat) (Aj : Option Addr) (cj : Nat), r + j = m ∧ kv = .int .i64 ((r : Int) - 1) ∧ Whole wr g 26 #[.slice A2 n c2, .slice Aj j cj] ∧ wr.ownsRow (g + 1) 3 1 (.slice Aj j cj) j (i64s (revP n J j)) ∧
        Whole wr w.heap.size 26 #[.slice A n c, .slice P m d] ∧ Whole wr (w.heap.size + 1) 26 #[.slice none 0 0, .slice none 0 0] ∧ Ints wr (w.heap.size + 2) (.slice A2 n c2) q.reverse ∧ Below w.heap.size w wr) (fun kv _ => (intOf kv + 1).toNat)
    case atStart =>
      obtain ⟨hG5, hX5, hR5, hP5, hB5⟩ := unhide HF5
      exact ⟨m, 0, none, 0, rfl, rfl, hG5, World.ownsRow_nil _ _ _ _, hX5, hR5, hP5, hB5⟩
    case round =>
      obtain ⟨r, j, Aj, cj, hrj, rfl, hG, hO, hX, hR, hP, hB⟩ := hrel
      clear HF5
      have r0 := hG.cell 0
      have r1 := hG.cell 1
      have f1 := hG.frozen 1
      have hltg := hG.lt
      have x0 := hX.cell 0
      have x1 := hX.cell 1
      simp only [List.getElem?_toArray, List.getElem?_cons_zero, List.getElem?_cons_succ] at r0 r1 x0 x1
      cases r with
      | succ i =>
        have ei : (((i + 1 : Nat) : Int) - 1) = (i : Int) := by omega
        rw [ei]
        have hge : (0 : Int) ≤ (i : Int) := by omega
        have him : (i : Int) < (m : Int) := by omega
        obtain ⟨ad, u, rfl, _, hu, hc⟩ := ((unhide HA).2.below hB).reads.at_ (show i < m by omega)
        obtain ⟨x, hx, rfl⟩ := i64_at hu
        have hxr := unhide HJ i x hx
        have hxq := (unhide HL).1
        have hwi : IntKind.i64.wrap ((i : Int) - 1) = (i : Int) - 1 := by rw [IntKind.wrap_i64]; omega
        have hwx : IntKind.i64.wrap ((n : Int) - x) = (n : Int) - x := by rw [IntKind.wrap_i64]; omega
        have hstep := revP_step (n := n) hx j (by have := (unhide HL).2; omega)
        have HST := hide hstep
        have HF := hide (⟨hG, hX, hR, hP, hB, hO, hrj⟩ : Whole wr g 26 #[.slice A2 n c2, .slice Aj j cj] ∧ Whole wr w.heap.size 26 #[.slice A n c, .slice (some ad) m d] ∧ Whole wr (w.heap.size + 1) 26 #[.slice none 0 0, .slice none 0 0] ∧ Ints wr (w.heap.size + 2) (.slice A2 n c2) q.reverse ∧ Below w.heap.size w wr ∧ wr.ownsRow (g + 1) 3 1 (.slice Aj j cj) j (i64s (revP n J j)) ∧ i + 1 + j = m)
        have hjm : j ≤ 8 := by omega
        have hxs : -9223372036854775808 ≤ (n : Int) - x ∧ (n : Int) - x ≤ 9223372036854775807 := by omega
        have r1d : ∀ o, (wr.drew.alloc o).cell? ⟨g, 1, none⟩ = some (.slice Aj j cj) := fun o => (((Below.refl wr.heap.size wr).drew.alloc (Nat.le_refl _) o).cell (p := ⟨g, 1, none⟩) hltg).trans r1
        have r1e : wr.drew.cell? ⟨g, 1, none⟩ = some (.slice Aj j cj) := r1
        clear hG hX hR hP hB hu hx hxr hstep hxq ei hrj
        go_wp2
        go_region_law
          (first
            | (refine step_append_one (by rfl) (.tmp 23) (.tmp 33) (by rfl) (g + 1) j wr wr _ (revP n J j) ((n : Int) - x) (by rfl) (by rfl) (by rfl) hO hxs (by omega) (Below.refl _ _) hltg ?_; intro v' w' hO' hb'; obtain ⟨A', c', rfl, hO2⟩ := rev_own hO' (unhide HST).symm; have r1' := ((unhide HF).1.below hb' (Nat.lt_succ_self g)).cell 1; have f1' := ((unhide HF).1.below hb' (Nat.lt_succ_self g)).frozen 1; have l1' := ((unhide HF).1.below hb' (Nat.lt_succ_self g)).lt; simp only [List.getElem?_toArray, List.getElem?_cons_zero, List.getElem?_cons_succ] at r1'; clear hO'))
        all_goals
          obtain ⟨hG, hX, hR, hP, hB, hO, hrj⟩ := unhide HF
          have hG' := (hG.below hb' (Nat.lt_succ_self g)).put 1 (.slice A' (j + 1) c')
          have hO3 := own_past hO2 (p := ⟨g, 1, none⟩) (Nat.lt_succ_self g) (.slice A' (j + 1) c')
          have hX' := (hX.below hb' (show w.heap.size < g + 1 by omega)).far (p := ⟨g, 1, none⟩) (by simp; omega) (.slice A' (j + 1) c')
          have hR' := (hR.below hb' (show w.heap.size + 1 < g + 1 by omega)).far (p := ⟨g, 1, none⟩) (by simp; omega) (.slice A' (j + 1) c')
          have hP' := (ints_under hP hU5 hb').kept (grownBy_setCellA w' ⟨g, 1, none⟩ (.slice A' (j + 1) c')) (away_block hU5)
          have hB' := (hB.trans (hb'.mono (show w.heap.size ≤ g + 1 by omega))).setCell (p := ⟨g, 1, none⟩) (by show w.heap.size ≤ g; omega) (.slice A' (j + 1) c')
          clear hG hX hR hP hB hO HF r0 r1 f1 hltg x0 x1 hc r1d r1e r1' f1' l1' hO2 HST
          go_wp2
          go_roundw
          case rel => exact ⟨i, j + 1, A', c', by omega, rfl, hG', hO3, hX', hR', hP', hB'⟩
          case measure => simp [intOf]
      | zero =>
        have hjm : j = m := by omega
        subst hjm
        have s0 := hR.cell 0
        have s1 := hR.cell 1
        have e0 := hR.frozen 0
        have e1 := hR.frozen 1
        have hltr := hR.lt
        simp only [List.getElem?_toArray, List.getElem?_cons_zero, List.getElem?_cons_succ] at s0 s1
        have hN : NearAt wr (w.heap.size + 2) (.slice A2 n c2) (.slice Aj j cj) q.reverse (revP n J j) := ⟨hP, (Ints.of_own hO).low (show w.heap.size + 2 ≤ g + 1 by omega), apart hU5 (fun k hk => (hO.lt k hk).1) (Nat.le_succ g)⟩
        have HN := hide (⟨hR, hN, hB⟩ : Whole wr (w.heap.size + 1) 26 #[.slice none 0 0, .slice none 0 0] ∧ NearAt wr (w.heap.size + 2) (.slice A2 n c2) (.slice Aj j cj) q.reverse (revP n J j) ∧ Below w.heap.size w wr)
        clear hG hX hR hP hB hO hN
        go_wp2_with fail
        obtain ⟨hR, hN, hB⟩ := unhide HN
        have hWe := (hR.put 0 (.slice A2 n c2)).put 1 (.slice Aj j cj)
        refine bodyPost_ret (v := .tuple #[.agg #[.slice A2 n c2, .slice Aj j cj], .bool true]) (results_near Tryd.results12 _ _ (w.heap.size + 1) 26 _ (0, 0) _ rfl hWe Tryd.underlying26 rfl nearInfo) rfl ?_
        exact GivesNB.mk true (((hN.past (p := ⟨w.heap.size + 1, 0, none⟩) (Nat.lt_succ_self _) _).past (p := ⟨w.heap.size + 1, 1, none⟩) (Nat.lt_succ_self _) _).low (by omega)) ((hB.setCell (p := ⟨w.heap.size + 1, 0, none⟩) (Nat.le_succ _) _).setCell (p := ⟨w.heap.size + 1, 1, none⟩) (Nat.le_succ _) _)
end Go.Proofs.YtabfjmabiapgoaaDoor


/-
  One world in which the tables of unicode/utf8 are laid (for the witness), where the row lists no table of strconv.
-/

namespace Go.Proofs.YtabfjmabiapgoaaDoor
set_option maxRecDepth 100000
open Go.ChangeShapes Go.WideShapes Go.ChangeAt Go.RowKit

def onCells (cs : Array Value) : Obj → Obj
  | .cells _ t frozen => .cells cs t frozen
  | o => o
/-- A datum as cells, one after the other. -/
noncomputable def flat1 : DataW Unit → List Value
  | .lit (.int k z) => [.int k z]
  | _ => []
noncomputable def flat2 : DataW Unit → List Value
  | .lit (.int k z) => [.int k z]
  | .agg xs => xs.flatMap flat1
  | _ => []
noncomputable def flat : DataW Unit → List Value
  | .agg xs => xs.flatMap flat2
  | _ => []
noncomputable def laidWorldS (os : Os) : World :=
  { World.holding Tryd.prog os ⟨#[], #[], []⟩ with heap := ((World.holding Tryd.prog os ⟨#[], #[], []⟩).heap.modify 2 (onCells (flat Rows.laid_unicode_utf8_acceptRanges).toArray)).modify 1 (onCells (flat Rows.laid_unicode_utf8_first).toArray) }
end Go.Proofs.YtabfjmabiapgoaaDoor
