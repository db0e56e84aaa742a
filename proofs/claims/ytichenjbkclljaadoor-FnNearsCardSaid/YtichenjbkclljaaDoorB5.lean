/-
  Words and contracts that the laws lean on, bundled: IntsA, NearW, NearC, Same, Pat, Join, Cmp, Put, Rev.
-/
import Derived.Test.YtichenjbkclljaaDoorB2
import Derived.Test.YtichenjbkclljaaDoorB4
import Derived.LaidMore
import Derived.Test.YtichenjbkclljaaDoorB1
import Derived.Laws.ResultCell
import Derived.Test.YtichenjbkclljaaDoorB3
import Derived.IntWalk
import Derived.Deep.RegionHeld3
import Derived.Sort.Grow
import Derived.Outline
import Derived.Lib.SliceRun

/-
  LISTS OF ROWS AS ARGUMENTS: how they read; szIntS, szIntSS, toIntSS by their contracts.
-/

namespace Go.Proofs.YtichenjbkclljaaDoor
set_option maxRecDepth 100000
open Go.RowKit Go.ChangeShapes Go.WideShapes Go.ChangeAt

/-- The slice value '.slice A n c' holds rows that read as the lists zss, all below block B. -/
structure ReadsS (w : World) (B : Nat) (A : Option Addr) (n : Nat) (zss : List (List Int)) : Prop where
  len : zss.length = n
  rows : 0 < n → ∃ ad, A = some ad ∧ ad.block < B ∧ ∀ (j : Nat) z, zss[j]? = some z → ∃ A' c', w.cell? (ad.add j) = some (.slice A' z.length c') ∧ Reads w B A' z.length (i64s z)
theorem ReadsS.below {w w' : World} {B n : Nat} {A : Option Addr} {zss : List (List Int)} (h : ReadsS w B A n zss) (hb : Below B w w') : ReadsS w' B A n zss :=
  ⟨h.len, fun hn => by
    obtain ⟨ad, e, h1, h2⟩ := h.rows hn
    refine ⟨ad, e, h1, fun j z hz => ?_⟩
    obtain ⟨A', c', h3, h4⟩ := h2 j z hz
    exact ⟨A', c', (hb.cell (by rw [block_of_add]; exact h1)).trans h3, h4.below hb⟩⟩
theorem ReadsS.at_ {w : World} {B n k : Nat} {A : Option Addr} {zss : List (List Int)} (h : ReadsS w B A n zss) (hk : k < n) : ∃ ad A' c' z, A = some ad ∧ zss[k]? = some z ∧ w.cell? (ad.add k) = some (.slice A' z.length c') ∧ Reads w B A' z.length (i64s z) := by
  obtain ⟨ad, e, h1, h2⟩ := h.rows (by omega)
  have hz : zss[k]? = some (zss[k]'(by rw [h.len]; exact hk)) := List.getElem?_eq_getElem _
  obtain ⟨A', c', h3, h4⟩ := h2 k _ hz
  exact ⟨ad, A', c', _, e, hz, h3, h4⟩
theorem list_of {β : Type} {P : Nat → β → Prop} : ∀ n : Nat, (∀ i, i < n → ∃ z, P i z) → ∃ l : List β, l.length = n ∧ ∀ (i : Nat) z, l[i]? = some z → P i z
  | 0, _ => ⟨[], rfl, fun i z h => by simp at h⟩
  | n + 1, h => by
    obtain ⟨l, h1, h2⟩ := list_of n fun i hi => h i (by omega)
    obtain ⟨z, hz⟩ := h n (by omega)
    refine ⟨l ++ [z], by simp [h1], fun i y hy => ?_⟩
    by_cases hi : i < l.length
    · rw [List.getElem?_append_left hi] at hy
      exact h2 i y hy
    · rw [List.getElem?_append_right (by omega)] at hy
      have h0 : i - l.length = 0 := by
        have := (List.getElem?_eq_some_iff.1 hy).1
        simp at this
        omega
      rw [h0] at hy
      simp at hy
      subst hy
      rw [show i = n by omega]
      exact hz
/-- An argument [][]int, as 'ReadsS'. -/
theorem open_intss_reads {H : Type} {enc : TypeId × Value → H} {P : Program} {w : World} {r : Reach} {b0 t e ei : TypeId} {v : Value} {d : DataW H} {ps : List MemPlace} (ht : P.underlying t = some (.slice e)) (he : P.underlying e = some (.slice ei)) (hei : P.underlying ei = some (.int .i64)) (hc : P.cellsOf e = 1) (hci : P.cellsOf ei = 1)
    (hval : Value.okWide P w r b0 t v) (h : DataW.Trod enc P w 0 (fun _ => true) true t v d ps) (hlt : ∀ x ∈ ps, x.block < w.heap.size) :
    ∃ (A : Option Addr) (n c : Nat) (zss : List (List Int)), v = .slice A n c ∧ ReadsS w w.heap.size A n zss ∧ n ≤ maxLen ∧ ∀ z ∈ zss, z.length ≤ maxLen ∧ Small z := by
  obtain ⟨a0, len, cap, rfl⟩ := okWide_slice ht hval
  obtain ⟨fuel, hf⟩ := h
  rcases DataW.trod_slice ht hf with ⟨hcs, hx⟩ | ⟨a, len', cap', elems, rest, m, _, hcs, hx, _, hl, hm, hlen, hel, _, _⟩
  · simp [Value.cells] at hcs
    obtain ⟨rfl, rfl, rfl⟩ := hcs
    exact ⟨none, 0, 0, [], rfl, ⟨rfl, fun h => absurd h (by omega)⟩, Nat.zero_le _, by simp⟩
  · simp [Value.cells] at hcs
    obtain ⟨rfl, rfl, rfl⟩ := hcs
    simp only [Prod.mk.injEq] at hx
    obtain ⟨_, rfl⟩ := hx
    have each : ∀ i, i < len → ∃ z : List Int, (∃ A' c', w.cell? (a.add i) = some (.slice A' z.length c') ∧ Reads w w.heap.size A' z.length (i64s z)) ∧ z.length ≤ maxLen ∧ Small z := by
      intro i hi
      have h1 := hel i hi
      rw [hc, Nat.mul_one, List.getElem?_eq_getElem (by omega), Option.bind_eq_some_iff] at h1
      obtain ⟨cs', hcs', htr⟩ := h1
      have hq : ∀ x ∈ (elems[i]'(by omega)).2, x.block < w.heap.size := fun x hx => hlt x (by
        refine List.mem_append.2 (.inr (List.mem_flatMap.2 ⟨elems[i]'(by omega), List.mem_append.2 (.inl (List.getElem_mem _)), hx⟩))
      )
      rcases open_ints he hei hci htr with ⟨rfl, _⟩ | ⟨a', len'', cap'', zs, rfl, _, hl', hm', hz, hx', hcell, hws⟩
      · exact ⟨[], ⟨none, 0, cell_of_cells?_one hcs', Reads.none_⟩, Nat.zero_le _, fun z hz => by simp at hz⟩
      · simp only [if_true] at hz
        have e1 : (zs.take len'').length = len'' := by rw [List.length_take]; omega
        refine ⟨zs.take len'', ⟨some a', cap'', by rw [e1]; exact cell_of_cells?_one hcs', ?_⟩, by omega, small_of_wf fun z hz => hws z (List.mem_of_mem_take hz)⟩
        refine ⟨by rw [i64_length], fun hn => ⟨a', rfl, ?_, fun j u hu => ?_⟩⟩
        · rw [hx'] at hq
          exact lt_of_row (j := 0) hq (by omega)
        · unfold i64s at hu
          rw [List.getElem?_map, List.getElem?_take] at hu
          by_cases hj : j < len''
          · rw [if_pos hj] at hu
            rw [hcell j (by omega), ← hu, List.getD_eq_getElem?_getD]
            have : zs[j]? = some zs[j] := List.getElem?_eq_getElem (by omega)
            rw [this]; rfl
          · rw [if_neg hj] at hu; cases hu
    obtain ⟨zss, hz1, hz2⟩ := list_of len each
    refine ⟨some a, len, cap, zss, rfl, ⟨hz1, fun hn => ⟨a, rfl, ?_, fun j z hz => (hz2 j z hz).1⟩⟩, by omega, fun z hz => ?_⟩
    · rw [hc] at hlt
      refine lt_of_row (m := (elems.length + rest.length) * 1) (j := 0) (fun x hx => hlt x (List.mem_append.2 (.inl hx))) (by omega)
    · obtain ⟨i, hi, rfl⟩ := List.getElem_of_mem hz
      exact (hz2 i _ (List.getElem?_eq_getElem hi)).2
theorem cellsRow : Tryd.prog.cellsOf 24 = 1 := by kernel_rfl

end Go.Proofs.YtichenjbkclljaaDoor


/-
  Structs of two rows: the words for them; eqNear, markNear, heldNear, szNear, toNear by their contracts.
-/

namespace Go.Proofs.YtichenjbkclljaaDoor
set_option maxRecDepth 100000
open Go.RowKit

/-- Two rows from block B on, apart from one another. -/
structure NearAt (w : World) (B : Nat) (pv jv : Value) (q J : List Int) : Prop where
  p : Ints w B pv q
  j : Ints w B jv J
  away : Away pv jv
theorem NearAt.below {w w' : World} {B : Nat} {pv jv : Value} {q J : List Int} (h : NearAt w B pv jv q J) (hb : Below w.heap.size w w') : NearAt w' B pv jv q J := ⟨h.p.below hb, h.j.below hb, h.away⟩
theorem NearAt.low {w : World} {B B' : Nat} {pv jv : Value} {q J : List Int} (h : NearAt w B pv jv q J) (hB : B' ≤ B) : NearAt w B' pv jv q J := ⟨h.p.low hB, h.j.low hB, h.away⟩
theorem Ints.past {w : World} {B : Nat} {v : Value} {zs : List Int} (h : Ints w B v zs) {p : Addr} (hp : p.block < B) (u : Value) : Ints (w.setCell p u) B v zs := by
  refine ⟨h.1, ?_⟩
  rcases h.2 with hn | ⟨g, cap, cur, e, rfl, hb, hgg, h1, h2, he⟩
  · exact .inl hn
  · exact .inr ⟨g, cap, cur, e, rfl, hb, (Below.heap_setCell w p u g (by omega)).trans hgg, h1, h2, he⟩
theorem NearAt.past {w : World} {B : Nat} {pv jv : Value} {q J : List Int} (h : NearAt w B pv jv q J) {p : Addr} (hp : p.block < B) (u : Value) : NearAt (w.setCell p u) B pv jv q J := ⟨h.p.past hp u, h.j.past hp u, h.away⟩
/-- .. and below block U. -/
def NSeal (w : World) (B U : Nat) (pv jv : Value) (q J : List Int) : Prop := NearAt w B pv jv q J ∧ Until U pv ∧ Until U jv
section
variable {w w' : World} {B U : Nat} {pv jv : Value} {q J : List Int}
theorem NearAt.sealed (h : NearAt w B pv jv q J) : NSeal w B w.heap.size pv jv q J := ⟨h, h.p.until_, h.j.until_⟩
theorem NSeal.opened (h : NSeal w B U pv jv q J) : NearAt w B pv jv q J := h.1
theorem NSeal.below (h : NSeal w B U pv jv q J) (hb : Below w.heap.size w w') : NSeal w' B U pv jv q J := ⟨h.1.below hb, h.2⟩
theorem NSeal.after {u : Value} {E : Nat} (h : NSeal w B U pv jv q J) (hg : w.grownBy w' u.ownBlock) (hu : Until E u) (hE : E ≤ B) : NSeal w' B U pv jv q J :=
  ⟨⟨h.1.p.kept hg (apart' h.1.p.since hu hE), h.1.j.kept hg (apart' h.1.j.since hu hE), h.1.away⟩, h.2⟩
theorem NSeal.turnLow {B0 U0 : Nat} (h : NSeal w B0 U0 pv jv q J) (ht : Turned B U w w') (hU : U0 ≤ B) : NSeal w' B0 U0 pv jv q J :=
  ⟨⟨h.1.p.turnLow h.2.1 ht hU, h.1.j.turnLow h.2.2 ht hU, h.1.away⟩, h.2⟩
theorem NSeal.turnHigh {B0 U0 : Nat} (h : NSeal w B0 U0 pv jv q J) (ht : Turned B U w w') (hU : U ≤ B0) : NSeal w' B0 U0 pv jv q J :=
  ⟨⟨h.1.p.turnHigh ht hU, h.1.j.turnHigh ht hU, h.1.away⟩, h.2⟩
end
/-- A struct of two rows, and whether. -/
def GivesNB (w : World) (q J : List Int) (b : Bool) (e : Ending) (w' : World) : Prop :=
  ∃ A c P d, e = .returned (.tuple #[.agg #[.slice A q.length c, .slice P J.length d], .bool b]) ∧ NearAt w' w.heap.size (.slice A q.length c) (.slice P J.length d) q J ∧ Below w.heap.size w w'
def GivesNr (w : World) (q J : List Int) (e : Ending) (w' : World) : Prop :=
  ∃ A c P d, e = .returned (.agg #[.slice A q.length c, .slice P J.length d]) ∧ NearAt w' w.heap.size (.slice A q.length c) (.slice P J.length d) q J ∧ Below w.heap.size w w'
theorem GivesNB.mk {w w' : World} {pv jv : Value} {q J : List Int} (b : Bool) (h : NearAt w' w.heap.size pv jv q J) (hb : Below w.heap.size w w') : GivesNB w q J b (.returned (.tuple #[.agg #[pv, jv], .bool b])) w' := by
  obtain ⟨A, c, rfl⟩ := h.p.slice
  obtain ⟨P, d, rfl⟩ := h.j.slice
  exact ⟨A, c, P, d, rfl, h, hb⟩
theorem GivesNr.mk {w w' : World} {pv jv : Value} {q J : List Int} (h : NearAt w' w.heap.size pv jv q J) (hb : Below w.heap.size w w') : GivesNr w q J (.returned (.agg #[pv, jv])) w' := by
  obtain ⟨A, c, rfl⟩ := h.p.slice
  obtain ⟨P, d, rfl⟩ := h.j.slice
  exact ⟨A, c, P, d, rfl, h, hb⟩
theorem NearAt.none_ (w : World) (B : Nat) : NearAt w B (.slice none 0 0) (.slice none 0 0) [] [] := ⟨Ints.nil w B, Ints.nil w B, .inl rfl⟩

theorem nearInfo : (Tryd.prog.info? 26).map (·.size) = some 2 := by kernel_rfl
end Go.Proofs.YtichenjbkclljaaDoor


/-
  spec.ConsecutiveOf, by its contract.
-/

namespace Go.Proofs.YtichenjbkclljaaDoor
set_option maxRecDepth 100000
open Go.RowKit

theorem results_near {P : Program} {fn : Func} {p u : Tmp} {ty : TypeId} (h : fn.results = #[.cell p ty, .tmp u]) (tmps : Array Value) (w : World) (g : Nat) (t : TypeId) (cs : Array Value) (fr : Nat × Nat) (d : TypeDesc)
    (hp : tmps.getD p undef = .pointer (some ⟨g, 0, none⟩)) (hg : w.heap[g]? = some (.cells cs t fr))
    (hu : P.underlying ty = some d) (hd : (match d with | .struct _ | .array _ _ => true | _ => false) = true) (hi : (P.info? ty).map (·.size) = some cs.size) :
    (results fn tmps).run P w = .ok (.tuple #[.agg cs, tmps.getD u undef]) w := by
  rw [results_cell_tmp h, hp]
  simp [asAddr, Result.andThen, run_loadVar_row w g t ty cs fr d hg hu hd hi]
theorem grownBy_setCellA (w : World) (p : Addr) (v : Value) : w.grownBy (w.setCell p v) (some p.block) := ⟨rfl, rfl, rfl, by simp, fun k _ hk => Below.heap_setCell w p v k (fun e => hk (by rw [e]))⟩
theorem away_block {v : Value} {g : Nat} (hu : Until g v) : v.ownBlock = none ∨ v.ownBlock ≠ some g := by
  cases ho : v.ownBlock with
  | none => exact .inl rfl
  | some k => exact .inr fun e => by have := hu k ho; injection e with e; omega
theorem nearB_end {w w3 : World} {B : Nat} {pv jv : Value} {q J : List Int} (b : Bool) (hIn : NearAt w3 B pv jv q J) (hB : w.heap.size < B) (hb : Below w.heap.size w w3) :
    GivesNB w q J b (.returned (.tuple #[.agg #[pv, jv], .bool b])) ((w3.setCell ⟨w.heap.size, 0, none⟩ pv).setCell ⟨w.heap.size, 1, none⟩ jv) :=
  GivesNB.mk b (((hIn.past (by simpa using hB) _).past (by simpa using hB) _).low (by omega)) ((hb.setCell (Nat.le_refl _) _).setCell (Nat.le_refl _) _)
theorem own_past {w : World} {B n k : Nat} {e : TypeId} {v : Value} {xs : List Value} (h : w.ownsRow B e k v n xs) {p : Addr} (hp : p.block < B) (u : Value) : (w.setCell p u).ownsRow B e k v n xs := by
  refine ⟨h.1, ?_⟩
  rcases h.2 with hn | ⟨g, cap, cur, rfl, hb, hgg, hr⟩
  · exact .inl hn
  · exact .inr ⟨g, cap, cur, rfl, hb, (Below.heap_setCell w p u g (by omega)).trans hgg, hr⟩
def conK (j : Nat) : List Int := (List.range j).map fun (i : Nat) => (i : Int) + 1
theorem conK_step (j : Nat) : conK (j + 1) = conK j ++ [(j : Int) + 1] := by unfold conK; rw [List.range_succ, List.map_append]; rfl
theorem con_own {w : World} {B j : Nat} {v : Value} (h : w.ownsRow B 3 1 v (j + 1) (i64s (conK j) ++ [.int .i64 ((j : Int) + 1)])) : ∃ A c, v = .slice A (j + 1) c ∧ w.ownsRow B 3 1 (.slice A (j + 1) c) (j + 1) (i64s (conK (j + 1))) := by
  have e : i64s (conK j) ++ [.int .i64 ((j : Int) + 1)] = i64s (conK (j + 1)) := by rw [conK_step, ← i64_append]; rfl
  rw [e] at h
  rcases h.2 with ⟨_, h0⟩ | ⟨g, cap, cur, rfl, hr⟩
  · omega
  · exact ⟨_, _, rfl, h⟩
def conQ (q : List Int) : List Int := if isP q then q else []
def conR (q : List Int) : List Int := if isP q then conJ q.length else []
theorem con_sizes (q : List Int) : (conQ q).length ≤ 1048576 ∧ (conR q).length ≤ 1048576 := by
  unfold conQ conR
  cases h : isP q with
  | true => have h8 := isP_le h; simp [conJ]; omega
  | false => simp
set_option maxHeartbeats 1600000 in
theorem sconn_any (A : Option Addr) (n c B : Nat) (q : List Int) (w : World) (h : Arg w B A n c q) :
    Calls Tryd.prog 14 #[.slice A n c] w (GivesNB w (conQ q) (conR q) (isP q)) := by
  obtain ⟨i0, hi, hz0, hz1, hz2⟩ := info_parts intInfo
  have hl := h.len
  have hle := h.le
  obtain ⟨b, hb⟩ : ∃ b, isP q = b := ⟨_, rfl⟩
  have hbel := (Below.refl w.heap.size w).alloc (Nat.le_refl _) (.cells #[.slice none 0 0, .slice none 0 0] 26)
  have hW := Whole.new w 26 #[.slice none 0 0, .slice none 0 0]
  have H0 := hide (sisperm_any A n c B q b hb _ (h.below hbel).reads h.le h.cap)
  cases b with
  | false =>
    rw [show conQ q = [] by unfold conQ; rw [hb]; rfl, show conR q = [] by unfold conR; rw [hb]; rfl, hb]
    clear h hl hb
    go_enter Tryd.func14, Tryd.ntmps14
    go_wp2_with fail
    refine (unhide H0).mono ?_
    rintro e w1 ⟨rfl, hd⟩
    have hW1 := hW.below (hd.below (w.heap.size + 1)) (Nat.lt_succ_self _)
    have hb1 := hbel.trans (hd.below w.heap.size)
    have r0 := hW1.cell 0
    have r1 := hW1.cell 1
    have g0 := hW1.frozen 0
    have g1 := hW1.frozen 1
    have hltr := hW1.lt
    simp only [List.getElem?_toArray, List.getElem?_cons_zero, List.getElem?_cons_succ] at r0 r1
    clear hd H0 hW hbel
    go_wp2_with fail
    have hWe := (hW1.put 0 (.slice none 0 0)).put 1 (.slice none 0 0)
    refine bodyPost_ret (v := .tuple #[.agg #[.slice none 0 0, .slice none 0 0], .bool false]) (results_near Tryd.results14 _ _ w.heap.size 26 _ (0, 0) _ rfl hWe Tryd.underlying26 rfl nearInfo) rfl ?_
    exact nearB_end false (NearAt.none_ w1 (w.heap.size + 1)) (Nat.lt_succ_self _) hb1
  | true =>
    have hn8 : n ≤ 8 := by have := isP_le hb; omega
    rw [show conQ q = q by unfold conQ; rw [hb]; rfl, show conR q = conK (n - 1) by unfold conR; rw [hb, hl]; rfl, hb]
    have HA := hide h
    have HL := hide hl
    clear h hl hb
    go_enter Tryd.func14, Tryd.ntmps14
    go_wp2_with fail
    refine (unhide H0).mono ?_
    rintro e w1 ⟨rfl, hd⟩
    have hs1 : w1.heap.size = w.heap.size + 1 := by rw [hd.size]; simp
    have hW1 := hW.below (hd.below (w.heap.size + 1)) (Nat.lt_succ_self _)
    have hb1 := hbel.trans (hd.below w.heap.size)
    have hb1e : Below w1.heap.size w1 (w1.alloc (.cells #[] 3)) := (Below.refl _ w1).alloc (Nat.le_refl _) _
    have hown0 := own0 w1 w1.heap.size (Nat.le_refl _)
    have hAe := ((unhide HA).below hb1).below hb1e
    have hze : w1.heap.size ≤ (w1.alloc (.cells #[] 3)).heap.size := hb1e.size
    have HS1 := hide hs1
    have HW1 := hide (⟨hW1, hb1⟩ : Whole w1 w.heap.size 26 #[.slice none 0 0, .slice none 0 0] ∧ Below w.heap.size w w1)
    clear hd H0 hW hbel hs1 hW1 hb1
    go_wp2_with (first
      | (at_builtin; refine wpList_append_arg rfl (.tmp 10) (.tmp 11) rfl w1.heap.size B 0 n c w1 _ A [] q rfl rfl hown0 hAe (by omega) hb1e hze ?_; intro v' w2 hown2 hb2 hg2; have hI2 := Ints.of_own hown2; rw [List.nil_append] at hI2; obtain ⟨A2, c2, rfl⟩ := hI2.slice; have hN := Whole.new w2 26 #[.slice none 0 0, .slice none 0 0]; have r0 := hN.cell 0; have r1 := hN.cell 1; have f0 := hN.frozen 0; have f1 := hN.frozen 1; have hlt2 := hN.lt; simp only [List.getElem?_toArray, List.getElem?_cons_zero, List.getElem?_cons_succ] at r0 r1; clear hown2 hg2))
    have hl2 : q.length = n := unhide HL
    obtain ⟨hW1, hb1⟩ := unhide HW1
    have hs1 := unhide HS1
    have hz2' := hb2.size
    obtain ⟨g, hg⟩ : ∃ g, g = w2.heap.size := ⟨_, rfl⟩
    obtain ⟨w5, hw5⟩ : ∃ w5, w5 = w2.alloc (.cells #[.slice A2 q.length c2, .slice none 0 0] 26) := ⟨_, rfl⟩
    have hb25 : Below w2.heap.size w2 w5 := by rw [hw5]; exact (Below.refl _ w2).alloc (Nat.le_refl _) _
    have hG5 : Whole w5 g 26 #[.slice A2 q.length c2, .slice none 0 0] := by rw [hw5, hg]; exact Whole.new _ _ _
    have hR5 : Whole w5 w.heap.size 26 #[.slice none 0 0, .slice none 0 0] := (hW1.below hb2 (by omega)).below hb25 (by omega)
    have hU5 : Until g (.slice A2 q.length c2) := by rw [hg]; exact hI2.until_
    have hP5 : Ints w5 (w.heap.size + 1) (.slice A2 q.length c2) q := (hI2.below hb25).low (by omega)
    have hB5 : Below w.heap.size w w5 := (hb1.trans (hb2.mono (by omega))).trans (hb25.mono (by omega))
    have hg1 : w.heap.size < g := by omega
    rw [hl2] at hG5 hU5 hP5 hw5
    rw [hl2]
    rw [← hw5, ← hg]
    have HI0 := hide (⟨i0, hi, hz0, hz1, hz2⟩ : ∃ i0, Tryd.prog.info? 3 = some i0 ∧ i0.zero = some (.int .i64 0) ∧ i0.size = 1 ∧ i0.bytes = 8)
    clear hw5 hb25 hW1 hb1 hb1e hown0 hAe hze HS1 HW1 hb2 hI2 hN r0 r1 f0 f1 hlt2 HA HL hz2' hg hs1
    go_loopw [5] (fun kv wr => ∃ (j : Nat) (Aj : Option Addr) (cj : Nat), j ≤ n - 1 ∧ kv = .int .i64 ((j : Int) + 1) ∧ Whole wr g 26 #[.slice A2 n c2, .slice Aj j cj] ∧ wr.ownsRow (g + 1) 3 1 (.slice Aj j cj) j (i64s (conK j)) ∧
        Whole wr w.heap.size 26 #[.slice none 0 0, .slice none 0 0] ∧ Ints wr (w.heap.size + 1) (.slice A2 n c2) q ∧ Below w.heap.size w wr) (fun kv _ => n + 1 - (intOf kv).toNat)
    case atStart => exact ⟨0, none, 0, Nat.zero_le _, rfl, hG5, World.ownsRow_nil _ _ _ _, hR5, hP5, hB5⟩
    case round =>
      obtain ⟨j, Aj, cj, hj, rfl, hG, hO, hR, hP, hB⟩ := hrel
      clear hG5 hR5 hP5 hB5
      have r0 := hG.cell 0
      have r1 := hG.cell 1
      have f1 := hG.frozen 1
      have hltg := hG.lt
      simp only [List.getElem?_toArray, List.getElem?_cons_zero, List.getElem?_cons_succ] at r0 r1
      by_cases hlt : j + 1 < n
      · have hlt' : (j : Int) + 1 < (n : Int) := by omega
        have hwj : IntKind.i64.wrap ((j : Int) + 1 + 1) = (j : Int) + 1 + 1 := by rw [IntKind.wrap_i64]; omega
        have HF := hide (⟨hG, hR, hP, hB, hO⟩ : Whole wr g 26 #[.slice A2 n c2, .slice Aj j cj] ∧ Whole wr w.heap.size 26 #[.slice none 0 0, .slice none 0 0] ∧ Ints wr (w.heap.size + 1) (.slice A2 n c2) q ∧ Below w.heap.size w wr ∧ wr.ownsRow (g + 1) 3 1 (.slice Aj j cj) j (i64s (conK j)))
        obtain ⟨i0, hi, hz0, hz1, hz2⟩ := unhide HI0
        clear hG hR hP hB
        go_wp2_with (first
          | (at_builtin; refine wpList_append_one rfl (.tmp 21) (.tmp 23) 24 rfl (g + 1) 3 i0 (.int .i64 0) 8 Tryd.underlying24 hi hz0 hz1 hz2 rfl wr wr _ j (i64s (conK j)) rfl hO (.int .i64 ((j : Int) + 1)) rfl rfl rfl (by omega) (by unfold maxLen; omega) (Below.refl _ _) hltg ?_; intro v' w' hO' hb' hg'; obtain ⟨A', c', rfl, hO2⟩ := con_own hO'; have r1' := ((unhide HF).1.below hb' (Nat.lt_succ_self g)).cell 1; have f1' := ((unhide HF).1.below hb' (Nat.lt_succ_self g)).frozen 1; simp only [List.getElem?_toArray, List.getElem?_cons_zero, List.getElem?_cons_succ] at r1'; clear hO' hO))
        obtain ⟨hG, hR, hP, hB, hO⟩ := unhide HF
        have hG' := (hG.below hb' (Nat.lt_succ_self g)).put 1 (.slice A' (j + 1) c')
        have hO3 := own_past hO2 (p := ⟨g, 1, none⟩) (Nat.lt_succ_self g) (.slice A' (j + 1) c')
        have hR' := (hR.below hb' (show w.heap.size < g + 1 by omega)).far (p := ⟨g, 1, none⟩) (by simp; omega) (.slice A' (j + 1) c')
        have hP' := (hP.kept hg' (apart hU5 (fun k hk => (hO.lt k hk).1) (Nat.le_succ g))).kept (grownBy_setCellA w' ⟨g, 1, none⟩ (.slice A' (j + 1) c')) (away_block hU5)
        have hB' := (hB.trans (hb'.mono (show w.heap.size ≤ g + 1 by omega))).setCell (p := ⟨g, 1, none⟩) (by show w.heap.size ≤ g; omega) (.slice A' (j + 1) c')
        clear hG hR hP hB hO HF
        go_roundw
        case rel => exact ⟨j + 1, A', c', by omega, by go_num, hG', hO3, hR', hP', hB'⟩
        case measure => simp [intOf]; omega
      · have hge : ¬ ((j : Int) + 1 < (n : Int)) := by omega
        have hjn : j = n - 1 := by omega
        have s0 := hR.cell 0
        have s1 := hR.cell 1
        have e0 := hR.frozen 0
        have e1 := hR.frozen 1
        have hltr := hR.lt
        simp only [List.getElem?_toArray, List.getElem?_cons_zero, List.getElem?_cons_succ] at s0 s1
        have hN : NearAt wr (w.heap.size + 1) (.slice A2 n c2) (.slice Aj j cj) q (conK (n - 1)) := ⟨hP, by rw [← hjn]; exact (Ints.of_own hO).low (show w.heap.size + 1 ≤ g + 1 by omega), apart hU5 (fun k hk => (hO.lt k hk).1) (Nat.le_succ g)⟩
        have HN := hide (⟨hR, hN, hB⟩ : Whole wr w.heap.size 26 #[.slice none 0 0, .slice none 0 0] ∧ NearAt wr (w.heap.size + 1) (.slice A2 n c2) (.slice Aj j cj) q (conK (n - 1)) ∧ Below w.heap.size w wr)
        clear hG hR hP hB hO hN hjn hlt
        go_wp2_with fail
        obtain ⟨hR, hN, hB⟩ := unhide HN
        have hWe := (hR.put 0 (.slice A2 n c2)).put 1 (.slice Aj j cj)
        refine bodyPost_ret (v := .tuple #[.agg #[.slice A2 n c2, .slice Aj j cj], .bool true]) (results_near Tryd.results14 _ _ w.heap.size 26 _ (0, 0) _ rfl hWe Tryd.underlying26 rfl nearInfo) rfl ?_
        exact nearB_end true hN (Nat.lt_succ_self _) hB
end Go.Proofs.YtichenjbkclljaaDoor


/-
  spec.l2Same, slices.Equal, spec.IsInvolution, impl.IsInvolution, impl.inverseOf, by their contracts.
-/

namespace Go.Proofs.YtichenjbkclljaaDoor
set_option maxRecDepth 100000
open Go.RowKit

theorem same_ne {p q : List Int} {k : Nat} {x y : Int} (hx : p[k]? = some x) (hy : q[k]? = some y) (h : x ≠ y) : decide (p = q) = false := by
  rw [decide_eq_false_iff_not]
  rintro rfl
  rw [hx] at hy
  exact h (Option.some.inj hy)
theorem same_len {p q : List Int} (h : p.length ≠ q.length) : decide (p = q) = false := by
  rw [decide_eq_false_iff_not]
  rintro rfl
  exact h rfl
theorem same_end {p q : List Int} {n : Nat} (h : p.take n = q.take n) (hp : p.length = n) (hq : q.length = n) : decide (p = q) = true := by
  rw [List.take_of_length_le (by omega), List.take_of_length_le (by omega)] at h
  simp [h]
set_option maxHeartbeats 400000 in
theorem l2same_any (A A' : Option Addr) (n c B n' c' B' : Nat) (p q : List Int) (b : Bool) (hb : decide (p = q) = b) (w : World) (h : Arg w B A n c p) (h' : Arg w B' A' n' c' q) :
    Calls Tryd.prog 55 #[.slice A n c, .slice A' n' c'] w fun e w' => e = .returned (.bool b) ∧ Drew w w' := by
  have hl := h.len
  have hl' := h'.len
  have hn := h.le
  have hn' := h'.le
  have hr := h.reads
  have hr' := h'.reads
  clear h h'
  by_cases he : n = n'
  · subst he
    have HB := hide hb
    have HL := hide hl
    have HL' := hide hl'
    clear hb hl hl'
    go_enter Tryd.func55, Tryd.ntmps55
    go_wp2
    go_loopw [5] (fun i wr => ∃ k : Nat, k ≤ n ∧ i = .int .i64 k ∧ Drew w wr ∧ Hid (p.take k = q.take k)) (fun i _ => n - (intOf i).toNat)
    case atStart => exact ⟨0, Nat.zero_le _, rfl, Drew.refl _, by exact (rfl : p.take 0 = q.take 0)⟩
    case round =>
      obtain ⟨k, hk, rfl, hd, hs⟩ := hrel
      by_cases hlt : k < n
      · obtain ⟨ad, u, rfl, _, hu, hc⟩ := (hr.ofDrew hd).at_ hlt
        obtain ⟨ad', u', rfl, _, hu', hc'⟩ := (hr'.ofDrew hd).at_ hlt
        obtain ⟨x, hx, rfl⟩ := i64_at hu
        obtain ⟨y, hy, rfl⟩ := i64_at hu'
        have HD := hide hd
        clear hu hu' hr hr' hd
        by_cases hxy : x = y
        · subst hxy
          have hnext := hide (take_same_step (unhide hs) hx hy)
          clear hx hy hs
          go_wp2
          go_quiet (fail)
          go_wp2
          go_roundw
          case rel => exact ⟨k + 1, by omega, by go_num, (unhide HD).more _, hnext⟩
          case measure => simp [intOf]; omega
        · obtain rfl : b = false := (unhide HB).symm.trans (same_ne hx hy hxy)
          have hne : (x == y) = false := by simpa using hxy
          clear hx hy hs HB hxy
          go_wp2
          go_quiet (fail)
          go_wp2
          go_ret
          exact ⟨rfl, (unhide HD).more _⟩
      · obtain rfl : n = k := by omega
        obtain rfl : b = true := (unhide HB).symm.trans (same_end (unhide hs) (unhide HL) (unhide HL'))
        clear HB hs
        go_wp2
        go_ret
        exact ⟨rfl, hd⟩
  · obtain rfl : b = false := hb.symm.trans (same_len (by omega))
    have hne : ((n : Int) == (n' : Int)) = false := by simp; omega
    clear hb hl hl' hr hr'
    go_enter Tryd.func55, Tryd.ntmps55
    go_wp2
    go_ret
    exact ⟨rfl, Drew.refl _⟩
set_option maxHeartbeats 400000 in
theorem eqsl_any (A A' : Option Addr) (n c B n' c' B' : Nat) (p q : List Int) (b : Bool) (hb : decide (p = q) = b) (w : World) (h : Arg w B A n c p) (h' : Arg w B' A' n' c' q) :
    Calls Tryd.prog 62 #[.slice A n c, .slice A' n' c'] w fun e w' => e = .returned (.bool b) ∧ Drew w w' := by
  have hl := h.len
  have hl' := h'.len
  have hn := h.le
  have hn' := h'.le
  have hr := h.reads
  have hr' := h'.reads
  clear h h'
  by_cases he : n = n'
  · subst he
    have HB := hide hb
    have HL := hide hl
    have HL' := hide hl'
    clear hb hl hl'
    go_enter Tryd.func62, Tryd.ntmps62
    go_wp2
    go_loopw [5, 13] (fun _ i wr => ∃ k : Nat, k ≤ n ∧ i = .int .i64 k ∧ Drew w wr ∧ Hid (p.take k = q.take k)) (fun _ i _ => n - (intOf i).toNat)
    case atStart => exact ⟨0, Nat.zero_le _, rfl, Drew.refl _, by exact (rfl : p.take 0 = q.take 0)⟩
    case round =>
      obtain ⟨k, hk, rfl, hd, hs⟩ := hrel
      by_cases hlt : k < n
      · obtain ⟨ad, u, rfl, _, hu, hc⟩ := (hr.ofDrew hd).at_ hlt
        obtain ⟨ad', u', rfl, _, hu', hc'⟩ := (hr'.ofDrew hd).at_ hlt
        obtain ⟨x, hx, rfl⟩ := i64_at hu
        obtain ⟨y, hy, rfl⟩ := i64_at hu'
        have HD := hide hd
        clear hu hu' hr hr' hd
        by_cases hxy : x = y
        · subst hxy
          have hnext := hide (take_same_step (unhide hs) hx hy)
          clear hx hy hs
          go_wp2
          go_quiet (fail)
          go_wp2
          go_roundw
          case rel => exact ⟨k + 1, by omega, by go_num, (unhide HD).more _, hnext⟩
          case measure => simp [intOf]; omega
        · obtain rfl : b = false := (unhide HB).symm.trans (same_ne hx hy hxy)
          have hne : (x == y) = false := by simpa using hxy
          clear hx hy hs HB hxy
          go_wp2
          go_quiet (fail)
          go_wp2
          go_ret
          exact ⟨rfl, (unhide HD).more _⟩
      · obtain rfl : n = k := by omega
        obtain rfl : b = true := (unhide HB).symm.trans (same_end (unhide hs) (unhide HL) (unhide HL'))
        clear HB hs
        go_wp2
        go_ret
        exact ⟨rfl, hd⟩
  · obtain rfl : b = false := hb.symm.trans (same_len (by omega))
    have hne : ((n : Int) == (n' : Int)) = false := by simp; omega
    clear hb hl hl' hr hr'
    go_enter Tryd.func62, Tryd.ntmps62
    go_wp2
    go_ret
    exact ⟨rfl, Drew.refl _⟩
theorem isP_small {p : List Int} (h : isP p = true) : Small p := fun z hz => by
  have h1 := (isP_true.1 h).2.1 z hz
  have h2 := isP_le h
  omega
theorem Ints.argP {w : World} {B n c : Nat} {A : Option Addr} {zs : List Int} (h : Ints w B (.slice A n c) zs) (hp : isP zs = true) : Arg w w.heap.size A n c zs :=
  h.arg (by have := isP_le hp; have := h.len; omega) h.cap (isP_small hp)
end Go.Proofs.YtichenjbkclljaaDoor


/-
  spec.PatternOf and impl.PatternOf, by their contracts.
-/

namespace Go.Proofs.YtichenjbkclljaaDoor
set_option maxRecDepth 100000
open Go.RowKit

theorem bit_true (w : World) : Calls Tryd.prog 47 #[.bool true] w fun e w' => e = .returned (.int .i64 1) ∧ w' = w := by
  go_enter Tryd.func47, Tryd.ntmps47
  go_wp2
  go_ret
  exact ⟨rfl, rfl⟩
theorem bit_false (w : World) : Calls Tryd.prog 47 #[.bool false] w fun e w' => e = .returned (.int .i64 0) ∧ w' = w := by
  go_enter Tryd.func47, Tryd.ntmps47
  go_wp2
  go_ret
  exact ⟨rfl, rfl⟩
theorem cnt_at {zs : List Int} {k : Nat} {x v : Int} (h : zs[k]? = some x) : cnt (zs.take (k + 1)) v = cnt (zs.take k) v + if x < v then 1 else 0 := by rw [take_snoc_i h, cnt_snoc]

set_option maxHeartbeats 400000 in
theorem less_any (A : Option Addr) (n c B : Nat) (zs : List Int) (v : Int) (w : World) (h : Arg w B A n c zs) :
    Calls Tryd.prog 80 #[.slice A n c, .int .i64 v] w fun e w' => e = .returned (.int .i64 (cnt zs v : Int)) ∧ w = w' := by
  have hl := h.len
  have hn := h.le
  have hr := h.reads
  have HL := hide hl
  clear h hl
  go_enter Tryd.func80, Tryd.ntmps80
  go_wp2
  go_loop [5, 7, 10] (fun m _ i => ∃ k : Nat, k ≤ n ∧ i = .int .i64 k ∧ m = .int .i64 (cnt (zs.take k) v : Int)) (fun _ _ i => n - (intOf i).toNat)
  case atStart => exact ⟨0, Nat.zero_le _, rfl, rfl⟩
  case round =>
    obtain ⟨k, hk, rfl, rfl⟩ := hrel
    have hle := cnt_le (zs.take k) v
    have hle2 : cnt (zs.take k) v ≤ 1048576 := by have := List.length_take_le k zs; omega
    clear hle
    by_cases hlt : k < n
    · obtain ⟨ad, u, rfl, _, hu, hc⟩ := hr.at_ hlt
      obtain ⟨x, hx, rfl⟩ := i64_at hu
      have hstep := hide (cnt_at (v := v) hx)
      clear hu hx hr
      by_cases hxv : x < v
      · go_wp2
        go_round
        case rel => exact ⟨k + 1, by omega, by go_num, by rw [unhide hstep, if_pos hxv]; go_num⟩
        case measure => simp [intOf]; omega
      · go_wp2
        go_round
        case rel => exact ⟨k + 1, by omega, by go_num, by rw [unhide hstep, if_neg hxv]; rfl⟩
        case measure => simp [intOf]; omega
    · obtain rfl : n = k := by omega
      have e : zs.take n = zs := List.take_of_length_le (by rw [unhide HL]; exact Nat.le_refl _)
      rw [e] at hle2 ⊢
      clear e
      go_wp2
      go_ret
      exact ⟨rfl, rfl⟩

set_option maxHeartbeats 800000 in
theorem l2pat_any (A : Option Addr) (n c B : Nat) (zs : List Int) (w : World) (h : Arg w B A n c zs) (hn8 : n ≤ 8) :
    Calls Tryd.prog 56 #[.slice A n c] w (GivesI w (patL zs)) := by
  obtain ⟨i0, hi, hz0, hz1, hz2⟩ := info_parts intInfo
  have hl := h.len
  have hr := h.reads
  have hB := h.under
  have HL := hide hl
  have hst := own0 w w.heap.size (Nat.le_refl _)
  have hbel := (Below.refl w.heap.size w).alloc (Nat.le_refl _) (.cells #[] 3)
  clear h hl
  go_enter Tryd.func56, Tryd.ntmps56
  go_wp2
  go_loopw [3, 4, 5, 6] (fun o i _ _ wr => ∃ k : Nat, k ≤ n ∧ i = .int .i64 k ∧ Below w.heap.size w wr ∧ wr.ownsRow w.heap.size 3 1 o k (i64s ((patL zs).take k))) (fun _ i _ _ _ => n - (intOf i).toNat)
  case atStart => exact ⟨0, Nat.zero_le _, rfl, hbel, hst⟩
  case round =>
    obtain ⟨k, hk, rfl, hbw, hown⟩ := hrel
    clear hst hbel
    by_cases hlt : k < n
    · obtain ⟨ad, u, rfl, _, hu, hc⟩ := ((hr.more hB).below hbw).at_ hlt
      obtain ⟨v, hv, rfl⟩ := i64_at hu
      have HV := hide hv
      clear hu hv
      obtain ⟨wo, rfl⟩ : ∃ wo : World, wo = wr := ⟨_, rfl⟩
      go_wp2
      go_loopw [5, 6] (fun m i wi => ∃ j : Nat, j ≤ n ∧ i = .int .i64 j ∧ m = .int .i64 (1 + (cnt (zs.take j) v : Int)) ∧ Drew wo wi) (fun _ i _ => n - (intOf i).toNat)
      case atStart => exact ⟨0, Nat.zero_le _, rfl, rfl, Drew.refl _⟩
      case round =>
        obtain ⟨j, hj, rfl, rfl, hd⟩ := hrel
        have hle := cnt_le (zs.take j) v
        have hle2 : cnt (zs.take j) v ≤ 8 := by have := List.length_take_le j zs; omega
        clear hle
        by_cases hjt : j < n
        · obtain ⟨ad', u', he', _, hu', hc'⟩ := (((hr.more hB).below hbw).ofDrew hd).at_ hjt
          obtain rfl : ad = ad' := Option.some.inj he'
          clear he'
          obtain ⟨x, hx, rfl⟩ := i64_at hu'
          have hstep := hide (cnt_at (v := v) hx)
          have hcv := (hd.cell _).trans hc
          have HD := hide hd
          have HR := hide hr
          have HO := hide hown
          have HBW := hide hbw
          clear hu' hx hd hr hown hbw hc
          obtain ⟨m, hm⟩ : ∃ m, m = cnt (zs.take j) v := ⟨_, rfl⟩
          rw [← hm] at hle2 hstep ⊢
          clear hm
          have w1 : IntKind.i64.wrap (1 + (m : Int) + 1) = 1 + (m : Int) + 1 := IntWalk.i64_in _ (by omega)
          have w0 : IntKind.i64.wrap (1 + (m : Int)) = 1 + (m : Int) := IntWalk.i64_in _ (by omega)
          by_cases hxv : x < v
          · go_wp2
            go_quiet ((go_at_call 47; exact Calls.quiet_of_same (bit_true _)))
            clear w1 w0
            go_wp2
            go_roundw
            case rel => exact ⟨j + 1, by omega, by go_num, by rw [unhide hstep, if_pos hxv]; go_num, (unhide HD).more _⟩
            case measure => simp [intOf]; omega
          · have hdf : decide (x < v) = false := by simpa using hxv
            go_wp2
            go_quiet ((go_at_call 47; exact Calls.quiet_of_same (bit_false _)))
            clear w1 w0
            go_wp2
            go_roundw
            case rel => exact ⟨j + 1, by omega, by go_num, by rw [unhide hstep, if_neg (by omega)]; rfl, (unhide HD).more _⟩
            case measure => simp [intOf]; omega
        · obtain rfl : n = j := by omega
          have e : zs.take n = zs := List.take_of_length_le (by rw [unhide HL]; exact Nat.le_refl _)
          rw [e] at hle2 ⊢
          clear e
          have hownA := own_below hown (hd.below _)
          have hbwA := hbw.trans (hd.below _)
          have e2 : i64s ((patL zs).take k) ++ [.int .i64 (1 + (cnt zs v : Int))] = i64s ((patL zs).take (k + 1)) := by rw [patL_take (unhide HV)]; unfold i64s; simp
          have HE := hide e2
          clear e2 hd hown hbw hc
          go_wp2_with (first
            | (at_builtin; refine wpList_append_one rfl (.tmp 32) (.tmp 34) 24 rfl w.heap.size 3 i0 (.int .i64 0) 8 Tryd.underlying24 hi hz0 hz1 hz2 rfl w _ _ _ _ rfl hownA (.int .i64 (1 + (cnt zs v : Int))) rfl rfl rfl (by omega) (by simp only [maxLen]; omega) hbwA hbwA.size ?_; intro v2 w2 hown2 hb2 hg2; clear hg2))
          rw [unhide HE] at hown2
          clear hownA hbwA HE
          go_roundw
          case rel => exact ⟨k + 1, by omega, by go_num, hb2, hown2⟩
          case measure => simp [intOf]; omega
    · obtain rfl : n = k := by omega
      have e : (patL zs).take n = patL zs := List.take_of_length_le (by rw [patL_length, unhide HL]; exact Nat.le_refl _)
      rw [e] at hown
      have hI : Ints wr w.heap.size u3 (patL zs) := Ints.of_own hown
      clear hown e
      go_wp2
      go_ret
      exact GivesI.mk hI hbw

set_option maxHeartbeats 800000 in
theorem ipat_any (A : Option Addr) (n c B : Nat) (zs : List Int) (b : Bool) (hb : patOK zs = b) (w : World) (h : Arg w B A n c zs) :
    Calls Tryd.prog 73 #[.slice A n c] w (GivesIB w (patR zs) b) := by
  obtain ⟨i0, hi, hz0, hz1, hz2⟩ := info_parts intInfo
  have hl := h.len
  have hr := h.reads
  have hB := h.under
  by_cases h8 : n ≤ 8
  · have h8' : ¬ 8 < n := by omega
    have h8b : decide ((8 : Int) < (n : Int)) = false := by simp; omega
    have H2 := hide (fun v w' (hb' : Below w.heap.size w w') => less_any A n c B zs v w' (h.below hb'))
    have HL := hide hl
    have HB := hide hb
    have HC := hide (fun v => cnt_le zs v)
    clear h hl hb
    go_enter Tryd.func73, Tryd.ntmps73
    go_wp2_with (first
      | (at_make; refine wpList_make_full _ rfl (.tmp 11) (.tmp 11) 24 rfl w.heap.size 3 i0 (.int .i64 0) 1 Tryd.underlying24 hi hz0 hz1 _ _ _ _ n rfl rfl (by first | rfl | omega) (by first | rfl | omega) (by rw [hz2]; omega) (by unfold maxLen; omega) (Nat.le_refl _) ?_; intro w1 hown hg))
    have hb1 := (Below.refl w.heap.size w).grown hg (Nat.le_refl _) (by simp)
    clear hg
    go_loopw [5, 6, 15] (fun _ _ i wr => ∃ (k : Nat) (xs : List Value), k ≤ n ∧ i = .int .i64 k ∧ Below w.heap.size w wr ∧ wr.ownsRow w.heap.size 3 1 (.slice (some ⟨w.heap.size, 0, none⟩) n n) n xs ∧ Hid (xs.take k = (i64s (patL zs)).take k)) (fun _ _ i _ => n - (intOf i).toNat)
    case atStart => exact ⟨0, _, Nat.zero_le _, rfl, hb1, hown, by exact rfl⟩
    case round =>
      obtain ⟨k, xs, hk, rfl, hb, hown', hx⟩ := hrel
      clear hown hb1
      have hlx : xs.length = n := by simpa using hown'.1
      by_cases hlt : k < n
      · obtain ⟨ad, u, rfl, had, hu, hc⟩ := ((hr.more hB).below hb).at_ hlt
        obtain ⟨z, hz, rfl⟩ := i64_at hu
        obtain ⟨old, hold⟩ : ∃ old, wr.cell? ⟨w.heap.size, k, none⟩ = some old := ⟨_, by rw [hown'.cellAt k (by omega)]; exact List.getElem?_eq_getElem (by omega)⟩
        have hfz := hown'.frozenAt k
        have hle : cnt zs z ≤ 8 := by have := unhide HC z; rw [unhide HL] at this; omega
        have hst := hide (take_set_i (unhide hx) (i64_get (patL_at hz)) (by omega))
        have ho2 := (hown'.stored k (.int .i64 (1 + (cnt zs z : Int)))).1
        have hb2 := below_set_i hb hown' k (.int .i64 (1 + (cnt zs z : Int)))
        have H3 := hide (unhide H2 z wr hb)
        clear hx hlx hu hz hown' hb H2
        go_wp2_with fail
        refine (unhide H3).mono ?_
        rintro e w' ⟨rfl, rfl⟩
        clear H3
        go_wp2
        go_roundw
        case rel => exact ⟨k + 1, _, by omega, by go_num, hb2, ho2, hst⟩
        case measure => simp [intOf]; omega
      · obtain rfl : n = k := by omega
        have : xs = i64s (patL zs) := by
          have h := unhide hx
          rwa [List.take_of_length_le (by omega), List.take_of_length_le (by rw [i64_length, patL_length, unhide HL]; exact Nat.le_refl _)] at h
        subst this
        have hI : Ints wr w.heap.size (.slice (some ⟨w.heap.size, 0, none⟩) n n) (patL zs) := Ints.of_own hown'
        have hsm : Small (patL zs) := fun x hx => by
          have := patL_range x hx
          rw [unhide HL] at this
          omega
        have H4 := hide (iisperm_any _ n n _ (patL zs) b ((isP_pat zs).trans (unhide HB)) wr hI.reads (Nat.le_refl _) (by omega) hsm)
        clear hx hlx hown' H2 hsm
        cases b with
        | true =>
          have HR := hide (patR_yes (unhide HB))
          go_wp2_with fail
          refine (unhide H4).mono ?_
          rintro e w2 ⟨rfl, hb2⟩
          have hI2 := hI.below hb2
          rw [← unhide HR] at hI2
          clear H4
          go_wp2
          go_ret2
          exact GivesIB.mk true hI2 (below_after hb hb2)
        | false =>
          have HR := hide (patR_no (unhide HB))
          go_wp2_with fail
          refine (unhide H4).mono ?_
          rintro e w2 ⟨rfl, hb2⟩
          clear H4
          go_wp2
          go_ret2
          exact GivesIB.mk (v := .slice none 0 0) false (by rw [unhide HR]; exact Ints.nil _ _) (below_after hb hb2)
  · have hno := patOK_no8 (l := zs) (by omega)
    obtain rfl : b = false := hb.symm.trans hno
    rw [patR_no hno]
    have hn := h.le
    have h8' : 8 < n := by omega
    have h8b : decide ((8 : Int) < (n : Int)) = true := by simp; omega
    clear hb hno h hl hr
    go_enter Tryd.func73, Tryd.ntmps73
    go_wp2
    go_ret2
    exact GivesIB.mk (v := .slice none 0 0) false (Ints.nil _ _) (Below.refl _ _)
end Go.Proofs.YtichenjbkclljaaDoor


/-
  spec.l4Fit, spec.l4Join, spec.SumOf, spec.SkewSumOf, by their contracts.
-/

namespace Go.Proofs.YtichenjbkclljaaDoor
set_option maxRecDepth 100000
open Go.RowKit

def bitI (b : Bool) : Int := if b then 1 else 0
theorem bit_any (b : Bool) (w : World) : Calls Tryd.prog 47 #[.bool b] w fun e w' => e = .returned (.int .i64 (bitI b)) ∧ w' = w := by
  cases b with
  | true => exact bit_true w
  | false => exact bit_false w
theorem joinL_at1 {s : Bool} {p q : List Int} {k : Nat} {z : Int} (h : p[k]? = some z) : (joinL s p q)[k]? = some (z + bitI s * (q.length : Int)) := by
  have hk : k < p.length := (List.getElem?_eq_some_iff.1 h).1
  cases s with
  | true =>
    simp only [joinL, if_true, bitI]
    rw [List.getElem?_append_left (by simpa using hk), List.getElem?_map, h, Int.one_mul]; rfl
  | false =>
    simp only [joinL, bitI, Bool.false_eq_true, if_false]
    rw [List.getElem?_append_left hk, h, Int.zero_mul, Int.add_zero]
theorem joinL_at2 {s : Bool} {p q : List Int} {k : Nat} {z : Int} (h : q[k]? = some z) : (joinL s p q)[p.length + k]? = some (z + bitI (!s) * (p.length : Int)) := by
  cases s with
  | true =>
    simp only [joinL, if_true, bitI, Bool.not_true, Bool.false_eq_true, if_false]
    rw [List.getElem?_append_right (by simp), List.length_map, Nat.add_sub_cancel_left, h, Int.zero_mul, Int.add_zero]
  | false =>
    simp only [joinL, bitI, Bool.not_false, if_true, Bool.false_eq_true, if_false]
    rw [List.getElem?_append_right (by omega), Nat.add_sub_cancel_left, List.getElem?_map, h, Int.one_mul]; rfl
theorem bit_le (s : Bool) (n : Nat) : 0 ≤ bitI s * (n : Int) ∧ bitI s * (n : Int) ≤ n := by
  cases s
  · simp [bitI]
  · simp [bitI]

theorem keep_low {B : Nat} {wr w : World} {p : Addr} {v : Value} (h : wr.cell? p = some v) (hp : p.block < B) (hb : Below B wr w) : w.cell? p = some v ∧ Below B wr w := ⟨(hb.cell hp).trans h, hb⟩
end Go.Proofs.YtichenjbkclljaaDoor


/-
  spec.l2Before, spec.l2Same; cmp.Compare, slices.Compare, cmp.Or, slices.Equal and impl.comparePerms, by their contracts.
-/

namespace Go.Proofs.YtichenjbkclljaaDoor
set_option maxRecDepth 100000
open Go.RowKit

/-! plain -/
/-- slices.Compare's answer. -/
def lexV : List Int → List Int → Int
  | [], [] => 0
  | [], _ :: _ => -1
  | _ :: _, [] => 1
  | x :: xs, y :: ys => if x = y then lexV xs ys else if x < y then -1 else 1
theorem lexV_at : ∀ {p q : List Int} {k : Nat} {x y : Int}, p.take k = q.take k → p[k]? = some x → q[k]? = some y → x ≠ y → lexV p q = if x < y then -1 else 1
  | a :: p, b :: q, 0, x, y, _, hx, hy, hne => by
    simp at hx hy
    subst hx; subst hy
    rw [lexV, if_neg hne]
  | a :: p, b :: q, k + 1, x, y, h, hx, hy, hne => by
    simp at h
    obtain ⟨rfl, h⟩ := h
    rw [lexV, if_pos rfl]
    exact lexV_at h (by simpa using hx) (by simpa using hy) hne
  | [], _, k, _, _, _, hx, _, _ => by simp at hx
  | _ :: _, [], k, _, _, _, _, hy, _ => by simp at hy
theorem lexV_end : ∀ {p q : List Int} {k : Nat}, p.take k = q.take k → (k = p.length ∨ k = q.length) → k ≤ p.length → k ≤ q.length → lexV p q = if p.length < q.length then -1 else if q.length < p.length then 1 else 0
  | [], [], _, _, _, _, _ => by simp [lexV]
  | [], y :: q, _, _, _, _, _ => by simp [lexV]
  | x :: p, [], _, _, _, _, _ => by simp [lexV]
  | x :: p, y :: q, 0, _, h, _, _ => by simp at h
  | x :: p, y :: q, k + 1, h, hk, h1, h2 => by
    simp at h
    obtain ⟨rfl, h⟩ := h
    rw [lexV, if_pos rfl, lexV_end h (by simpa using hk) (by simpa using h1) (by simpa using h2)]
    simp
theorem lexV_lexL : ∀ {p q : List Int}, p.length = q.length → decide (lexV p q < 0) = lexL p q
  | [], [], _ => rfl
  | [], _ :: _, h => by simp at h
  | _ :: _, [], h => by simp at h
  | x :: p, y :: q, h => by
    rw [lexV, lexL]
    by_cases e : x = y
    · rw [if_pos e, if_pos e]
      exact lexV_lexL (by simpa using h)
    · rw [if_neg e, if_neg e]
      by_cases hl : x < y <;> simp [hl]
theorem lexV_small : ∀ (p q : List Int), -1 ≤ lexV p q ∧ lexV p q ≤ 1
  | [], [] => by simp [lexV]
  | [], _ :: _ => by simp [lexV]
  | _ :: _, [] => by simp [lexV]
  | x :: p, y :: q => by
    rw [lexV]
    split
    · exact lexV_small p q
    · split <;> omega
def cmpI (x y : Int) : Int := if x < y then -1 else if y < x then 1 else 0
/-- impl.comparePerms's answer. -/
def cmpV (p q : List Int) : Int := if cmpI p.length q.length = 0 then lexV p q else cmpI p.length q.length
theorem cmpV_befL (p q : List Int) : decide (cmpV p q < 0) = befL p q := by
  unfold cmpV cmpI befL
  by_cases h1 : (p.length : Int) < q.length
  · rw [if_pos h1, if_neg (by omega), if_neg (by omega)]
    simp; omega
  · rw [if_neg h1]
    by_cases h2 : (q.length : Int) < p.length
    · rw [if_pos h2, if_neg (by omega), if_neg (by omega)]
      simp; omega
    · rw [if_neg h2, if_pos rfl, if_pos (by omega)]
      exact lexV_lexL (by omega)
theorem cmpV_small (p q : List Int) : -1 ≤ cmpV p q ∧ cmpV p q ≤ 1 := by
  have h := lexV_small p q
  have h2 : -1 ≤ cmpI p.length q.length ∧ cmpI p.length q.length ≤ 1 := by
    unfold cmpI
    split
    · omega
    · split <;> omega
  unfold cmpV
  split
  · exact h
  · exact h2

theorem below_sgrow (w : World) (k : Nat) (os : Array Obj) : Below w.heap.size w (Sort.grow (w.drewN k) os) :=
  ⟨rfl, rfl, rfl, by unfold Sort.grow; simp [World.drewN], fun i hi => by unfold Sort.grow; exact Array.getElem?_append_left hi⟩

/-! contracts -/
end Go.Proofs.YtichenjbkclljaaDoor


/-
  spec.l3Put, by its contract.
-/

namespace Go.Proofs.YtichenjbkclljaaDoor
set_option maxRecDepth 100000
open Go.RowKit

theorem Inner.put {w : World} {B s : Nat} {vs : List Value} {zss : List (List Int)} {u : Value} {z : List Int} (h : Inner w B vs zss) (hs : s ≤ zss.length) (hu : Ints w B u z) (ha : ∀ x ∈ vs, Away x u) : Inner w B (vs.take s ++ [u] ++ vs.drop s) (zss.take s ++ [z] ++ zss.drop s) := by
  have hl := h.len
  refine ⟨by simp; omega, fun i x ys hx hy => ?_, ?_⟩
  · by_cases h1 : i < s
    · rw [List.append_assoc, List.getElem?_append_left (by rw [List.length_take]; omega), List.getElem?_take_of_lt h1] at hx hy
      exact h.row i x ys hx hy
    · by_cases h2 : i = s
      · subst h2
        rw [List.append_assoc, List.getElem?_append_right (by rw [List.length_take]; omega), List.length_take, Nat.min_eq_left (by omega)] at hx hy
        simp at hx hy
        subst hx; subst hy
        exact hu
      · rw [List.getElem?_append_right (by simp; omega)] at hx hy
        simp only [List.length_append, List.length_take, List.length_singleton] at hx hy
        rw [List.getElem?_drop] at hx hy
        rw [Nat.min_eq_left (by omega)] at hx hy
        exact h.row _ x ys hx hy
  · have ht := h.away
    rw [← List.take_append_drop s vs, List.pairwise_append] at ht
    obtain ⟨h1, h2, h3⟩ := ht
    rw [List.append_assoc, List.pairwise_append]
    refine ⟨h1, ?_, fun a ha' b hb => ?_⟩
    · rw [List.singleton_append, List.pairwise_cons]
      exact ⟨fun b hb => (ha b (List.mem_of_mem_drop hb)).symm, h2⟩
    · rw [List.singleton_append, List.mem_cons] at hb
      rcases hb with rfl | hb
      · exact ha a (List.mem_of_mem_take ha')
      · exact h3 a ha' b hb
theorem own_news {w : World} {B n : Nat} {v : Value} {vs : List Value} {zss : List (List Int)} (_h : w.ownsRow B 24 1 v n vs) (hin : Inner w B vs zss) : ∀ u ∈ vs, u.oneCell' = true := fun u hu => by
  obtain ⟨zs, hz⟩ := hin.mem hu
  obtain ⟨A, c, rfl⟩ := hz.slice
  rfl

/-- A list of rows that lies at a block's head. -/
def PutS (w : World) (B : Nat) (v : Value) (zss : List (List Int)) : Prop := IntsS w B v zss ∧ ∃ g cap, v = .slice (some ⟨g, 0, none⟩) zss.length cap
def PutEnds (w : World) (B : Nat) (zss : List (List Int)) (e : Ending) (w' : World) : Prop := ∃ v', e = .returned v' ∧ PutS w' B v' zss ∧ Below B w w' ∧ KeepI w w'

theorem Arg.drew {w : World} {B n c : Nat} {A : Option Addr} {zs : List Int} (h : Arg w B A n c zs) : Arg w.drew B A n c zs := ⟨h.reads.drew, h.under, h.le, h.cap, h.small, h.nil⟩
theorem own_shape {w : World} {B n : Nat} {e : TypeId} {v : Value} {xs : List Value} (h : w.ownsRow B e 1 v n xs) (hv : v ≠ .slice none 0 0) : ∃ g cap, v = .slice (some ⟨g, 0, none⟩) n cap ∧ B ≤ g ∧ n ≤ cap := by
  rcases h.2 with ⟨h0, _⟩ | ⟨g, cap, cur, h1, h2, _, h3, _⟩
  · exact absurd h0 hv
  · exact ⟨g, cap, h1, h2, h3⟩

end Go.Proofs.YtichenjbkclljaaDoor


/-
  spec.l3Reverse, spec.l3Complement, spec.ReversePerm, spec.ComplementPerm; slices.Clone, impl.ComplementPerm, by their contracts.
-/

namespace Go.Proofs.YtichenjbkclljaaDoor
set_option maxRecDepth 100000
open Go.RowKit

theorem rev_step {zs : List Int} {k : Nat} {z : Int} (h : zs[k]? = some z) : (zs.drop k).reverse = (zs.drop (k + 1)).reverse ++ [z] := by
  have hk : k < zs.length := (List.getElem?_eq_some_iff.1 h).1
  rw [List.drop_eq_getElem_cons hk, List.reverse_cons]
  rw [List.getElem?_eq_getElem hk] at h
  rw [Option.some.inj h]
theorem i64_snoc (xs : List Int) (z : Int) : i64s xs ++ [Value.int .i64 z] = i64s (xs ++ [z]) := by unfold i64s; simp
set_option maxHeartbeats 400000 in
theorem l3rev_any (A : Option Addr) (n c B : Nat) (zs : List Int) (w : World) (h : Arg w B A n c zs) :
    Calls Tryd.prog 39 #[.slice A n c] w (GivesI w zs.reverse) := by
  obtain ⟨i0, hi, hz0, hz1, hz2⟩ := info_parts intInfo
  have hl := h.len
  have hr := h.reads
  have hB := h.under
  have hn := h.le
  have HL := hide hl
  have hst := own0 w w.heap.size (Nat.le_refl _)
  have hbel := (Below.refl w.heap.size w).alloc (Nat.le_refl _) (.cells #[] 3)
  clear h hl
  go_enter Tryd.func39, Tryd.ntmps39
  go_wp2
  go_loopw [3, 4] (fun v i wr => ∃ k : Nat, k ≤ n ∧ i = .int .i64 ((k : Int) - 1) ∧ Below w.heap.size w wr ∧ wr.ownsRow w.heap.size 3 1 v (n - k) (i64s (zs.drop k).reverse)) (fun _ i _ => (intOf i + 1).toNat)
  case atStart =>
    refine ⟨n, Nat.le_refl _, rfl, hbel, ?_⟩
    rw [Nat.sub_self, List.drop_of_length_le (by rw [unhide HL]; exact Nat.le_refl _)]
    exact hst
  case round =>
    obtain ⟨k, hk, rfl, hbw, hown⟩ := hrel
    clear hst hbel
    cases k with
    | succ k =>
      obtain ⟨ad, u, rfl, had, hu, hc⟩ := ((hr.more hB).below hbw).at_ (show k < n by omega)
      obtain ⟨z, hz, rfl⟩ := i64_at hu
      have hstep := hide (rev_step hz)
      have hi1 : (((k + 1 : Nat) : Int) - 1) = (k : Int) := by omega
      have hnk : n - (k + 1) + 1 = n - k := by omega
      rw [hi1]
      clear hu hz hi1
      go_wp2_with (first
        | (at_builtin; refine wpList_append_one rfl (.tmp 13) (.tmp 18) 24 rfl w.heap.size 3 i0 (.int .i64 0) 8 Tryd.underlying24 hi hz0 hz1 hz2 rfl w wr _ _ _ rfl hown (.int .i64 z) rfl rfl rfl (by omega) (by simp only [maxLen]; omega) hbw hbw.size ?_; intro v2 w2 hown2 hb2 hg2; clear hg2))
      rw [i64_snoc, ← unhide hstep, hnk] at hown2
      clear hown hbw hstep
      go_roundw
      case rel => exact ⟨k, by omega, by go_num, hb2, hown2⟩
      case measure => simp [intOf]
    | zero =>
      have hI : Ints wr w.heap.size u3 zs.reverse := by
        have h := hown
        rw [Nat.sub_zero, List.drop_zero, ← unhide HL] at h
        rw [← List.length_reverse] at h
        exact Ints.of_own h
      clear hown
      go_wp2
      go_ret
      exact GivesI.mk hI hbw
set_option maxHeartbeats 400000 in
theorem clone_any (A : Option Addr) (n c B : Nat) (zs : List Int) (w : World) (h : Arg w B A n c zs) :
    Calls Tryd.prog 43 #[.slice A n c] w (GivesI w zs) := by
  obtain ⟨i0, hi, hz0, hz1, hz2⟩ := info_parts intInfo
  have hl := h.len
  have hn := h.le
  have hr := h.reads
  have q22 : ∀ (w : World) (a : Option Addr) (n c n' c' : Nat), (binOp .eql 24 (.slice a n c) (.slice none n' c')).run Tryd.prog w = .ok (.bool a.isNone) w := fun w a n c n' c' => Lib.run_eql_slice_nil w _ _ a n c n' c' Tryd.underlying24
  cases A with
  | none =>
    obtain rfl : n = 0 := by
      by_cases h0 : 0 < n
      · obtain ⟨ad, he, _⟩ := hr.2 h0
        cases he
      · omega
    obtain rfl := List.eq_nil_of_length_eq_zero hl
    clear h hr hl
    go_enter Tryd.func43, Tryd.ntmps43
    go_wp2
    go_ret
    exact GivesI.mk (Ints.nil _ _) (Below.refl _ _)
  | some ad =>
    have hcl : ∀ j u, (i64s zs)[j]? = some u → w.cell? (ad.add j) = some u := fun j u hu => by
      have hj : j < n := by have := (List.getElem?_eq_some_iff.1 hu).1; rw [i64_length, hl] at this; exact this
      obtain ⟨ad', he, _, hc⟩ := hr.2 (by omega)
      injection he with he
      subst he
      exact hc j u hu
    have hbl : 0 < n → ad.block < w.heap.size := fun h0 => by
      obtain ⟨ad', he, hb', _⟩ := hr.2 h0
      injection he with he
      subst he
      exact Nat.lt_of_lt_of_le hb' h.under
    have hcl2 : ∀ j u, (i64s zs)[j]? = some u → (w.alloc (.cells #[] 3)).cell? (ad.add j) = some u := fun j u hu => by
      have hj : j < n := by have := (List.getElem?_eq_some_iff.1 hu).1; rw [i64_length, hl] at this; exact this
      rw [World.cell?_alloc_lt]
      · exact hcl j u hu
      · rw [block_of_add]; exact hbl (by omega)
    have hone : ∀ u ∈ i64s zs, u.oneCell' = true := fun u hu => by
      unfold i64s at hu
      obtain ⟨z, _, rfl⟩ := List.mem_map.1 hu
      rfl
    have hln : (i64s zs).length = n * 1 := by rw [i64_length, hl]; omega
    have HCL := hide hcl2
    have HONE := hide hone
    have HLN := hide hln
    have HL := hide hl
    have hst := own0 w w.heap.size (Nat.le_refl _)
    have hbel := (Below.refl w.heap.size w).alloc (Nat.le_refl _) (.cells #[] 3)
    clear h hr hl hcl hcl2 hbl hone hln
    go_enter Tryd.func43, Tryd.ntmps43
    go_wp2_with (at_builtin; refine wpList_append_own _ rfl (.tmp 5) (.tmp 6) 24 rfl w.heap.size 3 i0 (.int .i64 0) 1 8 Tryd.underlying24 hi hz0 hz1 hz2 rfl (by decide) _ _ _ rfl hst ad n c (i64s zs) rfl ?_ ?_ ?_ ?_ ?_ ?_ ?_)
    · exact unhide HLN
    · exact unhide HCL
    · exact unhide HONE
    · unfold maxLen; omega
    · omega
    · simp
    intro v1 w1 hown1 hg1 _
    have hb1 : Below w.heap.size w w1 := hbel.grown hg1 (by simp) (fun q hq => by simp [Value.ownBlock] at hq; omega)
    have hI : Ints w1 w.heap.size v1 zs := by
      have h := hown1
      rw [← unhide HL] at h
      exact Ints.of_own h
    clear hg1 hown1
    go_wp2
    go_ret
    exact GivesI.mk hI hb1
theorem srev_any (A : Option Addr) (n c B : Nat) (zs : List Int) (w : World) (h : Arg w B A n c zs) :
    Calls Tryd.prog 23 #[.slice A n c] w (GivesI w (revR zs)) := by
  obtain ⟨b, hb⟩ : ∃ b, isP zs = b := ⟨_, rfl⟩
  have H1 := hide (sisperm_any A n c B zs b hb w h.reads h.le h.cap)
  have H2 := hide (fun w' (hb' : Below w.heap.size w w') => l3rev_any A n c B zs w' (h.below hb'))
  cases b with
  | false =>
    rw [revR_no hb]
    clear hb h H2
    go_enter Tryd.func23, Tryd.ntmps23
    go_wp2_with fail
    refine (unhide H1).mono ?_
    rintro e w1 ⟨rfl, hd⟩
    have hb := hd.below w.heap.size
    clear hd H1
    go_wp2
    go_ret
    exact GivesI.mk (Ints.made0 w1 w.heap.size hb.size) (hb.alloc hb.size _)
  | true =>
    rw [revR_yes hb]
    clear hb h
    go_enter Tryd.func23, Tryd.ntmps23
    go_wp2_with fail
    refine (unhide H1).mono ?_
    rintro e w1 ⟨rfl, hd⟩
    have hb := hd.below w.heap.size
    have H3 := hide (unhide H2 w1 hb)
    clear hd H1 H2
    go_wp2_with fail
    refine (unhide H3).mono ?_
    rintro e w2 ⟨A2, c2, rfl, own2, hb2⟩
    clear H3
    rw [List.length_reverse] at own2
    go_wp2
    go_ret
    exact GivesI.mk (own2.low hb.size) (below_after hb hb2)
end Go.Proofs.YtichenjbkclljaaDoor
