/-
  Words and contracts that the laws lean on, bundled: OpenS, MeshW, MeshV, MeshI, MeshC, Boxs, LowS, PatsS, ChM.
-/
import Derived.Test.YtcoegjhhhnfplaaB5
import Derived.Lib.SmallJoins
import Derived.Test.YtcoegjhhhnfplaaB2
import Derived.Test.YtcoegjhhhnfplaaB1
import Derived.Test.YtcoegjhhhnfplaaB4
import Derived.Test.YtcoegjhhhnfplaaB3
import Derived.Maps.OwnSet
import Derived.Maps.Views
import Derived.DeepKeys4
import Derived.Shelf.SlMaps.Clone
import Derived.Deep.RegionHeld3
import Derived.Laws.BitsLemmas

/-
  A list of rows at one cell opened; the size of a row and a list of rows.
-/

namespace Go.Proofs.Ytcoegjhhhnfplaa
set_option maxRecDepth 100000
open Go.RowKit Go.ChangeShapes Go.WideShapes Go.ChangeAt

/-- A field [][]int, as 'ReadsS'. -/
theorem open_intss_cell {H : Type} {enc : TypeId × Value → H} {P : Program} {w : World} {t e ei : TypeId} {v : Value} {y : DataW H × List MemPlace} {k : Nat} (ht : P.underlying t = some (.slice e)) (he : P.underlying e = some (.slice ei)) (hei : P.underlying ei = some (.int .i64)) (hc : P.cellsOf e = 1) (hci : P.cellsOf ei = 1)
    (hf : DataW.trod enc P w 0 (fun _ => true) true k t [v] = some y) (hlt : ∀ x ∈ y.2, x.block < w.heap.size) :
    ∃ (A : Option Addr) (n c : Nat) (zss : List (List Int)), v = .slice A n c ∧ ReadsS w w.heap.size A n zss ∧ n ≤ maxLen ∧ ∀ z ∈ zss, z.length ≤ maxLen ∧ Small z := by
  rcases DataW.trod_slice ht hf with ⟨hcs, hx⟩ | ⟨a, len', cap', elems, rest, m, _, hcs, hx, _, hl, hm, hlen, hel, _, _⟩
  · injection hcs with hcs
    subst hcs
    exact ⟨none, 0, 0, [], rfl, ⟨rfl, fun h => absurd h (by omega)⟩, Nat.zero_le _, by simp⟩
  · injection hcs with hcs
    subst hcs
    subst hx
    have each : ∀ i, i < len' → ∃ z : List Int, (∃ A' c', w.cell? (a.add i) = some (.slice A' z.length c') ∧ Reads w w.heap.size A' z.length (i64s z)) ∧ z.length ≤ maxLen ∧ Small z := by
      intro i hi
      have h1 := hel i hi
      rw [hc, Nat.mul_one, List.getElem?_eq_getElem (by omega), Option.bind_eq_some_iff] at h1
      obtain ⟨cs', hcs', htr⟩ := h1
      have hq : ∀ x ∈ (elems[i]'(by omega)).2, x.block < w.heap.size := fun x hx => hlt x (List.mem_append.2 (.inr (List.mem_flatMap.2 ⟨elems[i]'(by omega), List.mem_append.2 (.inl (List.getElem_mem _)), hx⟩)))
      rcases open_ints he hei hci htr with ⟨rfl, _⟩ | ⟨a', len'', cap'', zs, rfl, _, hl', hm', hz, hx', hcell, hws⟩
      · exact ⟨[], ⟨none, 0, cell_of_cells?_one hcs', Reads.none_⟩, Nat.zero_le _, fun z hz => by simp at hz⟩
      · simp only [if_true] at hz
        have e1 : (zs.take len'').length = len'' := by rw [List.length_take]; omega
        refine ⟨zs.take len'', ⟨some a', cap'', by rw [e1]; exact cell_of_cells?_one hcs', ?_⟩, by omega, small_of_wf fun z hz => hws z (List.mem_of_mem_take hz)⟩
        refine ⟨by rw [i64_length], fun hn => ⟨a', rfl, ?_, fun j u hu => ?_⟩⟩
        · rw [hx'] at hq
          exact lt_of_row (j := 0) hq (by omega)
        · unfold i64s at hu
          rw [List.getElem?_map, List.getElem?_take] at hu
          by_cases hj : j < len''
          · rw [if_pos hj] at hu
            rw [hcell j (by omega), ← hu, List.getD_eq_getElem?_getD]
            have : zs[j]? = some zs[j] := List.getElem?_eq_getElem (by omega)
            rw [this]; rfl
          · rw [if_neg hj] at hu; cases hu
    obtain ⟨zss, hz1, hz2⟩ := list_of len' each
    refine ⟨some a, len', cap', zss, rfl, ⟨hz1, fun hn => ⟨a, rfl, ?_, fun j z hz => (hz2 j z hz).1⟩⟩, by omega, fun z hz => ?_⟩
    · rw [hc] at hlt
      refine lt_of_row (m := (elems.length + rest.length) * 1) (j := 0) (fun x hx => hlt x (List.mem_append.2 (.inl hx))) (by omega)
    · obtain ⟨i, hi, rfl⟩ := List.getElem_of_mem hz
      exact (hz2 i _ (List.getElem?_eq_getElem hi)).2

def szX (L : Int) (n m : Nat) (pss : List (List Int)) : Int := if L < n + m + tot pss then -1 else L - n - m - tot pss
theorem szX_eq (L : Int) (n m : Nat) (pss : List (List Int)) : szX L n m pss = szR (L - n) m pss := by
  unfold szX szR
  by_cases h : L < n + m + tot pss
  · rw [if_pos h, if_pos (by omega)]
  · rw [if_neg h, if_neg (by omega)]
end Go.Proofs.Ytcoegjhhhnfplaa


/-
  Structs of a row and a list of rows, Mesh: eqMesh, markMesh, heldMesh, szMesh, toMesh by their contracts. (Out of XInfW and XInfA.)
-/

namespace Go.Proofs.Ytcoegjhhhnfplaa
set_option maxRecDepth 100000
open Go.RowKit

theorem meshInfo : (Try.prog.info? 27).map (·.size) = some 2 := by kernel_rfl
set_option maxHeartbeats 800000 in
theorem eqmesh_any (A P A' P' : Option Addr) (n c m d n' c' m' d' B B' : Nat) (root : List Int) (pcs : List (List Int)) (w : World) (h : InfAt w B (.slice A n c) (.slice P m d) root pcs) (h' : InfAt w B' (.slice A' n' c') (.slice P' m' d') root pcs)
    (hr : root.length ≤ 1048576) (hp : pcs.length ≤ 1048576) (ht : tot pcs ≤ 1048576) :
    Calls Try.prog 32 #[.agg #[.slice A n c, .slice P m d], .agg #[.slice A' n' c', .slice P' m' d']] w (GivesB w true) := by
  have b1' := (Below.refl _ w).alloc (Nat.le_refl _) (.cells #[.slice A n c, .slice P m d] 27)
  have b2' := b1'.alloc (by simp) (.cells #[.slice A' n' c', .slice P' m' d'] 27)
  have g1 := (Whole.new w 27 #[.slice A n c, .slice P m d]).alloc (.cells #[.slice A' n' c', .slice P' m' d'] 27)
  have g2 := Whole.new (w.alloc (.cells #[.slice A n c, .slice P m d] 27)) 27 #[.slice A' n' c', .slice P' m' d']
  simp only [World.size_alloc] at g2
  have i1 := h.below b2'
  have i2 := h'.below b2'
  have l1 := i1.row.len
  have l2 := i1.pcs.intsS.len
  have H1 := hide (eqi_any A A' n c n' c' _ _ root _ i1.row.reads i2.row.reads (by omega))
  have HI := hide (And.intro i1 i2)
  clear b1' i1 i2 h h'
  go_enter Try.func32, Try.ntmps32
  go_wp2_with fail
  refine (unhide H1).mono ?_
  rintro e w3 ⟨rfl, hd⟩
  have hb3 := b2'.trans (hd.below _)
  have k1 := (Whole.below g1 (hd.below (w.heap.size + 2)) (by omega)).cell 1
  have k2 := (Whole.below g2 (hd.below (w.heap.size + 2)) (by omega)).cell 1
  simp only [List.getElem?_toArray, List.getElem?_cons_zero, List.getElem?_cons_succ] at k1 k2
  have H2 := hide (eqss_any P P' m d m' d' _ _ pcs w3 ((unhide HI).1.below (hd.below _)).pcs.intsS ((unhide HI).2.below (hd.below _)).pcs.intsS (by omega) (by omega))
  clear H1 hd b2' g1 g2 HI
  go_wp2_with fail
  refine (unhide H2).mono ?_
  rintro e w4 ⟨rfl, hd4⟩
  have hb5 := hb3.trans (hd4.below _)
  clear H2 hd4 hb3
  go_wp2
  go_ret
  exact ⟨rfl, hb5⟩
set_option maxHeartbeats 800000 in
theorem markmesh_in (A P : Option Addr) (n c m d B U k : Nat) (K : Int) (hK : K = (k : Int)) (root : List Int) (pcs : List (List Int)) (w : World) (h : XSeal w B U (.slice A n c) (.slice P m d) root pcs) (hU : U ≤ w.heap.size)
    (hp : pcs.length ≤ 1048576) (hkn : k + root.length + tot pcs ≤ 1099511627776) :
    Calls Try.prog 39 #[.agg #[.slice A n c, .slice P m d], .int .i64 K] w fun e w' => e = .returned (.int .i64 (K + (root.length : Int) + (tot pcs : Int))) ∧
      XSeal w' B U (.slice A n c) (.slice P m d) (marksI k root.length) (mkS (k + root.length) pcs) ∧ Turned B U w w' := by
  subst hK
  have hO := h.opened
  have l1 := hO.row.len
  have l2 := hO.pcs.intsS.len
  have b1 := (Below.refl _ w).alloc (Nat.le_refl _) (.cells #[.slice A n c, .slice P m d] 27)
  have g1 := Whole.new w 27 #[.slice A n c, .slice P m d]
  obtain ⟨x1, u1, vs, x2, x3, x4, x5, x6⟩ := h.below b1
  have H1 := hide (marki_at A n c B k _ rfl root _ x1 (by omega))
  subst l1
  subst l2
  have HX := hide (And.intro x1 (And.intro x2 (And.intro x3 (And.intro x4 (And.intro u1 (And.intro x5 x6))))))
  have HT := hide (Turned.of_below (B := B) (U := U) b1 (Nat.le_refl _))
  clear hO h b1 x1 u1 x2 x3 x4 x5 x6
  go_enter Try.func39, Try.ntmps39
  go_wp2_with fail
  refine (unhide H1).mono ?_
  rintro e w3 ⟨rfl, hm, hg⟩
  obtain ⟨x1, x2, x3, x4, u1, x5, x6⟩ := unhide HX
  have g3 := g1.grown hg (fun e => by have := u1 _ e.symm; omega)
  have k1 := g3.cell 1
  simp only [List.getElem?_toArray, List.getElem?_cons_zero, List.getElem?_cons_succ] at k1
  have o2 := x2.kept hg (rows_apart x2 x1)
  have o3 : Inner w3 B vs pcs := ⟨x3.len, fun i x zs hx hz => (x3.row i x zs hx hz).kept hg (x4 x (List.mem_of_getElem? hx)), x3.away⟩
  have t3 := (unhide HT).trans (Turned.of_grown (B := B) (U := U) hg (fun k hk => ⟨x1.since k hk, u1 k hk⟩))
  have H2 := hide (markss_only P pcs.length d B (k + root.length) ((k : Int) + (root.length : Int)) (by omega) pcs vs w3 o2 o3 rfl (by omega) (by omega))
  have HY := hide (And.intro hm (And.intro t3 o3))
  clear H1 HT hm hg g3 x1 x2 x3 x4 u1 x5 x6 o2 o3 t3 g1
  go_wp2_with fail
  refine (unhide H2).mono ?_
  rintro e w4 ⟨rfl, y2, y3, y4⟩
  obtain ⟨x1, x2, x3, x4, u1, x5, x6⟩ := unhide HX
  obtain ⟨hm, t3, o3⟩ := unhide HY
  have hz : XSeal w4 B U (.slice A root.length c) (.slice P pcs.length d) (marksI k root.length) (mkS (k + root.length) pcs) :=
    ⟨Row.only hm y4 x4, u1, vs, by rw [mkS_length]; exact y2, y3, x4, x5, x6⟩
  have t4 := t3.trans (y4.turned (B := B) (U := U) (fun x hx => by
    obtain ⟨zs, hz⟩ := o3.mem hx
    exact ⟨hz.since, x6 x hx⟩))
  clear x1 x2 x3 x4 u1 x5 x6 hm t3 o3 y2 y3 y4 H2 HX HY
  go_wp2
  go_ret
  exact ⟨rfl, hz, t4⟩
set_option maxHeartbeats 800000 in
theorem heldmesh_any (A P : Option Addr) (n c m d B k : Nat) (K : Int) (hK : K = (k : Int)) (r : Nat) (pcs : List (List Int)) (w : World) (h : InfAt w B (.slice A n c) (.slice P m d) (marksI k r) (mkS (k + r) pcs))
    (hp : pcs.length ≤ 1048576) (hkn : k + r + tot pcs ≤ 1099511627776) :
    Calls Try.prog 40 #[.agg #[.slice A n c, .slice P m d], .int .i64 K] w fun e w' => e = .returned (.int .i64 (K + (r : Int) + (tot pcs : Int))) ∧ Below w.heap.size w w' := by
  subst hK
  have b1 := (Below.refl _ w).alloc (Nat.le_refl _) (.cells #[.slice A n c, .slice P m d] 27)
  have g1 := Whole.new w 27 #[.slice A n c, .slice P m d]
  have hO := h.below b1
  have l1 := hO.row.len
  have l2 := hO.pcs.intsS.len
  rw [marksI_length] at l1
  rw [mkS_length] at l2
  subst l1
  subst l2
  have H1 := hide (heldi_at A r c _ k _ rfl _ hO.row.reads (by omega))
  have H2 := hide (heldss_any P pcs.length d B (k + r) ((k : Int) + (r : Int)) (by omega) pcs _ hO.pcs.intsS (by omega) (by omega))
  have k1 := g1.cell 1
  simp only [List.getElem?_toArray, List.getElem?_cons_zero, List.getElem?_cons_succ] at k1
  clear h hO
  go_enter Try.func40, Try.ntmps40
  go_wp2_with fail
  refine (unhide H1).mono ?_
  rintro e w3 ⟨rfl, rfl⟩
  clear H1
  go_wp2_with fail
  refine (unhide H2).mono ?_
  rintro e w4 ⟨rfl, rfl⟩
  clear H2
  go_wp2
  go_ret
  exact ⟨rfl, b1⟩
set_option maxHeartbeats 800000 in
theorem szmesh_any (A P : Option Addr) (n c m d B : Nat) (pss : List (List Int)) (L : Int) (hL : 0 ≤ L ∧ L ≤ 1048576) (w : World) (hr : ReadsS w B P m pss) (hB : B ≤ w.heap.size) (hn : n ≤ maxLen) (hm : m ≤ maxLen) (hz : ∀ z ∈ pss, z.length ≤ maxLen) :
    Calls Try.prog 30 #[.agg #[.slice A n c, .slice P m d], .int .i64 L] w fun e w' => e = .returned (.int .i64 (szX L n m pss)) ∧ Below w.heap.size w w' := by
  have b1 := (Below.refl _ w).alloc (Nat.le_refl _) (.cells #[.slice A n c, .slice P m d] 48)
  have g1 := Whole.new w 48 #[.slice A n c, .slice P m d]
  have k1 := g1.cell 1
  simp only [List.getElem?_toArray, List.getElem?_cons_zero, List.getElem?_cons_succ] at k1
  have hr1 := hr.below (b1.mono hB)
  obtain ⟨hL1, hL2⟩ := hL
  have H1 := hide (szi_any A n c L ⟨hL1, hL2⟩ hn (w.alloc (.cells #[.slice A n c, .slice P m d] 48)))
  by_cases hlt : L < n
  · rw [if_pos hlt] at H1
    have hx : szX L n m pss = -1 := by unfold szX; rw [if_pos (by omega)]
    rw [hx]
    clear hr hr1 hz hx g1
    go_enter Try.func30, Try.ntmps30
    go_wp2_with fail
    refine (unhide H1).mono ?_
    rintro e w3 ⟨rfl, rfl⟩
    clear H1
    go_wp2
    go_ret
    exact ⟨rfl, b1⟩
  · rw [if_neg hlt] at H1
    have H2 := hide (sziss_any P m d B pss (L - (n : Int)) (by omega) _ hr1 hm hz)
    have hx : szX L n m pss = szR (L - n) m pss := szX_eq L n m pss
    obtain ⟨r, hr0⟩ : ∃ r, szR (L - n) m pss = r := ⟨_, rfl⟩
    rw [hx]
    rw [hr0] at H2 ⊢
    have hrr : r = -1 ∨ 0 ≤ r := by
      rw [← hr0]; unfold szR
      by_cases h : L - n < m + tot pss
      · rw [if_pos h]; exact .inl rfl
      · rw [if_neg h]; right; omega
    have h0 : ¬ L - (n : Int) < 0 := by omega
    clear hr hr1 hz hx g1 hr0
    go_enter Try.func30, Try.ntmps30
    go_wp2_with fail
    refine (unhide H1).mono ?_
    rintro e w3 ⟨rfl, rfl⟩
    clear H1
    go_wp2_with fail
    refine (unhide H2).mono ?_
    rintro e w4 ⟨rfl, rfl⟩
    clear H2
    rcases hrr with rfl | hr0
    · go_wp2
      go_ret
      exact ⟨rfl, b1⟩
    · have h1 : ¬ r < 0 := by omega
      go_wp2
      go_ret
      exact ⟨rfl, b1⟩
set_option maxHeartbeats 1600000 in
theorem tomesh_any (A P : Option Addr) (n c m d B : Nat) (p : List Int) (pss : List (List Int)) (w : World) (hp : Reads w B A n (i64s p)) (hr : ReadsS w B P m pss) (hB : B ≤ w.heap.size) (hn : n ≤ 1048576) (hm : m ≤ 1048576) (hz : ∀ z ∈ pss, z.length ≤ 1048576) :
    Calls Try.prog 31 #[.agg #[.slice A n c, .slice P m d]] w (GivesX w p pss) := by
  have b1 := (Below.refl _ w).alloc (Nat.le_refl _) (.cells #[.slice A n c, .slice P m d] 48)
  have b2 := b1.alloc (by simp) (.cells #[.slice none 0 0, .slice none 0 0] 27)
  have b3 := b2.alloc (by simp; omega) (.cells #[.slice none 0 0, .slice none 0 0] 27)
  have g1 := ((Whole.new w 48 #[.slice A n c, .slice P m d]).alloc (.cells #[.slice none 0 0, .slice none 0 0] 27)).alloc (.cells #[.slice none 0 0, .slice none 0 0] 27)
  have g2 := (Whole.new (w.alloc (.cells #[.slice A n c, .slice P m d] 48)) 27 #[.slice none 0 0, .slice none 0 0]).alloc (.cells #[.slice none 0 0, .slice none 0 0] 27)
  have g3 := Whole.new ((w.alloc (.cells #[.slice A n c, .slice P m d] 48)).alloc (.cells #[.slice none 0 0, .slice none 0 0] 27)) 27 #[.slice none 0 0, .slice none 0 0]
  simp only [World.size_alloc] at g2 g3
  have H1 : Hid (Calls Try.prog 33 #[.slice A n c] (((w.alloc (.cells #[.slice A n c, .slice P m d] 48)).alloc (.cells #[.slice none 0 0, .slice none 0 0] 27)).alloc (.cells #[.slice none 0 0, .slice none 0 0] 27))
      (fun e w' => ∃ A' c', e = .returned (.slice A' n c') ∧ Ints w' (w.heap.size + 1 + 1 + 1) (.slice A' n c') p ∧ Below (w.heap.size + 1 + 1 + 1) (((w.alloc (.cells #[.slice A n c, .slice P m d] 48)).alloc (.cells #[.slice none 0 0, .slice none 0 0] 27)).alloc (.cells #[.slice none 0 0, .slice none 0 0] 27)) w')) :=
    hide ((toi_any A n c B p _ (hp.below (b3.mono hB)) (Nat.le_trans hB b3.size) (by omega)).mono (by
      rintro e w' ⟨rfl, o, d⟩
      simp only [World.size_alloc] at o d ⊢
      exact ⟨_, _, rfl, o, d⟩))
  have hr3 := hr.below (b3.mono hB)
  have hbB := b3.mono hB
  have HR := hide (And.intro hr3 hbB)
  have HL : Hid (p.length = n ∧ pss.length = m) := hide ⟨by have := hp.1; rwa [i64_length] at this, hr.len⟩
  clear b1 b2 hp hr hr3 hbB
  go_enter Try.func31, Try.ntmps31
  go_wp2_with fail
  refine (unhide H1).mono ?_
  rintro e w2 ⟨A2, c2, rfl, o2, d2⟩
  have hb2 := b3.trans (d2.mono (by omega))
  have e1 := g1.below d2 (by omega)
  have e2 := g2.below d2 (by omega)
  have e3 := g3.below d2 (by omega)
  have p1 := e1.cell 1
  have q0 := e3.cell 0
  have q1 := e3.cell 1
  have f0 := e3.frozen 0
  have l3 := e3.lt
  simp only [List.getElem?_toArray, List.getElem?_cons_zero, List.getElem?_cons_succ] at p1 q0 q1
  have l2 := d2.size
  simp only [World.size_alloc] at l2
  have i1 := e1.far (p := ⟨w.heap.size + 1 + 1, 0, none⟩) (by simp; omega) (.slice A2 n c2)
  have i2 := e2.far (p := ⟨w.heap.size + 1 + 1, 0, none⟩) (by simp) (.slice A2 n c2)
  have i3 := e3.put 0 (.slice A2 n c2)
  have o3 := o2.aside (p := ⟨w.heap.size + 1 + 1, 0, none⟩) (by simp) (.slice A2 n c2)
  have hb3 := hb2.setCell (p := ⟨w.heap.size + 1 + 1, 0, none⟩) (by simp; omega) (.slice A2 n c2)
  have H2 : Hid (Calls Try.prog 76 #[.slice P m d] (w2.setCell ⟨w.heap.size + 1 + 1, 0, none⟩ (.slice A2 n c2))
      (fun e w' => ∃ g, e = .returned (.slice (some ⟨g, 0, none⟩) m m) ∧ IntsS w' w2.heap.size (.slice (some ⟨g, 0, none⟩) m m) pss ∧ Below w2.heap.size (w2.setCell ⟨w.heap.size + 1 + 1, 0, none⟩ (.slice A2 n c2)) w')) := by
    have hr4 := (unhide HR).1.below ((d2.mono (show B ≤ _ by omega)).setCell (p := ⟨w.heap.size + 1 + 1, 0, none⟩) (by simp; omega) (.slice A2 n c2))
    refine hide ((toiss_any P m d B pss _ hr4 (by simp; omega) hm hz).mono ?_)
    rintro e w' ⟨g, rfl, o, d⟩
    simp only [World.size_setCell] at o d
    exact ⟨g, rfl, o, d⟩
  have hu2 := o2.until_
  clear H1 e1 e2 e3 hb2 b3 d2 o2 HR g1 g2 g3
  go_wp2_with fail
  refine (unhide H2).mono ?_
  rintro e w4 ⟨g, rfl, o4, d4⟩
  have j2 := i2.below d4 (by omega)
  have j3 := i3.below d4 (by omega)
  have hb4 := hb3.trans (d4.mono (by omega))
  have o5 := Row.stay o3 hu2 d4
  have hF0 : Fresh w4 w2.heap.size (.slice (some ⟨g, 0, none⟩) m m) pss (.slice A2 n c2) := by
    obtain ⟨vs, h1, h2⟩ := o4
    refine ⟨vs, h1, h2, fun x hx => ?_⟩
    obtain ⟨zs, hzz⟩ := h2.mem hx
    exact apart' hzz.since hu2 (Nat.le_refl _)
  have HI : Hid (InfAt w4 (w.heap.size + 1 + 1 + 1) (.slice A2 n c2) (.slice (some ⟨g, 0, none⟩) m m) p pss) := hide ⟨o5, hF0.low (by omega)⟩
  have q0 := j3.cell 0
  have q1 := j3.cell 1
  have f1 := j3.frozen 1
  have r0 := j2.cell 0
  have r1 := j2.cell 1
  have s0 := j2.frozen 0
  have s1 := j2.frozen 1
  have l4 := j3.lt
  simp only [List.setIfInBounds_toArray, List.set_cons_zero, List.getElem?_toArray, List.getElem?_cons_zero, List.getElem?_cons_succ] at q0 q1 r0 r1
  have HJ := hide (And.intro j2 j3)
  obtain ⟨hl1, hl2⟩ := unhide HL
  clear hF0 o5 o4 d4 hu2 H2 hb3 i1 i2 i3 o3 j2 j3 HL p1
  go_wp2
  have hWe := ((unhide HJ).1.far (p := ⟨w.heap.size + 1 + 1, 1, none⟩) (by simp) (.slice (some ⟨g, 0, none⟩) m m)).put 0 (.slice A2 n c2) |>.put 1 (.slice (some ⟨g, 0, none⟩) m m)
  refine bodyPost_ret (v := .agg #[.slice A2 n c2, .slice (some ⟨g, 0, none⟩) m m]) (results_cell_row Try.results31 _ _ (w.heap.size + 1) 27 _ (0, 0) _ rfl hWe Try.underlying27 rfl meshInfo) rfl ?_
  refine GivesX.mk ((((unhide HI).aside (p := ⟨w.heap.size + 1 + 1, 1, none⟩) (by simp) _).aside (p := ⟨w.heap.size + 1, 0, none⟩) (by simp) _).aside (p := ⟨w.heap.size + 1, 1, none⟩) (by simp) _ |>.low (by omega)) ?_
  exact ((hb4.setCell (by simp; omega) _).setCell (by simp) _).setCell (by simp) _
end Go.Proofs.Ytcoegjhhhnfplaa


/-
  PLAIN: which boxes can be shaded. Nothing here speaks of the program.
-/

namespace Go.Proofs.Ytcoegjhhhnfplaa
set_option maxRecDepth 100000
/-- p has an occurrence either way or neither way. -/
def canB (q : List Int) (S T : List (List Int)) (p : List Int) : Bool := decide (0 < (meshR p q S).length) == decide (0 < (meshR p q T).length)
/-- .. all permutations of length n. -/
def canN (q : List Int) (S T : List (List Int)) (n : Nat) : Bool := (permL n).all (canB q S T)
/-- x and y are a column and a row. -/
def boxB (n : Nat) (x y : Int) : Bool := decide (0 ≤ x ∧ x ≤ (n : Int)) && decide (0 ≤ y ∧ y ≤ (n : Int))
def canR (q : List Int) (S : List (List Int)) (x y : Int) : Bool := meshOK q S && boxB q.length x y && !decide ([x, y] ∈ S) && (List.range 6).all (canN q S (S ++ [[x, y]]))
theorem canN_same {q : List Int} {S T R : List (List Int)} (h : ∀ s, s ∈ T ↔ s ∈ R) (n : Nat) : canN q S T n = canN q S R n := by
  unfold canN
  refine congrArg (fun f => (permL n).all f) (funext fun p => ?_)
  unfold canB meshR
  rw [show (fun pl => fitsM p pl T) = fun pl => fitsM p pl R from funext fun pl => fitsM_same h]
theorem permL_isP : ∀ n : Nat, n ≤ 5 → ∀ r ∈ permL n, isP r = true := by decide +kernel
theorem canN_at {q : List Int} {S T : List (List Int)} {n k : Nat} {p : List Int} (h : canN q S T n = true) (hk : (permL n)[k]? = some p) : canB q S T p = true := by
  unfold canN at h
  rw [List.all_eq_true] at h
  exact h p (List.mem_of_getElem? hk)
theorem canN_no {q : List Int} {S T : List (List Int)} {n k : Nat} {p : List Int} (hk : (permL n)[k]? = some p) (h : canB q S T p = false) : canN q S T n = false := by
  cases e : canN q S T n with
  | false => rfl
  | true => rw [canN_at e hk] at h; cases h
/-- The first k of length n. -/
def canK (q : List Int) (S T : List (List Int)) (n k : Nat) : Bool := ((permL n).take k).all (canB q S T)
theorem canK_step {q : List Int} {S T : List (List Int)} {n k : Nat} {p : List Int} (hk : (permL n)[k]? = some p) : canK q S T n (k + 1) = (canK q S T n k && canB q S T p) := by
  unfold canK
  rw [List.take_add_one, hk, List.all_append]
  simp
theorem canK_all {q : List Int} {S T : List (List Int)} {n k : Nat} (h : (permL n).length ≤ k) : canK q S T n k = canN q S T n := by
  unfold canK canN
  rw [List.take_of_length_le h]
/-- The first k lengths. -/
def canL (q : List Int) (S T : List (List Int)) (k : Nat) : Bool := (List.range k).all (canN q S T)
theorem canL_step (q : List Int) (S T : List (List Int)) (k : Nat) : canL q S T (k + 1) = (canL q S T k && canN q S T k) := by
  unfold canL
  rw [List.range_succ, List.all_append]
  simp
theorem canL_no {q : List Int} {S T : List (List Int)} {k m : Nat} (hk : k < m) (h : canN q S T k = false) : canL q S T m = false := by
  cases e : canL q S T m with
  | false => rfl
  | true =>
    unfold canL at e
    rw [List.all_eq_true] at e
    rw [e k (List.mem_range.2 hk)] at h
    cases h
theorem canR_yes {q : List Int} {S : List (List Int)} {x y : Int} (h1 : meshOK q S = true) (h2 : boxB q.length x y = true) (h3 : [x, y] ∉ S) : canR q S x y = canL q S (S ++ [[x, y]]) 6 := by
  unfold canR
  rw [h1, h2, decide_eq_false h3]
  rfl
theorem canR_no {q : List Int} {S : List (List Int)} {x y : Int} (h : meshOK q S = false ∨ boxB q.length x y = false ∨ [x, y] ∈ S) : canR q S x y = false := by
  unfold canR
  rcases h with h | h | h
  · rw [h]; rfl
  · rw [h, Bool.and_false]; rfl
  · rw [decide_eq_true h]; simp
end Go.Proofs.Ytcoegjhhhnfplaa


/-
  impl.isBox, impl.IsMesh by their contracts.
-/

namespace Go.Proofs.Ytcoegjhhhnfplaa
set_option maxRecDepth 100000
open Go.RowKit
set_option maxHeartbeats 800000 in
theorem isbox_any (A P : Option Addr) (n c m d : Nat) (x y : Int) (w : World) :
    Calls Try.prog 59 #[.agg #[.slice A n c, .slice P m d], .int .i64 x, .int .i64 y] w (GivesB w (boxB n x y)) := by
  obtain ⟨w0, hw0⟩ : ∃ w0, w0 = w.alloc (.cells #[.slice A n c, .slice P m d] 27) := ⟨_, rfl⟩
  have b0 : Below w.heap.size w w0 := by rw [hw0]; exact (Below.refl _ w).alloc (Nat.le_refl _) _
  have g0 : Whole w0 w.heap.size 27 #[.slice A n c, .slice P m d] := by rw [hw0]; exact Whole.new _ _ _
  have q0 := g0.cell 0
  simp only [List.getElem?_toArray, List.getElem?_cons_zero] at q0
  have HW := hide hw0
  clear g0 hw0
  obtain ⟨b, hb⟩ : ∃ b, boxB n x y = b := ⟨_, rfl⟩
  rw [hb]
  have HB := hide hb
  clear hb
  go_enter Try.func59, Try.ntmps59
  by_cases hxy : x < y
  all_goals
    go_wp2
    all_goals
      go_ret
      refine ⟨?_, by rw [← unhide HW]; exact b0⟩
      have hb := unhide HB
      unfold boxB at hb
      first
        | (show Ending.returned (.bool false) = .returned (.bool b); rw [← hb]; congr 2; symm; rw [Bool.eq_false_iff]; intro h; simp only [Bool.and_eq_true, decide_eq_true_eq] at h; omega)
        | (show Ending.returned (.bool (decide _)) = .returned (.bool b); rw [← hb]; congr 2; rw [Bool.eq_iff_iff]; simp only [Bool.and_eq_true, decide_eq_true_eq]; omega)
theorem box_twoB {n : Nat} {x y : Int} : boxOK n [x, y] = boxB n x y := by
  unfold boxOK boxB
  rw [show at0 [x, y] 0 = x from rfl, show at0 [x, y] 1 = y from rfl]
  simp
theorem imesh_false {q : List Int} {S : List (List Int)} {k : Nat} (h : boxesK q.length S (k + 1) = false) (hk : k < S.length) : meshOK q S = false := by
  unfold meshOK
  cases e : boxesK q.length S S.length with
  | false => rw [Bool.and_false]
  | true => rw [boxesK_down e hk] at h; cases h
theorem lex_bef {x y u v : Int} : decide (lexV [x, y] [u, v] ≥ 0) = !befL [x, y] [u, v] := by
  rw [befL_eq (by rfl), ← lexV_lexL (by rfl), Bool.eq_iff_iff]
  simp
theorem keep4 {B : Nat} {wr w' : World} {a b c d : Addr} {t u v x : Value} (h1 : wr.cell? a = some t) (h2 : wr.cell? b = some u) (h3 : wr.cell? c = some v) (h4 : wr.cell? d = some x) (ha : a.block < B) (hb : b.block < B) (hc : c.block < B) (hd : d.block < B)
    (h : Below B wr w') : w'.cell? a = some t ∧ w'.cell? b = some u ∧ w'.cell? c = some v ∧ w'.cell? d = some x ∧ Below B wr w' := ⟨(h.cell ha).trans h1, (h.cell hb).trans h2, (h.cell hc).trans h3, (h.cell hd).trans h4, h⟩
set_option maxHeartbeats 4000000 in
theorem imesh_any (A P : Option Addr) (n c B m d : Nat) (q : List Int) (S : List (List Int)) (w : World) (h : Arg w B A n c q) (hS : AtS w P m S) (hm : m ≤ 1048576) :
    Calls Try.prog 20 #[.agg #[.slice A n c, .slice P m d]] w (GivesB w (meshOK q S)) := by
  have hl := h.len
  have hn := h.le
  obtain ⟨w0, hw0⟩ : ∃ w0, w0 = w.alloc (.cells #[.slice A n c, .slice P m d] 27) := ⟨_, rfl⟩
  have b0 : Below w.heap.size w w0 := by rw [hw0]; exact (Below.refl _ w).alloc (Nat.le_refl _) _
  have g0 : Whole w0 w.heap.size 27 #[.slice A n c, .slice P m d] := by rw [hw0]; exact Whole.new _ _ _
  have q0 := g0.cell 0
  have q1 := g0.cell 1
  simp only [List.getElem?_toArray, List.getElem?_cons_zero, List.getElem?_cons_succ] at q0 q1
  have hsz := g0.lt
  obtain ⟨b, hb⟩ : ∃ b, meshOK q S = b := ⟨_, rfl⟩
  obtain ⟨bp, hbp⟩ : ∃ b, isP q = b := ⟨_, rfl⟩
  rw [hb]
  have HB := hide hb
  have HBP := hide hbp
  have HA := hide (iisperm_any A n c B q bp hbp w0 (h.below b0).reads (h.below b0).under h.le h.small)
  have HL := hide hl
  have HS := hide (hS.below b0)
  have HW := hide hw0
  clear h hl hb hbp g0 hw0 hS
  go_enter Try.func20, Try.ntmps20
  go_wp2_with fail
  rw [← unhide HW]
  refine (unhide HA).mono ?_
  rintro e w1 ⟨rfl, d1⟩
  have hb1 := below_after b0 d1
  have c0 := (d1.cell (p := ⟨w.heap.size, 0, none⟩) hsz).trans q0
  have c1 := (d1.cell (p := ⟨w.heap.size, 1, none⟩) hsz).trans q1
  have HS1 := hide ((unhide HS).below d1)
  have hs1 : w.heap.size < w1.heap.size := Nat.lt_of_lt_of_le hsz d1.size
  clear HA HW HS d1 q0 q1 b0
  cases bp with
  | false =>
    obtain rfl : b = false := (unhide HB).symm.trans (by unfold meshOK; rw [unhide HBP]; rfl)
    clear HB HBP
    go_wp2
    go_ret
    exact ⟨rfl, hb1⟩
  | true =>
    by_cases h4 : n ≤ 4
    · have h5 : ¬ (n : Int) > 4 := by omega
      have hK : Hid (meshOK q S = boxesK q.length S S.length) := hide (by unfold meshOK; rw [unhide HBP, unhide HL, decide_eq_true h4]; rfl)
      go_wp2
      go_loopw [18] (fun i wr => ∃ k : Nat, k ≤ m ∧ i = .int .i64 k ∧ Below w1.heap.size w1 wr ∧ Hid (boxesK q.length S k = true)) (fun i _ => m - (intOf i).toNat)
      case atStart => exact ⟨0, Nat.zero_le _, rfl, Below.refl _ _, hide rfl⟩
      case round =>
        obtain ⟨k, hk, rfl, hd, hs⟩ := hrel
        have q0 := (hd.cell (p := ⟨w.heap.size, 0, none⟩) hs1).trans c0
        have q1 := (hd.cell (p := ⟨w.heap.size, 1, none⟩) hs1).trans c1
        by_cases hlt : k < m
        · obtain ⟨ad, A', c', z, rfl, hz, hcell, hI⟩ := (unhide HS1).2 wr hd k hlt
          have HD := hide hd
          have HZ := hide hz
          have HI := hide hI
          have hzl := hI.le
          have hbw := below_after hb1 hd
          have hkm : k < S.length := by have := (unhide HS1).1; omega
          clear hd hz hI
          go_wp2
          by_cases e2 : z.length = 2
          · obtain ⟨x, y, rfl, ad2, hA2, hcx, hcy⟩ : ∃ x y, z = [x, y] ∧ ∃ ad2, A' = some ad2 ∧ wr.cell? (ad2.add 0) = some (.int .i64 x) ∧ wr.cell? (ad2.add 1) = some (.int .i64 y) := by
              match z, e2 with
              | [x, y], _ =>
                obtain ⟨ad2, u, hA, _, hu, hx⟩ := (unhide HI).reads.at_ (show 0 < [x, y].length by simp)
                obtain ⟨ad3, u3, hA3, _, hu3, hx3⟩ := (unhide HI).reads.at_ (show 1 < [x, y].length by simp)
                obtain rfl : ad2 = ad3 := by rw [hA] at hA3; injection hA3
                refine ⟨x, y, rfl, ad2, hA, ?_, ?_⟩
                · rw [hx]; exact hu.symm
                · rw [hx3]; exact hu3.symm
            subst hA2
            have hcx0 : wr.cell? ad2 = some (.int .i64 x) := by rw [show ad2 = ad2.add 0 by unfold Addr.add; split <;> simp_all]; exact hcx
            have hcy0 : wr.cell? ⟨ad2.block, ad2.off + 1, none⟩ = some (.int .i64 y) := by rw [← show ad2.add 1 = ⟨ad2.block, ad2.off + 1, none⟩ by unfold Addr.add; rw [if_neg (by omega)]]; exact hcy
            have l1 := World.block_lt_of_cell? _ _ hcx0
            have l2 := World.block_lt_of_cell? _ _ hcy0
            have l3 := World.block_lt_of_cell? _ _ q0
            have l4 := World.block_lt_of_cell? _ _ q1
            obtain ⟨bb, hbb⟩ : ∃ b, boxB n x y = b := ⟨_, rfl⟩
            have HX := hide (fun w' => isbox_any A (some ad) n c m d x y w')
            rw [hbb] at HX
            have hbox : boxOK q.length [x, y] = bb := by rw [box_twoB, unhide HL]; exact hbb
            have hK1 : boxesK q.length S (k + 1) = (bb && (decide (k = 0) || befL (S.getD (k - 1) []) [x, y])) := by
              rw [boxesK, unhide hs, getD_of (unhide HZ), hbox, Bool.true_and]
            have hlen2 : [x, y].length = 2 := rfl
            rw [hlen2]
            have hbd := Below.refl wr.heap.size wr
            have HPR := hide (And.intro hcx (And.intro hcy hcell))
            clear hcx hcy hbb hbox
            go_region_held3 (fun w' => w'.cell? ⟨w.heap.size, 0, none⟩ = some (.slice A n c) ∧ w'.cell? ⟨w.heap.size, 1, none⟩ = some (.slice (some ad) m d) ∧ w'.cell? ad2 = some (.int .i64 x) ∧ w'.cell? ⟨ad2.block, ad2.off + 1, none⟩ = some (.int .i64 y) ∧ Below wr.heap.size wr w') ((refine keep4 q0 q1 hcx0 hcy0 l3 l4 l1 l2 ?_; first | assumption | (apply Below.drew; assumption)))
              (first
                | (go_at_call 59; refine (unhide HX _).mono ?_; rintro e w5 ⟨rfl, hb5⟩; have hb6 : Below wr.heap.size wr w5 := below_after (hbd.drew) hb5))
            have c3 := (hb6.cell (p := ⟨w.heap.size, 1, none⟩) l4).trans q1
            have hbw5 := below_after hbw hb6
            have hd5 := hide (below_after (unhide HD) hb6)
            have HI5 := hide ((unhide HI).below hb6)
            clear hb5 hb6 hbd HX q0 q1 hcx0 hcy0 l1 l2 l3 l4 hbw HI
            cases bb with
            | false =>
              obtain rfl : b = false := (unhide HB).symm.trans (imesh_false (by rw [hK1]; rfl) hkm)
              clear HB hs hK1
              go_wp2
              go_ret
              exact ⟨rfl, hbw5⟩
            | true =>
              by_cases h0 : k = 0
              · subst h0
                have hnext : Hid (boxesK q.length S (0 + 1) = true) := hide (by rw [hK1]; rfl)
                clear hs hK1 HI5
                go_wp2
                go_roundw
                case rel => exact ⟨1, by omega, by go_num, unhide hd5, hnext⟩
                case measure => simp [intOf]; omega
              · obtain ⟨k2, rfl⟩ : ∃ k2, k = k2 + 1 := ⟨k - 1, by omega⟩
                obtain ⟨ad5, A5, c5, z5, hA5, hz5, hc5, hI5⟩ := (unhide HS1).2 w5 (unhide hd5) k2 (by omega)
                obtain rfl : ad = ad5 := by injection hA5
                have h5b := boxesK_box (unhide hs) (i := k2) (by omega)
                rw [getD_of hz5] at h5b
                have hz2 : z5.length = 2 := by unfold boxOK at h5b; simp only [Bool.and_eq_true, decide_eq_true_eq] at h5b; exact h5b.1.1
                have hgt : (0 : Int) < (k2 : Int) + 1 := by omega
                have hwk : IntKind.i64.wrap ((k2 : Int) + 1 - 1) = (k2 : Int) := by rw [IntKind.wrap_i64]; omega
                have hwk' : IntKind.i64.wrap (k2 : Int) = (k2 : Int) := by rw [IntKind.wrap_i64]; omega
                have hb3 : (k2 : Int) < (m : Int) := by omega
                have hb4 : (0 : Int) ≤ (k2 : Int) := by omega
                have HLX := hide (compare_any A5 (some ad2) z5.length c5 _ [x, y].length c' _ z5 [x, y] w5 hI5 (unhide HI5))
                match z5, hz2, hz5, hc5, HLX, hK1 with
                | [u, v], _, hz5, hc5, HLX, hK1 =>
                obtain ⟨bf, hbf⟩ : ∃ bf, befL [u, v] [x, y] = bf := ⟨_, rfl⟩
                have hge := lex_bef (x := u) (y := v) (u := x) (v := y)
                rw [hbf] at hge
                rw [show k2 + 1 - 1 = k2 from rfl, getD_of hz5, hbf, decide_eq_false h0, Bool.false_or, Bool.true_and] at hK1
                obtain ⟨lx, hlx⟩ : ∃ lx, lx = lexV [u, v] [x, y] := ⟨_, rfl⟩
                rw [← hlx] at hge HLX
                clear hI5 hlx hbf hz5 HI5
                go_wp2_with fail
                refine (unhide HLX).mono ?_
                rintro e w6 ⟨rfl, rfl⟩
                clear HLX
                cases bf with
                | false =>
                  obtain rfl : b = false := (unhide HB).symm.trans (imesh_false hK1 hkm)
                  clear HB hs hK1
                  have h1 : lx ≥ 0 := by simpa using hge
                  clear hge
                  go_wp2
                  go_ret
                  exact ⟨rfl, hbw5⟩
                | true =>
                  have hnext : Hid (boxesK q.length S (k2 + 1 + 1) = true) := hide hK1
                  have h1 : ¬ lx ≥ 0 := by simpa using hge
                  clear hs hK1 hge
                  go_wp2
                  go_roundw
                  case rel => exact ⟨k2 + 1 + 1, by omega, by go_num, unhide hd5, hnext⟩
                  case measure => simp [intOf]; omega
          · obtain rfl : b = false := (unhide HB).symm.trans (imesh_false (k := k) (by rw [boxesK, getD_of (unhide HZ)]; unfold boxOK; rw [decide_eq_false e2]; simp) hkm)
            have e3 : ¬ (z.length : Int) = 2 := by omega
            have e4 : ((z.length : Int) != 2) = true := by simpa using e3
            clear HB hs HI HZ
            go_quiet (fail)
            go_wp2
            go_ret
            exact ⟨rfl, below_after hb1 ((unhide HD).trans ((((Drew.refl wr).more _).below _)))⟩
        · obtain rfl : m = k := by omega
          obtain rfl : b = true := (unhide HB).symm.trans (by rw [unhide hK, (unhide HS1).1]; exact unhide hs)
          have hbw := below_after hb1 hd
          clear HB HBP hK HS1 hs hd
          go_wp2
          go_ret
          exact ⟨rfl, hbw⟩
    · obtain rfl : b = false := (unhide HB).symm.trans (by unfold meshOK; rw [unhide HL, decide_eq_false h4]; simp)
      have h5 : (n : Int) > 4 := by omega
      clear HB HBP
      go_wp2
      go_ret
      exact ⟨rfl, hb1⟩
end Go.Proofs.Ytcoegjhhhnfplaa


/-
  spec.CountMesh by its contract.
-/

namespace Go.Proofs.Ytcoegjhhhnfplaa
set_option maxRecDepth 100000
open Go.RowKit
set_option maxHeartbeats 1600000 in
theorem scntm_any (A A' P : Option Addr) (n c B n' c' B' m d : Nat) (p q : List Int) (S : List (List Int)) (w : World) (h : Arg w B A n c p) (h' : Arg w B' A' n' c' q) (hS : AtS w P m S) (hm : m ≤ 1048576) :
    Calls Try.prog 18 #[.slice A n c, .agg #[.slice A' n' c', .slice P m d]] w (GivesN w (numMesh p q S)) := by
  obtain ⟨w0, hw0⟩ : ∃ w0, w0 = w.alloc (.cells #[.slice A' n' c', .slice P m d] 27) := ⟨_, rfl⟩
  have b0 : Below w.heap.size w w0 := by rw [hw0]; exact (Below.refl _ w).alloc (Nat.le_refl _) _
  have g0 : Whole w0 w.heap.size 27 #[.slice A' n' c', .slice P m d] := by rw [hw0]; exact Whole.new _ _ _
  obtain ⟨bp, hbp⟩ : ∃ b, isP p = b := ⟨_, rfl⟩
  have H1 := hide (show Calls Try.prog 22 #[.slice A n c] (w.alloc (.cells #[.slice A' n' c', .slice P m d] 27)) (fun e w' => e = .returned (.bool bp) ∧ Drew w0 w') from by
    rw [← hw0]; exact sisperm_any A n c B p bp hbp w0 (h.below b0).reads h.le h.cap)
  cases bp with
  | false =>
    rw [numMesh_no (.inl hbp)]
    clear h h' hS hbp hw0 g0
    go_enter Try.func18, Try.ntmps18
    go_wp2_with fail
    refine (unhide H1).mono ?_
    rintro e w1 ⟨rfl, hd⟩
    have hb1 := below_after b0 (hd.below _)
    clear H1 hd b0
    go_wp2
    go_ret
    exact ⟨rfl, hb1⟩
  | true =>
    obtain ⟨bn, hbn⟩ : ∃ b, meshOK q S = b := ⟨_, rfl⟩
    have H2 := hide (show ∀ w1, Drew w0 w1 → Calls Try.prog 21 #[.agg #[.slice A' n' c', .slice P m d]] w1 (GivesB w1 bn) from fun w1 hd => by
      rw [← hbn]; exact smesh_any A' P n' c' B' m d q S w1 (h'.below (below_after b0 (hd.below _))) (hS.below (below_after b0 (hd.below _))) hm)
    cases bn with
    | false =>
      rw [numMesh_no (.inr hbn)]
      clear h h' hS hbp hw0 hbn
      go_enter Try.func18, Try.ntmps18
      go_wp2_with fail
      refine (unhide H1).mono ?_
      rintro e w1 ⟨rfl, hd⟩
      have g1 := g0.below (hd.below (w.heap.size + 1)) (by omega)
      have q0 := g1.cell 0
      have q1 := g1.cell 1
      have q2 := g1.lt
      simp only [List.getElem?_toArray, List.getElem?_cons_zero, List.getElem?_cons_succ] at q0 q1
      have H3 := hide (unhide H2 w1 hd)
      have hb1 := below_after b0 (hd.below _)
      clear H1 H2 hd b0 g0 g1
      go_wp2_with fail
      refine (unhide H3).mono ?_
      rintro e w2 ⟨rfl, d2⟩
      have hb2 := below_after hb1 d2
      clear H3 d2 hb1 q0 q1 q2
      go_wp2
      go_ret
      exact ⟨rfl, hb2⟩
    | true =>
      have hq := (meshOK_iff.1 hbn).1
      rw [numMesh_yes hbp hbn]
      have HO := hide (fun w2 (d2 : Below w.heap.size w w2) => l9count_any A A' P n c B n' c' B' m d p q S w2 (h.below d2) (h'.below d2) (hS.below d2) hm hbp hq)
      clear h h' hS hbp hw0 hbn hq
      go_enter Try.func18, Try.ntmps18
      go_wp2_with fail
      refine (unhide H1).mono ?_
      rintro e w1 ⟨rfl, hd⟩
      have g1 := g0.below (hd.below (w.heap.size + 1)) (by omega)
      have q0 := g1.cell 0
      have q1 := g1.cell 1
      have q2 := g1.lt
      simp only [List.getElem?_toArray, List.getElem?_cons_zero, List.getElem?_cons_succ] at q0 q1
      have H3 := hide (unhide H2 w1 hd)
      have hb1 := below_after b0 (hd.below _)
      clear H1 H2 hd b0 g0
      go_wp2_with fail
      refine (unhide H3).mono ?_
      rintro e w2 ⟨rfl, d2⟩
      have g2 := g1.below d2 q2
      have hb2 := below_after hb1 d2
      clear H3 d2 hb1 q0 q1 q2 g1
      have q0 := g2.cell 0
      have q1 := g2.cell 1
      have q2 := g2.lt
      simp only [List.getElem?_toArray, List.getElem?_cons_zero, List.getElem?_cons_succ] at q0 q1
      have H4 := hide (unhide HO w2 hb2)
      clear HO g2
      go_wp2_with fail
      refine (unhide H4).mono ?_
      rintro e w3 ⟨rfl, d3⟩
      have hb3 := below_after hb2 d3
      clear H4 d3 hb2 q0 q1 q2
      go_wp2
      go_ret
      exact ⟨rfl, hb3⟩
end Go.Proofs.Ytcoegjhhhnfplaa


/-
  Maps whose keys are boxes: what such a map holds, a look-up, a store, a clone.
-/

namespace Go.Proofs.Ytcoegjhhhnfplaa
set_option maxRecDepth 100000
open Go.RowKit Go.Maps

theorem laidOutP : laidOutB Try.prog = true := by kernel_rfl
theorem boxRow : (86 : TypeId) < Try.prog.types.size := of_decide_eq_true (by kernel_rfl)
theorem boxWide : (match Try.prog.underlying 86 with | some (.array _ _) | some (.struct _) => true | _ => false) = true := by rw [Try.underlying86]
theorem boxLaw : Keyed Try.prog 86 := Keyed.of_law (deep_law_laid laidOutP (m := 2) (by omega) boxRow (by kernel_rfl) boxWide)
theorem boxTypes : ∃ m, Try.prog.types.size = m + 1 := ⟨Try.prog.types.size - 1, by have : 0 < Try.prog.types.size := of_decide_eq_true (by kernel_rfl); omega⟩
theorem boxTop : Try.prog.keyType 86 = true := by kernel_rfl
theorem boxCells : Try.prog.cellsOf 86 = 2 := by kernel_rfl
theorem intCells : Try.prog.cellsOf 3 = 1 := by kernel_rfl
theorem boxZero (w : World) : (zeroValue 4).run Try.prog w = .ok (.bool false) w := by kernel_rfl
theorem boxKey {x y : Int} (hx : (Lit.int .i64 x).wf = true) (hy : (Lit.int .i64 y).wf = true) : ∃ kl, keyOf Try.prog 86 (.agg #[.int .i64 x, .int .i64 y]) = some kl := by
  obtain ⟨m, hm⟩ := boxTypes
  unfold keyOf
  rw [Try.underlying86]
  simp only [boxTop, Bool.true_and]
  rw [if_pos (by simp [Value.formed, Try.underlying86, boxCells])]
  rw [hm]
  simp [Program.keyLits, Try.underlying86, Try.underlying3, boxCells, intCells, Value.cells, hx, hy]
/-- Block b is a map of at most m entries that has just the boxes of S. -/
def Boxes (w : World) (b m : Nat) (S : List (List Int)) : Prop :=
  ∃ D : DataW Unit, w.ownsMap Try.prog 86 (plainElem Try.prog 4) b m D ∧
    ∀ x y kl, keyOf Try.prog 86 (.agg #[.int .i64 x, .int .i64 y]) = some kl → D.atKey kl (.lit (.bool false)) = .lit (.bool (decide ([x, y] ∈ S)))
theorem Boxes.lt {w : World} {b m : Nat} {S : List (List Int)} (h : Boxes w b m S) : b < w.heap.size := by
  obtain ⟨D, h, _⟩ := h
  exact h.lt
theorem Boxes.same {w w' : World} {b m : Nat} {S : List (List Int)} (h : Boxes w b m S) (hb : w'.heap[b]? = w.heap[b]?) : Boxes w' b m S := by
  obtain ⟨D, ⟨es, clock, h1, h2⟩, h3⟩ := h
  exact ⟨D, ⟨es, clock, hb.trans h1, h2⟩, h3⟩
theorem Boxes.below {w w' : World} {b m B : Nat} {S : List (List Int)} (h : Boxes w b m S) (hb : Below B w w') (hB : b < B) : Boxes w' b m S := h.same (hb.block b hB)
theorem Boxes.later {w w' : World} {b m : Nat} {S : List (List Int)} (h : Boxes w b m S) (hb : Below w.heap.size w w') : Boxes w' b m S := h.same (hb.block b h.lt)
theorem Boxes.kept {w w' : World} {row : Option Nat} {b m : Nat} {S : List (List Int)} (h : Boxes w b m S) (hg : w.grownBy w' row) (hne : some b ≠ row) : Boxes w' b m S := by
  obtain ⟨D, h1, h2⟩ := h
  exact ⟨D, h1.kept hg hne, h2⟩
theorem Boxes.alloc {w : World} {b m : Nat} {S : List (List Int)} (h : Boxes w b m S) (o : Obj) : Boxes (w.alloc o) b m S := h.kept (World.grownBy_alloc w o none) (by simp)
theorem Boxes.mem {w : World} {b m : Nat} {S R : List (List Int)} (h : Boxes w b m S) (hS : ∀ s, s ∈ S ↔ s ∈ R) : Boxes w b m R := by
  obtain ⟨D, h1, h2⟩ := h
  refine ⟨D, h1, fun x y kl hk => ?_⟩
  rw [h2 x y kl hk]
  have : decide ([x, y] ∈ S) = decide ([x, y] ∈ R) := by rw [decide_eq_decide]; exact hS _
  rw [this]
theorem Boxes.new (w : World) : Boxes (w.alloc (.map #[] 0)) w.heap.size 0 [] := by
  refine ⟨.map [], World.ownsMap_made w _ _ _, fun x y kl hk => ?_⟩
  rw [atKey_of_not_has (by rfl)]
  simp
theorem bool_inv {v : Value} {c : Bool} {ps : List MemPlace} (h : plainElem (H := Unit) Try.prog 4 v = some (.lit (.bool c), ps)) : v = .bool c := by
  unfold plainElem at h
  rw [Try.underlying4] at h
  cases v <;> simp at h
  rw [h.1]
theorem Boxes.lookup {w : World} {b m : Nat} {S : List (List Int)} (h : Boxes w b m S) {x y : Int} (hx : (Lit.int .i64 x).wf = true) (hy : (Lit.int .i64 y).wf = true) :
    (Instr.lookup 71 (.map (some b)) (.agg #[.int .i64 x, .int .i64 y]) false).run Try.prog w = .ok (.bool (decide ([x, y] ∈ S))) w := by
  obtain ⟨D, h1, h2⟩ := h
  obtain ⟨kl, hk⟩ := boxKey hx hy
  obtain ⟨v, ps, hrun, hv⟩ := h1.lookup boxLaw Try.underlying71 (boxZero w) (plainElem_bool Try.underlying4 false) hk
  rw [h2 x y kl hk] at hv
  rw [hrun, bool_inv hv]
theorem Boxes.store {w : World} {b m : Nat} {S : List (List Int)} (h : Boxes w b m S) (hm : m < maxLen) {x y : Int} (hx : (Lit.int .i64 x).wf = true) (hy : (Lit.int .i64 y).wf = true) :
    ∃ w', (Instr.mapUpdate 71 (.map (some b)) (.agg #[.int .i64 x, .int .i64 y]) (.bool true)).run Try.prog w = .ok () w' ∧ Boxes w' b (m + 1) (S ++ [[x, y]]) ∧ w.grownBy w' (some b) := by
  obtain ⟨D, h1, h2⟩ := h
  obtain ⟨kl, hk⟩ := boxKey hx hy
  obtain ⟨w', hrun, ho, hg⟩ := h1.update boxLaw Try.underlying71 hm hk (plainElem_bool Try.underlying4 true)
  refine ⟨w', hrun, ⟨_, ho, fun x' y' kl' hk' => ?_⟩, hg⟩
  by_cases e : kl' = kl
  · subst e
    rw [atKey_put_same h1.isMap (boxLaw.key hk)]
    have e2 := boxLaw.inj hk hk'
    simp only [Value.agg.injEq, Array.mk.injEq, List.cons.injEq, Value.int.injEq, true_and, and_true] at e2
    obtain ⟨rfl, rfl⟩ := e2
    simp
  · rw [atKey_put_other e, h2 x' y' kl' hk']
    have : decide ([x', y'] ∈ S) = decide ([x', y'] ∈ S ++ [[x, y]]) := by
      rw [decide_eq_decide, List.mem_append, List.mem_singleton]
      constructor
      · exact .inl
      · rintro (h | h)
        · exact h
        · simp only [List.cons.injEq, and_true] at h
          obtain ⟨rfl, rfl⟩ := h
          rw [hk] at hk'
          cases hk'
          exact absurd rfl e
    rw [this]
/-- A look-up at the operation. -/
theorem wpList_lookup_boxes (w : World) {ops : Array Oper} {rest : List Oper} {o : Oper} {a : Act} {Q : Exit → Act → World → Prop} (hg : o.guard = none) (m x : Operand) (hop : o.op = Op.lookup 71 m x false)
    (b k : Nat) (S : List (List Int)) (hm : a.eval m = .map (some b)) (hown : Boxes w b k S) (u v : Int) (hx : a.eval x = .agg #[.int .i64 u, .int .i64 v]) (hu : (Lit.int .i64 u).wf = true) (hv : (Lit.int .i64 v).wf = true)
    (hK : wpList Try.prog ops Q rest (a.put o.dst (.bool (decide ([u, v] ∈ S)))) w) : wpList Try.prog ops Q (o :: rest) a w := by
  refine wpList_plain hg fun K' hK' => ?_
  have hrun := hown.lookup hu hv
  unfold Oper.wp
  simp [execOp, hop, hm, hx, hrun, Result.andThen]
  exact hK' _ _ hK
theorem wpList_store_boxes (w : World) {ops : Array Oper} {rest : List Oper} {o : Oper} {a : Act} {Q : Exit → Act → World → Prop} (hg : o.guard = none) (m x v : Operand) (hop : o.op = Op.mapUpdate 71 m x v)
    (b k : Nat) (S : List (List Int)) (hm : a.eval m = .map (some b)) (hown : Boxes w b k S) (hk : k < maxLen) (y z : Int) (hx : a.eval x = .agg #[.int .i64 y, .int .i64 z]) (hv : a.eval v = .bool true) (hy : (Lit.int .i64 y).wf = true) (hz : (Lit.int .i64 z).wf = true)
    (hK : ∀ w', Boxes w' b (k + 1) (S ++ [[y, z]]) → w.grownBy w' (some b) → wpList Try.prog ops Q rest (a.put o.dst undef) w') : wpList Try.prog ops Q (o :: rest) a w := by
  refine wpList_plain hg fun K' hK' => ?_
  obtain ⟨w', hrun, r1, r2⟩ := hown.store hk hy hz
  unfold Oper.wp
  simp [execOp, hop, hm, hx, hv, hrun, Result.andThen]
  exact hK' _ _ (hK w' r1 r2)
theorem step_store_boxes {ops : Array Oper} {o : Oper} {a : Act} {W : World} {K : Act → World → Prop} {Q : Exit → Act → World → Prop} {E : Prop} (hgd : o.guard = none) (m x v : Operand) (hop : o.op = Op.mapUpdate 71 m x v)
    (b k : Nat) (S : List (List Int)) (hm : a.eval m = .map (some b)) (hown : Boxes W b k S) (hk : k < maxLen) (y z : Int) (hx : a.eval x = .agg #[.int .i64 y, .int .i64 z]) (hv : a.eval v = .bool true) (hy : (Lit.int .i64 y).wf = true) (hz : (Lit.int .i64 z).wf = true)
    (hK : ∀ w', Boxes w' b (k + 1) (S ++ [[y, z]]) → W.grownBy w' (some b) → K (a.put o.dst undef) w') :
    if Region.wanted o (yielded ops a.tmps) = true then Oper.wp Try.prog o a W K Q else E := by
  obtain ⟨w', hrun, r1, r2⟩ := hown.store hk hy hz
  rw [if_pos (by simp [Region.wanted, hgd])]
  unfold Oper.wp
  simp [execOp, hop, hm, hx, hv, hrun, Result.andThen]
  exact hK w' r1 r2
end Go.Proofs.Ytcoegjhhhnfplaa


/-
  spec.l7Without, spec.WithoutPlace, spec.LowersOf, by their contracts.
-/

namespace Go.Proofs.Ytcoegjhhhnfplaa
set_option maxRecDepth 100000
open Go.RowKit

theorem place_nat' {n : Nat} {x : Int} (h : 1 ≤ x ∧ x ≤ (n : Int)) : ∃ X : Nat, x = ((X + 1 : Nat) : Int) ∧ X < n := ⟨x.toNat - 1, by omega, by omega⟩
/-- A list without the number at index k. -/
def cutAt (p : List Int) (k : Nat) : List Int := p.take k ++ p.drop (k + 1)
theorem cutAt_len {p : List Int} {k : Nat} (h : k < p.length) : (cutAt p k).length + 1 = p.length := by
  unfold cutAt
  rw [List.length_append, List.length_take, List.length_drop]; omega
theorem cutAt_sub (p : List Int) (k : Nat) : (cutAt p k).Sublist p := by
  have h : (p.take k ++ p.drop (k + 1)).Sublist (p.take k ++ p.drop k) := (List.Sublist.refl _).append (by
    rw [← List.drop_drop]; exact List.drop_sublist _ _)
  rwa [List.take_append_drop] at h
theorem cutAt_isP {p : List Int} (hp : isP p = true) (k : Nat) : isP (patL (cutAt p k)) = true := by
  rw [isP_pat]
  have h := isP_true.1 hp
  exact patOK_yes (Nat.le_trans (cutAt_sub p k).length_le (isP_le hp)) (h.2.2.sublist (cutAt_sub p k))

def wplOK (p : List Int) (x : Int) : Bool := isP p && decide (1 ≤ x ∧ x ≤ (p.length : Int))
def wplR (p : List Int) (x : Int) : List Int := if wplOK p x then patL (cutAt p (x.toNat - 1)) else []
theorem wplR_yes {p : List Int} {x : Int} (h : wplOK p x = true) : wplR p x = patL (cutAt p (x.toNat - 1)) := by unfold wplR; rw [if_pos h]
theorem wplR_no {p : List Int} {x : Int} (h : wplOK p x = false) : wplR p x = [] := by unfold wplR; rw [if_neg (by simp [h])]
theorem wplR_le (p : List Int) (x : Int) : (wplR p x).length ≤ 8 := by
  cases h : wplOK p x with
  | false => rw [wplR_no h]; exact Nat.zero_le _
  | true =>
    have hp : isP p = true := by unfold wplOK at h; simp at h; exact h.1
    rw [wplR_yes h]
    exact isP_le (cutAt_isP hp _)
/-- The patterns without one of the first k indices, in order. -/
def lowK (p : List Int) (k : Nat) : List (List Int) := ((List.range k).map fun i => patL (cutAt p i)).foldl putL []
theorem lowK_step (p : List Int) (k : Nat) : lowK p (k + 1) = putL (lowK p k) (patL (cutAt p k)) := by
  unfold lowK
  rw [List.range_succ, List.map_append, List.foldl_append]; rfl
theorem lowK_all {p : List Int} (hp : isP p = true) : ∀ k, ∀ z ∈ lowK p k, isP z = true
  | 0, z, hz => by simp [lowK] at hz
  | k + 1, z, hz => by
    rw [lowK_step, mem_putL] at hz
    rcases hz with hz | rfl
    · exact lowK_all hp k z hz
    · exact cutAt_isP hp k
theorem lowK_len (p : List Int) : ∀ k, (lowK p k).length ≤ k
  | 0 => by simp [lowK]
  | k + 1 => by
    have h1 := lowK_len p k
    have h2 := (putL_len (lowK p k) (patL (cutAt p k))).2
    rw [lowK_step]; omega
def lowR (p : List Int) : List (List Int) := if isP p then lowK p p.length else []
theorem lowR_yes {p : List Int} (h : isP p = true) : lowR p = lowK p p.length := by unfold lowR; rw [if_pos h]
theorem lowR_no {p : List Int} (h : isP p = false) : lowR p = [] := by unfold lowR; rw [if_neg (by simp [h])]
end Go.Proofs.Ytcoegjhhhnfplaa


/-
  spec.PatternsIn, by its contract.
-/

namespace Go.Proofs.Ytcoegjhhhnfplaa
set_option maxRecDepth 100000
open Go.RowKit

/-- The numbers at those of the first k indices whose bit is set. -/
def subK (p : List Int) (s : Nat) : Nat → List Int
  | 0 => []
  | k + 1 => if s.testBit k then subK p s k ++ [at0 p k] else subK p s k
theorem subK_len (p : List Int) (s : Nat) : ∀ k, (subK p s k).length ≤ k
  | 0 => Nat.le_refl _
  | k + 1 => by
    have := subK_len p s k
    rw [subK]; split <;> simp <;> omega
/-- The patterns of length k of the first s sets of indices, in order. -/
def patK (p : List Int) (k : Int) : Nat → List (List Int)
  | 0 => []
  | s + 1 => if ((subK p s p.length).length : Int) = k then putL (patK p k s) (patL (subK p s p.length)) else patK p k s
def patsOK (p : List Int) (k : Int) : Bool := isP p && decide (0 ≤ k ∧ k ≤ (p.length : Int))
def patsR (p : List Int) (k : Int) : List (List Int) := if patsOK p k then patK p k (2 ^ p.length) else []

theorem bit_test (s k : Nat) (hs : s ≤ 256) : (bits .and .i64 ((s : Int) / 2 ^ k) 1 == 1) = s.testBit k := by
  have h0 : (s : Int) / 2 ^ k = ((s / 2 ^ k : Nat) : Int) := by push_cast; rfl
  have hle : s / 2 ^ k ≤ s := Nat.div_le_self _ _
  have h1 : bits .and .i64 ((s / 2 ^ k : Nat) : Int) 1 = ((s / 2 ^ k % 2 : Nat) : Int) := by
    have := bits_mask .i64 63 (by decide) (fun n h0 h1 => by rw [IntKind.wrap_i64]; omega) 1 (by decide) ((s / 2 ^ k : Nat) : Int) (Int.natCast_nonneg _) (Int.lt_of_le_of_lt (Int.ofNat_le.2 hle) (by omega))
    simpa using this
  rw [h0, h1, Nat.testBit_eq_decide_div_mod_eq]
  by_cases h : s / 2 ^ k % 2 = 1
  · rw [h]; rfl
  · have h2 : s / 2 ^ k % 2 = 0 := by omega
    rw [h2]; rfl
theorem patK_len (p : List Int) (k : Int) : ∀ s, (patK p k s).length ≤ s
  | 0 => Nat.le_refl _
  | s + 1 => by
    have h1 := patK_len p k s
    have h2 := (putL_len (patK p k s) (patL (subK p s p.length))).2
    rw [patK]; split <;> omega
theorem subK_sub (p : List Int) (s : Nat) : ∀ k, k ≤ p.length → (subK p s k).Sublist (p.take k)
  | 0, _ => by simp [subK]
  | k + 1, hk => by
    have ih := subK_sub p s k (by omega)
    rw [take_snoc_i (at0_some (show k < p.length by omega)), subK]
    split
    · exact ih.append (List.Sublist.refl _)
    · exact ih.trans (List.sublist_append_left _ _)
theorem subK_isP {p : List Int} (hp : isP p = true) (s : Nat) : isP (patL (subK p s p.length)) = true := by
  have h := subK_sub p s p.length (Nat.le_refl _)
  rw [List.take_length] at h
  rw [isP_pat]
  exact patOK_yes (Nat.le_trans h.length_le (isP_le hp)) ((isP_true.1 hp).2.2.sublist h)
theorem patK_all {p : List Int} (hp : isP p = true) (k : Int) : ∀ s, ∀ z ∈ patK p k s, isP z = true
  | 0, z, hz => by simp [patK] at hz
  | s + 1, z, hz => by
    rw [patK] at hz
    split at hz
    · rcases mem_putL.1 hz with hz | rfl
      · exact patK_all hp k s z hz
      · exact subK_isP hp s
    · exact patK_all hp k s z hz
theorem patK_yes {p : List Int} {k : Int} {s : Nat} (h : ((subK p s p.length).length : Int) = k) : patK p k (s + 1) = putL (patK p k s) (patL (subK p s p.length)) := by rw [patK, if_pos h]
theorem patK_no {p : List Int} {k : Int} {s : Nat} (h : ¬ ((subK p s p.length).length : Int) = k) : patK p k (s + 1) = patK p k s := by rw [patK, if_neg h]
theorem patsR_yes {p : List Int} {k : Int} (h : patsOK p k = true) : patsR p k = patK p k (2 ^ p.length) := by unfold patsR; rw [if_pos h]
theorem patsR_no {p : List Int} {k : Int} (h : patsOK p k = false) : patsR p k = [] := by unfold patsR; rw [if_neg (by simp [h])]

end Go.Proofs.Ytcoegjhhhnfplaa


/-
  PLAIN: the choices of places in order; occurrences are those whose pattern is right, patterns are the patterns of the choices. Nothing here speaks of the program.
-/

namespace Go.Proofs.Ytcoegjhhhnfplaa
set_option maxRecDepth 100000

/-- The choices of m more of the places 1 to n that begin with head. -/
def chL (n : Nat) : Nat → List Int → List (List Int)
  | 0, head => [head]
  | m + 1, head => (List.range (n - lastP head)).flatMap fun i => chL n m (head ++ [((lastP head + i + 1 : Nat) : Int)])
/-- .. of the first j of the next places. -/
def chK (n m : Nat) (head : List Int) (j : Nat) : List (List Int) := (List.range j).flatMap fun i => chL n m (head ++ [((lastP head + i + 1 : Nat) : Int)])
theorem chK_all (n m : Nat) (head : List Int) : chK n m head (n - lastP head) = chL n (m + 1) head := rfl
theorem chK_zero (n m : Nat) (head : List Int) : chK n m head 0 = [] := rfl
theorem chK_step (n m : Nat) (head : List Int) (j : Nat) : chK n m head (j + 1) = chK n m head j ++ chL n m (head ++ [((lastP head + j + 1 : Nat) : Int)]) := by
  unfold chK
  rw [List.range_succ, List.flatMap_append, List.flatMap_cons, List.flatMap_nil, List.append_nil]
theorem mem_chL {n : Nat} : ∀ (m : Nat) (head pl : List Int), PlOK n head → (pl ∈ chL n m head ↔ ∃ tl, pl = head ++ tl ∧ tl.length = m ∧ PlOK n pl)
  | 0, head, pl, h => by
    rw [chL, List.mem_singleton]
    constructor
    · rintro rfl
      exact ⟨[], by simp, rfl, h⟩
    · rintro ⟨tl, rfl, h1, _⟩
      rw [List.eq_nil_of_length_eq_zero h1, List.append_nil]
  | m + 1, head, pl, h => by
    have hle := lastP_le h
    rw [chL, List.mem_flatMap]
    constructor
    · rintro ⟨i, hi, hm⟩
      rw [List.mem_range] at hi
      have hh : PlOK n (head ++ [((lastP head + i + 1 : Nat) : Int)]) := PlOK.snoc.2 ⟨h, by omega, by omega⟩
      obtain ⟨tl, rfl, h1, h2⟩ := (mem_chL m _ pl hh).1 hm
      exact ⟨((lastP head + i + 1 : Nat) : Int) :: tl, by rw [List.append_assoc]; rfl, by simp [h1], h2⟩
    · rintro ⟨tl, rfl, h1, h2⟩
      match tl, h1 with
      | x :: tl, h1 =>
        have hx : PlOK n (head ++ [x]) := by
          have := h2.take (head.length + 1)
          rwa [show head ++ x :: tl = head ++ [x] ++ tl by simp, List.take_append_of_le_length (by simp), List.take_of_length_le (by simp)] at this
        obtain ⟨_, hx1, hx2⟩ := PlOK.snoc.1 hx
        have hxe : ((lastP head + (x.toNat - lastP head - 1) + 1 : Nat) : Int) = x := by omega
        refine ⟨x.toNat - lastP head - 1, List.mem_range.2 (by omega), ?_⟩
        rw [hxe, mem_chL m _ _ hx]
        exact ⟨tl, by simp, by simpa using h1, h2⟩
theorem chL_len {n : Nat} : ∀ (m : Nat) (head pl : List Int), pl ∈ chL n m head → pl.length = head.length + m
  | 0, head, pl, h => by rw [chL, List.mem_singleton] at h; subst h; rfl
  | m + 1, head, pl, h => by
    rw [chL, List.mem_flatMap] at h
    obtain ⟨i, _, h⟩ := h
    have := chL_len m _ pl h
    simp at this; omega
theorem chL_pre {n : Nat} : ∀ (m : Nat) (head pl : List Int), pl ∈ chL n m head → ∃ tl, pl = head ++ tl
  | 0, head, pl, h => by rw [chL, List.mem_singleton] at h; subst h; exact ⟨[], by simp⟩
  | m + 1, head, pl, h => by
    rw [chL, List.mem_flatMap] at h
    obtain ⟨i, _, h⟩ := h
    obtain ⟨tl, rfl⟩ := chL_pre m _ pl h
    exact ⟨_ :: tl, by simp; rfl⟩
theorem chL_asc {n : Nat} : ∀ (m : Nat) (head : List Int), Asc (chL n m head)
  | 0, head => by rw [chL]; exact List.pairwise_singleton _ _
  | m + 1, head => by
    rw [chL]
    unfold Asc
    rw [List.pairwise_flatMap]
    constructor
    · intro i _
      exact chL_asc m _
    · refine List.Pairwise.imp ?_ List.pairwise_lt_range
      intro i j hij x hx y hy
      have l1 := chL_len m _ x hx
      have l2 := chL_len m _ y hy
      obtain ⟨t, rfl⟩ := chL_pre m _ x hx
      obtain ⟨s, rfl⟩ := chL_pre m _ y hy
      simp only [List.length_append, List.length_singleton] at l1 l2
      rw [befL_eq (by simp; omega), List.append_assoc, List.append_assoc, lexL_app, List.singleton_append, List.singleton_append, lexL, if_neg (by omega)]
      simp; omega
/-- The choices of k of the places 1 to n. -/
def chR (n k : Nat) : List (List Int) := chL n k []
theorem mem_chR {n k : Nat} {pl : List Int} : pl ∈ chR n k ↔ pl.length = k ∧ PlOK n pl := by
  unfold chR
  rw [mem_chL k [] pl (PlOK.nil n)]
  constructor
  · rintro ⟨tl, rfl, h1, h2⟩; exact ⟨by simpa using h1, h2⟩
  · rintro ⟨h1, h2⟩; exact ⟨pl, rfl, h1, h2⟩
theorem chR_asc (n k : Nat) : Asc (chR n k) := chL_asc k []
/-- The pattern at places. -/
def patA (p pl : List Int) : List Int := patL (nums p pl)
theorem occ_filter {p q : List Int} (hp : isP p = true) (hq : isP q = true) : (chR p.length q.length).filter (fun pl => decide (patA p pl = q)) = occR p q := by
  refine asc_unique ((chR_asc _ _).sublist List.filter_sublist) (occ_asc p q) fun x => ?_
  rw [List.mem_filter, mem_chR, mem_occ, isOcc_iff]
  unfold patA
  simp only [decide_eq_true_eq, hp, hq, true_and]
  constructor
  · rintro ⟨⟨h1, h2⟩, h3⟩; exact ⟨h1, h2, h3⟩
  · rintro ⟨h1, h2, h3⟩; exact ⟨⟨h1, h2⟩, h3⟩

/-! patterns -/
theorem nums_sub {p : List Int} : ∀ {pl : List Int} {m : Nat}, PlOK m pl → m ≤ p.length → (nums p pl).Sublist (p.take m) := by
  intro pl m
  induction m generalizing pl with
  | zero =>
    intro h _
    cases pl with
    | nil => simp [nums]
    | cons a l => have := h.1 a (by simp); omega
  | succ m ih =>
    intro h hm
    by_cases h0 : pl = []
    · subst h0; simp [nums]
    · obtain ⟨l, x, rfl⟩ : ∃ l x, pl = l ++ [x] := ⟨pl.dropLast, pl.getLast h0, (List.dropLast_concat_getLast h0).symm⟩
      obtain ⟨h1, h2, h3⟩ := PlOK.snoc.1 h
      have hsub : ∀ (k : Nat), k ≤ m → (p.take k).Sublist (p.take m) := fun k hk => by
        have := List.take_sublist k (p.take m)
        rwa [List.take_take, Nat.min_eq_left hk] at this
      by_cases hx : x = ((m + 1 : Nat) : Int)
      · subst hx
        have hl : PlOK m l := ⟨fun y hy => ⟨(h1.1 y hy).1, by
          have hh := (List.pairwise_append.1 h.2).2.2 y hy ((m + 1 : Nat) : Int) (by simp)
          omega⟩, h1.2⟩
        rw [nums_snoc, take_snoc_i (at0_some (show m < p.length by omega))]
        exact (ih hl (by omega)).append (by rw [show (((m + 1 : Nat) : Int)).toNat - 1 = m by omega]; exact List.Sublist.refl _)
      · have hl : PlOK m (l ++ [x]) := PlOK.snoc.2 ⟨⟨fun y hy => ⟨(h1.1 y hy).1, by
          have hh := (List.pairwise_append.1 h.2).2.2 y hy x (by simp)
          omega⟩, h1.2⟩, h2, by omega⟩
        have := ih hl (by omega)
        have h5 := List.take_sublist m (p.take (m + 1))
        rw [List.take_take, Nat.min_eq_left (Nat.le_succ m)] at h5
        exact this.trans h5
theorem nums_sub' {p pl : List Int} (h : PlOK p.length pl) : (nums p pl).Sublist p := by
  have := nums_sub (p := p) h (Nat.le_refl _)
  rwa [List.take_length] at this
/-- The patterns of the choices are those of the parts of a length. -/
theorem mem_pats_ch {p x : List Int} {k : Nat} : x ∈ (chR p.length k).map (patA p) ↔ ∃ s, s.Sublist p ∧ s.length = k ∧ x = patL s := by
  rw [List.mem_map]
  constructor
  · rintro ⟨pl, h, rfl⟩
    rw [mem_chR] at h
    exact ⟨nums p pl, nums_sub' h.2, by rw [nums_length]; exact h.1, rfl⟩
  · rintro ⟨s, h1, h2, rfl⟩
    obtain ⟨pl, h3, rfl⟩ := places_of h1
    rw [nums_length] at h2
    exact ⟨pl, mem_chR.2 ⟨h2, h3⟩, rfl⟩
theorem subK_hi (p : List Int) {s t : Nat} : ∀ {k : Nat}, (∀ i, i < k → s.testBit i = t.testBit i) → subK p s k = subK p t k
  | 0, _ => rfl
  | k + 1, h => by
    rw [subK, subK, h k (by omega), subK_hi p (k := k) fun i hi => h i (by omega)]
/-- Every part is one of the parts that the bits tell. -/
theorem sub_bits {p : List Int} : ∀ (k : Nat) (s : List Int), k ≤ p.length → s.Sublist (p.take k) → ∃ t, t < 2 ^ k ∧ subK p t k = s
  | 0, s, _, h => ⟨0, by simp, by rw [List.take_zero] at h; rw [List.sublist_nil.1 h]; rfl⟩
  | k + 1, s, hk, h => by
    rw [take_snoc_i (at0_some (show k < p.length by omega)), List.sublist_append_iff] at h
    obtain ⟨a, b, rfl, h1, h2⟩ := h
    obtain ⟨t, ht, rfl⟩ := sub_bits k a (by omega) h1
    have hpow : 2 ^ (k + 1) = 2 ^ k + 2 ^ k := by rw [Nat.pow_succ]; omega
    cases b with
    | nil =>
      refine ⟨t, by omega, ?_⟩
      rw [subK, Nat.testBit_lt_two_pow ht, List.append_nil]
      rfl
    | cons y b =>
      have hb : y :: b = [at0 p k] := by
        have := h2.length_le
        cases b with
        | nil => have := h2.subset (List.mem_singleton.2 rfl); simp at this; rw [this]
        | cons z b => simp at this
      rw [hb]
      refine ⟨2 ^ k + t, by omega, ?_⟩
      rw [subK, Nat.testBit_two_pow_add_eq, Nat.testBit_lt_two_pow ht]
      rw [subK_hi p (s := 2 ^ k + t) (t := t) fun i hi => Nat.testBit_two_pow_add_gt hi t]
      rfl
theorem mem_patK {p : List Int} {k : Int} : ∀ {s : Nat} {x : List Int}, x ∈ patK p k s ↔ ∃ t, t < s ∧ ((subK p t p.length).length : Int) = k ∧ x = patL (subK p t p.length)
  | 0, x => by simp [patK]
  | s + 1, x => by
    have ih := mem_patK (p := p) (k := k) (s := s) (x := x)
    constructor
    · intro h
      by_cases hk : ((subK p s p.length).length : Int) = k
      · rw [patK_yes hk, mem_putL] at h
        rcases h with h | rfl
        · obtain ⟨t, h1, h2⟩ := ih.1 h; exact ⟨t, by omega, h2⟩
        · exact ⟨s, by omega, hk, rfl⟩
      · rw [patK_no hk] at h
        obtain ⟨t, h1, h2⟩ := ih.1 h; exact ⟨t, by omega, h2⟩
    · rintro ⟨t, h1, h2, h3⟩
      by_cases hk : ((subK p s p.length).length : Int) = k
      · rw [patK_yes hk, mem_putL]
        by_cases hts : t = s
        · subst hts; exact .inr h3
        · exact .inl (ih.2 ⟨t, by omega, h2, h3⟩)
      · rw [patK_no hk]
        have hts : t ≠ s := fun e => hk (by rw [← e]; exact h2)
        exact ih.2 ⟨t, by omega, h2, h3⟩
theorem patK_asc (p : List Int) (k : Int) : ∀ s, Asc (patK p k s)
  | 0 => List.Pairwise.nil
  | s + 1 => by
    rw [patK]
    split
    · exact asc_putL (patK_asc p k s)
    · exact patK_asc p k s
theorem patsOK_nat {p : List Int} {k : Nat} (hp : isP p = true) (hk : k ≤ p.length) : patsOK p (k : Int) = true := by
  unfold patsOK
  rw [hp, Bool.true_and, decide_eq_true_eq]
  omega
theorem mem_patsR {p x : List Int} {k : Nat} (hp : isP p = true) (hk : k ≤ p.length) : x ∈ patsR p (k : Int) ↔ ∃ s, s.Sublist p ∧ s.length = k ∧ x = patL s := by
  rw [patsR_yes (patsOK_nat hp hk), mem_patK]
  constructor
  · rintro ⟨t, _, h2, h3⟩
    have h := subK_sub p t p.length (Nat.le_refl _)
    rw [List.take_length] at h
    exact ⟨_, h, by omega, h3⟩
  · rintro ⟨s, h1, h2, h3⟩
    obtain ⟨t, ht, h4⟩ := sub_bits p.length s (Nat.le_refl _) (by rw [List.take_length]; exact h1)
    exact ⟨t, ht, by rw [h4]; omega, by rw [h4]; exact h3⟩
theorem patsR_asc (p : List Int) (k : Int) : Asc (patsR p k) := by
  unfold patsR
  split
  · exact patK_asc p k _
  · exact List.Pairwise.nil
theorem pats_ordL {p : List Int} {k : Nat} (hp : isP p = true) (hk : k ≤ p.length) : ordL ((chR p.length k).map (patA p)) ((chR p.length k).map (patA p)).length = patsR p (k : Int) := by
  refine asc_unique (ordL_asc _ _) (patsR_asc _ _) fun x => ?_
  rw [ordL_mem, List.take_length, mem_pats_ch, mem_patsR hp hk]
theorem pats_allP {p : List Int} {k : Nat} (hp : isP p = true) : allP ((chR p.length k).map (patA p)) = true := by
  unfold allP
  rw [List.all_eq_true]
  intro x hx
  obtain ⟨s, h1, _, rfl⟩ := mem_pats_ch.1 hx
  rw [isP_pat]
  exact patOK_yes (Nat.le_trans h1.length_le (isP_le hp)) ((isP_true.1 hp).2.2.sublist h1)
theorem pats_ordR {p : List Int} {k : Nat} (hp : isP p = true) (hk : k ≤ p.length) : ordR ((chR p.length k).map (patA p)) = patsR p (k : Int) := by
  rw [ordR_yes (pats_allP hp), pats_ordL hp hk]

/-! leaving one out -/
theorem sub_cut {s p : List Int} (h : s.Sublist p) : s.length + 1 = p.length → ∃ i, i < p.length ∧ s = cutAt p i := by
  induction h with
  | slnil => intro h; simp at h
  | cons a h ih =>
    intro hl
    simp only [List.length_cons, Nat.add_right_cancel_iff] at hl
    exact ⟨0, by simp, by rw [h.eq_of_length hl]; simp [cutAt]⟩
  | cons_cons a h ih =>
    intro hl
    simp only [List.length_cons, Nat.add_right_cancel_iff] at hl
    obtain ⟨i, hi, rfl⟩ := ih hl
    exact ⟨i + 1, by simpa using hi, by simp [cutAt]⟩
theorem lowK_mem {p x : List Int} {k : Nat} : x ∈ lowK p k ↔ ∃ i, i < k ∧ x = patL (cutAt p i) := by
  unfold lowK
  rw [(foldl_put _ [] List.Pairwise.nil).2.1]
  simp only [List.not_mem_nil, false_or, List.mem_map, List.mem_range]
  exact ⟨fun ⟨i, h1, h2⟩ => ⟨i, h1, h2.symm⟩, fun ⟨i, h1, h2⟩ => ⟨i, h1, h2.symm⟩⟩
theorem lowK_asc (p : List Int) (k : Nat) : Asc (lowK p k) := (foldl_put _ [] List.Pairwise.nil).1
theorem pats_low (p : List Int) : patsR p ((p.length : Int) - 1) = lowR p := by
  cases hp : isP p with
  | false => rw [lowR_no hp, patsR_no (by unfold patsOK; rw [hp]; rfl)]
  | true =>
    rw [lowR_yes hp]
    by_cases h0 : p.length = 0
    · rw [h0, patsR_no (by unfold patsOK; rw [hp, h0]; rfl)]; rfl
    · obtain ⟨m, hm⟩ : ∃ m, p.length = m + 1 := ⟨p.length - 1, by omega⟩
      rw [show ((p.length : Int) - 1) = (m : Int) by omega]
      refine asc_unique (patsR_asc _ _) (lowK_asc _ _) fun x => ?_
      rw [mem_patsR hp (by omega), lowK_mem]
      constructor
      · rintro ⟨s, h1, h2, rfl⟩
        obtain ⟨i, hi, rfl⟩ := sub_cut h1 (by omega)
        exact ⟨i, hi, rfl⟩
      · rintro ⟨i, hi, rfl⟩
        exact ⟨_, cutAt_sub p i, by have := cutAt_len hi; omega, rfl⟩
end Go.Proofs.Ytcoegjhhhnfplaa
