/-
  Words and contracts that the laws lean on, bundled: Blk, Asc, ArrEq, IsPerm, Same, Cmp, Put, Rev, OccS.
-/
import Derived.Test.YtplchjeamooliaaDoorB2
import Derived.Laws.Rows
import Derived.Test.YtplchjeamooliaaDoorProg
import Derived.Test.YtplchjeamooliaaDoorB1
import Derived.Laws.Tables
import Derived.Laws.StructEq
import Derived.Deep.RegionHeld3
import Derived.Sort.Grow
import Derived.Outline
import Derived.Lib.SliceRun

/-
  A block known whole (its cells, its type, nothing frozen); arrays of eight integers as values.
-/

namespace Go.Proofs.YtplchjeamooliaaDoor
set_option maxRecDepth 100000
open Go.RowKit

/-- Block g holds these cells of this type, and none is frozen. -/
def Whole (w : World) (g : Nat) (t : TypeId) (cs : Array Value) : Prop := w.heap[g]? = some (.cells cs t (0, 0))
section
variable {w w' : World} {g : Nat} {t : TypeId} {cs : Array Value}
theorem Whole.lt (h : Whole w g t cs) : g < w.heap.size := by
  unfold Whole at h
  exact (Array.getElem?_eq_some_iff.1 h).1
theorem Whole.cell (h : Whole w g t cs) (i : Nat) : w.cell? ⟨g, i, none⟩ = cs[i]? := cell_of_row w g i cs t (0, 0) h
theorem Whole.frozen (h : Whole w g t cs) (i : Nat) : w.frozen? ⟨g, i, none⟩ = false := by
  unfold Whole at h
  simp [World.frozen?, h]
theorem Whole.new (w : World) (t : TypeId) (cs : Array Value) : Whole (w.alloc (.cells cs t)) w.heap.size t cs := heap_alloc_new w _
theorem Whole.drewN (h : Whole w g t cs) (n : Nat) : Whole (w.drewN n) g t cs := h
theorem Whole.alloc (h : Whole w g t cs) (o : Obj) : Whole (w.alloc o) g t cs := (Below.heap_alloc w o g h.lt).trans h
theorem Whole.put (h : Whole w g t cs) (i : Nat) (u : Value) : Whole (w.setCell ⟨g, i, none⟩ u) g t (cs.setIfInBounds i u) := by
  unfold Whole at h ⊢
  simp [World.setCell, Array.getElem?_modify, h]
theorem Whole.far (h : Whole w g t cs) {p : Addr} (hp : g ≠ p.block) (u : Value) : Whole (w.setCell p u) g t cs := (Below.heap_setCell w p u g hp).trans h
theorem Whole.below {B : Nat} (h : Whole w g t cs) (hb : Below B w w') (hg : g < B) : Whole w' g t cs := (hb.block g hg).trans h
theorem Whole.grown {row : Option Nat} (h : Whole w g t cs) (hb : w.grownBy w' row) (hg : some g ≠ row) : Whole w' g t cs := (hb.block g h.lt hg).trans h
end
theorem below_drew (B : Nat) (w : World) : Below B w w.drew := ⟨rfl, rfl, rfl, Nat.le_refl _, fun _ _ => rfl⟩
/-- An array's cells. -/
def arr (l : List Int) : Array Value := (i64s l).toArray
theorem arr_at {l : List Int} {k : Nat} {z : Int} (h : l[k]? = some z) : (arr l)[k]? = some (.int .i64 z) := by unfold arr; rw [List.getElem?_toArray]; exact i64_get h
theorem arr_set (l : List Int) (k : Nat) (z : Int) : (arr l).setIfInBounds k (.int .i64 z) = arr (l.set k z) := by
  unfold arr i64s
  rw [List.setIfInBounds_toArray, List.map_set]
theorem arr_size (l : List Int) : (arr l).size = l.length := by unfold arr; rw [List.size_toArray, i64_length]
end Go.Proofs.YtplchjeamooliaaDoor


/-
  impl.ascendingArray, by its contract.
-/

namespace Go.Proofs.YtplchjeamooliaaDoor
set_option maxRecDepth 100000
open Go.RowKit

theorem permInfo : (Tryd.prog.info? 46).map (·.size) = some 8 := by kernel_rfl
theorem arr_one (l : List Int) : (arr l).all (·.oneCell') = true := by
  unfold arr i64s
  simp only [List.all_toArray, List.all_map, List.all_eq_true]
  intro z _
  rfl
theorem zeros_asc : (#[Value.int .i64 0, Value.int .i64 0, Value.int .i64 0, Value.int .i64 0, Value.int .i64 0, Value.int .i64 0, Value.int .i64 0, Value.int .i64 0] : Array Value) = arr (ascL 0) := by rw [ascL_zero]; rfl
theorem below_set_row {B : Nat} {w w' : World} (hb : Below B w w') (g : Nat) (cs : Array Value) (hg : B ≤ g) : Below B w (w'.setRow g cs) :=
  hb.trans ⟨rfl, rfl, rfl, by simp [World.setRow], fun k hk => setRow_other w' g k cs (by omega)⟩

set_option maxHeartbeats 400000 in
theorem asc_any (n : Nat) (hn : n ≤ 8) (w : World) :
    Calls Tryd.prog 30 #[.int .i64 n] w fun e w' => e = .returned (.agg (arr (ascL n))) ∧ Below w.heap.size w w' := by
  go_enter Tryd.func30, Tryd.ntmps30
  go_wp2
  rw [zeros_asc]
  go_loopw [4, 6] (fun _ i wr => ∃ k : Nat, k ≤ n ∧ i = .int .i64 k ∧ Below w.heap.size w wr ∧ Whole wr w.heap.size 46 (arr (ascL 0)) ∧ Whole wr (w.heap.size + 1) 46 (arr (ascL k))) (fun _ i _ => n - (intOf i).toNat)
  case atStart =>
    have h1 := Whole.new w 46 (arr (ascL 0))
    have h2 := Whole.new (w.alloc (.cells (arr (ascL 0)) 46)) 46 (arr (ascL 0))
    rw [show (w.alloc (.cells (arr (ascL 0)) 46)).heap.size = w.heap.size + 1 by simp] at h2
    exact ⟨0, Nat.zero_le _, rfl, ((Below.refl _ _).alloc (Nat.le_refl _) _).alloc (by simp) _, h1.alloc _, h2⟩
  case round =>
    obtain ⟨k, hk, rfl, hb, hw0, hw1⟩ := hrel
    by_cases hlt : k < n
    · have hk8 : k < 8 := by omega
      obtain ⟨old, hold⟩ : ∃ old, wr.cell? ⟨w.heap.size + 1, k, none⟩ = some old := by
        rw [hw1.cell]
        exact ⟨_, Array.getElem?_eq_getElem (by rw [arr_size, ascL_length]; exact hk8)⟩
      have hfz := hw1.frozen k
      have n1 := hw1.put k (.int .i64 ((k : Int) + 1))
      rw [arr_set, ascL_step] at n1
      have n0 := hw0.far (p := ⟨w.heap.size + 1, k, none⟩) (by simp) (.int .i64 ((k : Int) + 1))
      have nb := hb.setCell (p := ⟨w.heap.size + 1, k, none⟩) (by simp) (.int .i64 ((k : Int) + 1))
      clear hw0 hw1 hb
      go_wp2
      go_roundw
      case rel => exact ⟨k + 1, by omega, by go_num, nb, n0, n1⟩
      case measure => simp [intOf]; omega
    · obtain rfl : n = k := by omega
      go_wp2_with (first
        | (refine wpList_load_row rfl 46 (.tmp 3) rfl (w.heap.size + 1) rfl 46 (arr (ascL n)) (0, 0) _ hw1 Tryd.underlying46 rfl (by rw [arr_size, ascL_length]; exact permInfo) ?_)
        | (refine wpList_store_row rfl 46 (.tmp 2) (.tmp 14) rfl w.heap.size (arr (ascL n)) rfl rfl 46 (arr (ascL 0)) hw0 (by rw [arr_size, ascL_length]; exact permInfo) (by rw [arr_size, arr_size, ascL_length, ascL_length]) (arr_one _) ?_))
      refine bodyPost_ret (v := .agg (arr (ascL n))) (results_cell_row Tryd.results30 _ _ w.heap.size 46 (arr (ascL n)) (0, 0) _ rfl (setRow_heap _ _ _ _ _ _ hw0) Tryd.underlying46 rfl (by rw [arr_size, ascL_length]; exact permInfo)) rfl ?_
      exact ⟨rfl, below_set_row hb _ _ (Nat.le_refl _)⟩
end Go.Proofs.YtplchjeamooliaaDoor


/-
  PLAIN: arrays of integers compared.
-/

namespace Go.Proofs.YtplchjeamooliaaDoor
set_option maxRecDepth 100000
open Go.RowKit

theorem all_at_eq : ∀ (xs ys : List Int), xs.length = ys.length → ((List.range xs.length).all fun i => xs.getD i 0 == ys.getD i 0) = (xs == ys)
  | [], [], _ => rfl
  | x :: xs, y :: ys, h => by
    have ih := all_at_eq xs ys (by simpa using h)
    rw [List.length_cons, List.range_succ_eq_map, List.all_cons, List.all_map]
    simp only [List.getD_cons_zero, Function.comp_def, List.getD_cons_succ, ih]
    simp [List.cons_beq_cons]
  | [], _ :: _, h => by simp at h
  | _ :: _, [], h => by simp at h

theorem run_equalIn_ints {P : Program} (w : World) (d : Nat) (t e : TypeId) (n : Nat) (ht : P.underlying t = some (.array n e)) (he : P.underlying e = some (.int .i64)) (hsz : ∀ w, (sizeOf e).run P w = .ok 1 w)
    (xs ys : List Int) (hx : xs.length = n) (hy : ys.length = n) :
    (Op.equalIn (d + 2) t (.agg (arr xs)) (.agg (arr ys))).run P w = .ok (xs == ys) w := by
  unfold arr i64s
  rw [← all_at_eq xs ys (hx.trans hy.symm), hx, List.range_eq_range', Op.equalIn]
  simp only [Sem.run_bind, run_underlying ht, Result.andThen_ok, hsz, Std.Legacy.Range.forIn_eq_forIn_range', Std.Legacy.Range.size, Nat.sub_zero, Nat.add_sub_cancel, Nat.div_one]
  have hl : ∀ i ∈ List.range' 0 n 1, i < n := fun i hi => by simpa using (List.mem_range'_1.1 hi).2
  generalize List.range' 0 n 1 = l at hl ⊢
  induction l with
  | nil => simp
  | cons i l ih =>
    have hi : i < n := hl i (by simp)
    have px : (part e (xs.map (Value.int .i64)).toArray (i * 1)).run P w = .ok (.int .i64 (xs.getD i 0)) w := by
      simp [part, isAgg, run_underlying he, List.getD, List.getElem?_eq_getElem (show i < xs.length by omega)]
    have py : (part e (ys.map (Value.int .i64)).toArray (i * 1)).run P w = .ok (.int .i64 (ys.getD i 0)) w := by
      simp [part, isAgg, run_underlying he, List.getD, List.getElem?_eq_getElem (show i < ys.length by omega)]
    have pe : (Op.equalIn (d + 1) e (.int .i64 (xs.getD i 0)) (.int .i64 (ys.getD i 0))).run P w = .ok (xs.getD i 0 == ys.getD i 0) w := by
      rw [run_equalIn_int w d e .i64 .i64 _ _ he]
    simp only [List.forIn_cons, Sem.run_bind, px, py, pe, Result.andThen_ok, List.all_cons]
    cases hb : (xs.getD i 0 == ys.getD i 0)
    · simp
    · simp only [Bool.not_true, Bool.false_eq_true, if_false, Sem.run_pure, Result.andThen_ok, Bool.true_and]
      exact ih fun j hj => hl j (by simp [hj])
theorem list8 {l : List Int} (h : l.length = 8) : ∃ x0 x1 x2 x3 x4 x5 x6 x7, l = [x0, x1, x2, x3, x4, x5, x6, x7] := by
  match l, h with
  | [x0, x1, x2, x3, x4, x5, x6, x7], _ => exact ⟨x0, x1, x2, x3, x4, x5, x6, x7, rfl⟩
end Go.Proofs.YtplchjeamooliaaDoor


/-
  impl.IsPerm, by its contract.
-/

namespace Go.Proofs.YtplchjeamooliaaDoor
set_option maxRecDepth 100000
open Go.RowKit

theorem sizeInt (w : World) : (sizeOf 3).run Tryd.prog w = .ok 1 w := by kernel_rfl
theorem permEq (w : World) (xs ys : List Int) (hx : xs.length = 8) (hy : ys.length = 8) : (Op.equalIn 10000 46 (.agg (arr xs)) (.agg (arr ys))).run Tryd.prog w = .ok (xs == ys) w :=
  run_equalIn_ints w 9998 46 3 8 Tryd.underlying46 Tryd.underlying3 sizeInt xs ys hx hy

theorem range_snoc {zs : List Int} {k : Nat} {z m : Int} (hz : zs[k]? = some z) (h1 : 1 ≤ z) (h2 : z ≤ m) (h : ∀ x ∈ zs.take k, 1 ≤ x ∧ x ≤ m) : ∀ x ∈ zs.take (k + 1), 1 ≤ x ∧ x ≤ m := by
  rw [take_snoc_i hz]
  intro x hx
  rcases List.mem_append.1 hx with hx | hx
  · exact h x hx
  · rw [List.mem_singleton] at hx
    subst hx
    exact ⟨h1, h2⟩

set_option maxHeartbeats 800000 in
theorem iisperm_any (A : Option Addr) (n c B : Nat) (zs : List Int) (b : Bool) (hb : isP zs = b) (w : World) (hr : Reads w B A n (i64s zs)) (hB : B ≤ w.heap.size) (hn : n ≤ 1048576) (hz : Small zs) :
    Calls Tryd.prog 22 #[.slice A n c] w fun e w' => e = .returned (.bool b) ∧ Below w.heap.size w w' := by
  have HB := hide hb
  clear hb
  have hl : zs.length = n := by have := hr.1; rwa [i64_length] at this
  by_cases h8 : n ≤ 8
  · have HL := hide hl
    clear hl
    have h8b : decide ((8 : Int) < (n : Int)) = false := by simp; omega
    go_enter Tryd.func22, Tryd.ntmps22
    go_wp2
    rw [zeros_asc]
    go_loopw [5, 11] (fun _ i wr => ∃ k : Nat, k ≤ n ∧ i = .int .i64 k ∧ Below w.heap.size w wr ∧ Whole wr w.heap.size 46 (arr (fnd (zs.take k))) ∧ Hid (∀ x ∈ zs.take k, 1 ≤ x ∧ x ≤ (n : Int))) (fun _ i _ => n - (intOf i).toNat)
    case atStart =>
      refine ⟨0, Nat.zero_le _, rfl, (Below.refl _ _).alloc (Nat.le_refl _) _, ?_, by exact (by simp : ∀ x ∈ zs.take 0, 1 ≤ x ∧ x ≤ (n : Int))⟩
      have h1 := Whole.new w 46 (arr (ascL 0))
      rw [ascL_zero] at h1 ⊢
      rw [List.take_zero, fnd_nil]
      exact h1
    case round =>
      obtain ⟨k, hk, rfl, hbw, hw0, hs⟩ := hrel
      by_cases hlt : k < n
      · obtain ⟨ad, u, rfl, had, hu, hcell⟩ := ((hr.more hB).below hbw).at_ hlt
        obtain ⟨z, hz, rfl⟩ := i64_at hu
        clear hu
        have hzs := ‹Small zs› z (List.mem_of_getElem? hz)
        obtain ⟨hzl, hzu⟩ := hzs
        have HZ := hide hz
        clear hz
        by_cases h1 : 1 ≤ z
        · by_cases h2 : z ≤ (n : Int)
          · have hz8 : z.toNat - 1 < 8 := by omega
            have h1' : ¬ z < 1 := by omega
            have h2' : ¬ (n : Int) < z := by omega
            obtain ⟨old, hold⟩ : ∃ old, wr.cell? ⟨w.heap.size, z.toNat - 1, none⟩ = some old := by
              rw [hw0.cell]
              exact ⟨_, Array.getElem?_eq_getElem (by rw [arr_size, fnd_length]; exact hz8)⟩
            have hfz := hw0.frozen (z.toNat - 1)
            have n0 := hw0.put (z.toNat - 1) (.int .i64 z)
            rw [arr_set, show z.toNat - 1 = (z - 1).toNat by omega, fnd_step h1 (by omega), ← take_snoc_i (unhide HZ), show (z - 1).toNat = z.toNat - 1 by omega] at n0
            have nb := hbw.setCell (p := ⟨w.heap.size, z.toNat - 1, none⟩) (Nat.le_refl _) (.int .i64 z)
            have hs' := hide (range_snoc (unhide HZ) h1 h2 (unhide hs))
            clear hw0 hbw hs
            go_wp2
            go_roundw
            case rel => exact ⟨k + 1, by omega, by go_num, nb, n0, hs'⟩
            case measure => simp [intOf]; omega
          · obtain rfl : b = false := (unhide HB).symm.trans (isP_no_range (unhide HZ) (by rw [unhide HL]; omega))
            have h1' : ¬ z < 1 := by omega
            have h2' : (n : Int) < z := by omega
            clear HB
            go_wp2
            go_ret
            exact ⟨rfl, hbw⟩
        · obtain rfl : b = false := (unhide HB).symm.trans (isP_no_range (unhide HZ) (by omega))
          have h1' : z < 1 := by omega
          clear HB
          go_wp2
          go_ret
          exact ⟨rfl, hbw⟩
      · obtain rfl : n = k := by omega
        have htk : zs.take n = zs := List.take_of_length_le (by rw [unhide HL]; exact Nat.le_refl _)
        rw [htk] at hw0 hs
        have heq := fun w => permEq w (fnd zs) (ascL n) (fnd_length _) (ascL_length _)
        have hfa := fnd_asc (l := zs) (by rw [unhide HL]; exact h8) (by rw [unhide HL]; exact unhide hs)
        rw [unhide HL] at hfa
        rw [hfa, unhide HB] at heq
        clear hfa htk hs HB HL h8b hk hlt hr
        obtain ⟨x0, x1, x2, x3, x4, x5, x6, x7, hx⟩ := list8 (fnd_length zs)
        rw [hx] at hw0 heq
        clear hx
        have k0 := hw0.cell 0
        have k1 := hw0.cell 1
        have k2 := hw0.cell 2
        have k3 := hw0.cell 3
        have k4 := hw0.cell 4
        have k5 := hw0.cell 5
        have k6 := hw0.cell 6
        have k7 := hw0.cell 7
        have hg := hw0.lt
        clear hw0
        have heq2 : ∀ w, (Op.equalIn 10000 46 (.agg #[.int .i64 x0, .int .i64 x1, .int .i64 x2, .int .i64 x3, .int .i64 x4, .int .i64 x5, .int .i64 x6, .int .i64 x7]) (.agg (arr (ascL n)))).run Tryd.prog w = .ok b w := heq
        clear heq
        simp only [arr, i64s, List.map_cons, List.map_nil] at k0 k1 k2 k3 k4 k5 k6 k7
        go_wp2
        go_region_held3 (fun w' => w'.cell? ⟨w.heap.size, 0, none⟩ = some (.int .i64 x0) ∧ w'.cell? ⟨w.heap.size, 1, none⟩ = some (.int .i64 x1) ∧ w'.cell? ⟨w.heap.size, 2, none⟩ = some (.int .i64 x2) ∧ w'.cell? ⟨w.heap.size, 3, none⟩ = some (.int .i64 x3) ∧
            w'.cell? ⟨w.heap.size, 4, none⟩ = some (.int .i64 x4) ∧ w'.cell? ⟨w.heap.size, 5, none⟩ = some (.int .i64 x5) ∧ w'.cell? ⟨w.heap.size, 6, none⟩ = some (.int .i64 x6) ∧ w'.cell? ⟨w.heap.size, 7, none⟩ = some (.int .i64 x7))
          (first
            | go_keep
            | exact ⟨(hb1.cell hg).trans k0, (hb1.cell hg).trans k1, (hb1.cell hg).trans k2, (hb1.cell hg).trans k3, (hb1.cell hg).trans k4, (hb1.cell hg).trans k5, (hb1.cell hg).trans k6, (hb1.cell hg).trans k7⟩)
          (first | (go_at_call 30; refine (asc_any n h8 _).mono ?_; rintro e w1 ⟨rfl, hb1⟩))
        go_wp2
        go_ret
        exact ⟨rfl, hbw.trans ((below_drew _ wr).trans (hb1.mono hbw.size))⟩
  · obtain rfl : b = false := (unhide HB).symm.trans (isP_long (by omega))
    clear HB hl
    have h8' : 8 < n := by omega
    go_enter Tryd.func22, Tryd.ntmps22
    go_wp2
    go_ret
    exact ⟨rfl, Below.refl _ _⟩
end Go.Proofs.YtplchjeamooliaaDoor


/-
  spec.l2Same, slices.Equal, spec.IsInvolution, impl.IsInvolution, impl.inverseOf, by their contracts.
-/

namespace Go.Proofs.YtplchjeamooliaaDoor
set_option maxRecDepth 100000
open Go.RowKit

theorem same_ne {p q : List Int} {k : Nat} {x y : Int} (hx : p[k]? = some x) (hy : q[k]? = some y) (h : x ≠ y) : decide (p = q) = false := by
  rw [decide_eq_false_iff_not]
  rintro rfl
  rw [hx] at hy
  exact h (Option.some.inj hy)
theorem same_len {p q : List Int} (h : p.length ≠ q.length) : decide (p = q) = false := by
  rw [decide_eq_false_iff_not]
  rintro rfl
  exact h rfl
theorem same_end {p q : List Int} {n : Nat} (h : p.take n = q.take n) (hp : p.length = n) (hq : q.length = n) : decide (p = q) = true := by
  rw [List.take_of_length_le (by omega), List.take_of_length_le (by omega)] at h
  simp [h]
set_option maxHeartbeats 400000 in
theorem eqsl_any (A A' : Option Addr) (n c B n' c' B' : Nat) (p q : List Int) (b : Bool) (hb : decide (p = q) = b) (w : World) (h : Arg w B A n c p) (h' : Arg w B' A' n' c' q) :
    Calls Tryd.prog 25 #[.slice A n c, .slice A' n' c'] w fun e w' => e = .returned (.bool b) ∧ Drew w w' := by
  have hl := h.len
  have hl' := h'.len
  have hn := h.le
  have hn' := h'.le
  have hr := h.reads
  have hr' := h'.reads
  clear h h'
  by_cases he : n = n'
  · subst he
    have HB := hide hb
    have HL := hide hl
    have HL' := hide hl'
    clear hb hl hl'
    go_enter Tryd.func25, Tryd.ntmps25
    go_wp2
    go_loopw [5, 13] (fun _ i wr => ∃ k : Nat, k ≤ n ∧ i = .int .i64 k ∧ Drew w wr ∧ Hid (p.take k = q.take k)) (fun _ i _ => n - (intOf i).toNat)
    case atStart => exact ⟨0, Nat.zero_le _, rfl, Drew.refl _, by exact (rfl : p.take 0 = q.take 0)⟩
    case round =>
      obtain ⟨k, hk, rfl, hd, hs⟩ := hrel
      by_cases hlt : k < n
      · obtain ⟨ad, u, rfl, _, hu, hc⟩ := (hr.ofDrew hd).at_ hlt
        obtain ⟨ad', u', rfl, _, hu', hc'⟩ := (hr'.ofDrew hd).at_ hlt
        obtain ⟨x, hx, rfl⟩ := i64_at hu
        obtain ⟨y, hy, rfl⟩ := i64_at hu'
        have HD := hide hd
        clear hu hu' hr hr' hd
        by_cases hxy : x = y
        · subst hxy
          have hnext := hide (take_same_step (unhide hs) hx hy)
          clear hx hy hs
          go_wp2
          go_quiet (fail)
          go_wp2
          go_roundw
          case rel => exact ⟨k + 1, by omega, by go_num, (unhide HD).more _, hnext⟩
          case measure => simp [intOf]; omega
        · obtain rfl : b = false := (unhide HB).symm.trans (same_ne hx hy hxy)
          have hne : (x == y) = false := by simpa using hxy
          clear hx hy hs HB hxy
          go_wp2
          go_quiet (fail)
          go_wp2
          go_ret
          exact ⟨rfl, (unhide HD).more _⟩
      · obtain rfl : n = k := by omega
        obtain rfl : b = true := (unhide HB).symm.trans (same_end (unhide hs) (unhide HL) (unhide HL'))
        clear HB hs
        go_wp2
        go_ret
        exact ⟨rfl, hd⟩
  · obtain rfl : b = false := hb.symm.trans (same_len (by omega))
    have hne : ((n : Int) == (n' : Int)) = false := by simp; omega
    clear hb hl hl' hr hr'
    go_enter Tryd.func25, Tryd.ntmps25
    go_wp2
    go_ret
    exact ⟨rfl, Drew.refl _⟩
theorem isP_small {p : List Int} (h : isP p = true) : Small p := fun z hz => by
  have h1 := (isP_true.1 h).2.1 z hz
  have h2 := isP_le h
  omega
theorem Ints.argP {w : World} {B n c : Nat} {A : Option Addr} {zs : List Int} (h : Ints w B (.slice A n c) zs) (hp : isP zs = true) : Arg w w.heap.size A n c zs :=
  h.arg (by have := isP_le hp; have := h.len; omega) h.cap (isP_small hp)
end Go.Proofs.YtplchjeamooliaaDoor


/-
  spec.l2Before, spec.l2Same; cmp.Compare, slices.Compare, cmp.Or, slices.Equal and impl.comparePerms, by their contracts.
-/

namespace Go.Proofs.YtplchjeamooliaaDoor
set_option maxRecDepth 100000
open Go.RowKit

/-! plain -/
/-- slices.Compare's answer. -/
def lexV : List Int → List Int → Int
  | [], [] => 0
  | [], _ :: _ => -1
  | _ :: _, [] => 1
  | x :: xs, y :: ys => if x = y then lexV xs ys else if x < y then -1 else 1
theorem lexV_at : ∀ {p q : List Int} {k : Nat} {x y : Int}, p.take k = q.take k → p[k]? = some x → q[k]? = some y → x ≠ y → lexV p q = if x < y then -1 else 1
  | a :: p, b :: q, 0, x, y, _, hx, hy, hne => by
    simp at hx hy
    subst hx; subst hy
    rw [lexV, if_neg hne]
  | a :: p, b :: q, k + 1, x, y, h, hx, hy, hne => by
    simp at h
    obtain ⟨rfl, h⟩ := h
    rw [lexV, if_pos rfl]
    exact lexV_at h (by simpa using hx) (by simpa using hy) hne
  | [], _, k, _, _, _, hx, _, _ => by simp at hx
  | _ :: _, [], k, _, _, _, _, hy, _ => by simp at hy
theorem lexV_end : ∀ {p q : List Int} {k : Nat}, p.take k = q.take k → (k = p.length ∨ k = q.length) → k ≤ p.length → k ≤ q.length → lexV p q = if p.length < q.length then -1 else if q.length < p.length then 1 else 0
  | [], [], _, _, _, _, _ => by simp [lexV]
  | [], y :: q, _, _, _, _, _ => by simp [lexV]
  | x :: p, [], _, _, _, _, _ => by simp [lexV]
  | x :: p, y :: q, 0, _, h, _, _ => by simp at h
  | x :: p, y :: q, k + 1, h, hk, h1, h2 => by
    simp at h
    obtain ⟨rfl, h⟩ := h
    rw [lexV, if_pos rfl, lexV_end h (by simpa using hk) (by simpa using h1) (by simpa using h2)]
    simp
theorem lexV_lexL : ∀ {p q : List Int}, p.length = q.length → decide (lexV p q < 0) = lexL p q
  | [], [], _ => rfl
  | [], _ :: _, h => by simp at h
  | _ :: _, [], h => by simp at h
  | x :: p, y :: q, h => by
    rw [lexV, lexL]
    by_cases e : x = y
    · rw [if_pos e, if_pos e]
      exact lexV_lexL (by simpa using h)
    · rw [if_neg e, if_neg e]
      by_cases hl : x < y <;> simp [hl]
theorem lexV_small : ∀ (p q : List Int), -1 ≤ lexV p q ∧ lexV p q ≤ 1
  | [], [] => by simp [lexV]
  | [], _ :: _ => by simp [lexV]
  | _ :: _, [] => by simp [lexV]
  | x :: p, y :: q => by
    rw [lexV]
    split
    · exact lexV_small p q
    · split <;> omega
def cmpI (x y : Int) : Int := if x < y then -1 else if y < x then 1 else 0
/-- impl.comparePerms's answer. -/
def cmpV (p q : List Int) : Int := if cmpI p.length q.length = 0 then lexV p q else cmpI p.length q.length
theorem cmpV_befL (p q : List Int) : decide (cmpV p q < 0) = befL p q := by
  unfold cmpV cmpI befL
  by_cases h1 : (p.length : Int) < q.length
  · rw [if_pos h1, if_neg (by omega), if_neg (by omega)]
    simp; omega
  · rw [if_neg h1]
    by_cases h2 : (q.length : Int) < p.length
    · rw [if_pos h2, if_neg (by omega), if_neg (by omega)]
      simp; omega
    · rw [if_neg h2, if_pos rfl, if_pos (by omega)]
      exact lexV_lexL (by omega)
theorem cmpV_small (p q : List Int) : -1 ≤ cmpV p q ∧ cmpV p q ≤ 1 := by
  have h := lexV_small p q
  have h2 : -1 ≤ cmpI p.length q.length ∧ cmpI p.length q.length ≤ 1 := by
    unfold cmpI
    split
    · omega
    · split <;> omega
  unfold cmpV
  split
  · exact h
  · exact h2

theorem below_sgrow (w : World) (k : Nat) (os : Array Obj) : Below w.heap.size w (Sort.grow (w.drewN k) os) :=
  ⟨rfl, rfl, rfl, by unfold Sort.grow; simp [World.drewN], fun i hi => by unfold Sort.grow; exact Array.getElem?_append_left hi⟩

/-! contracts -/
set_option maxHeartbeats 400000 in
theorem l2bef_any (A A' : Option Addr) (n c B n' c' B' : Nat) (p q : List Int) (b : Bool) (hb : befL p q = b) (w : World) (h : Arg w B A n c p) (h' : Arg w B' A' n' c' q) :
    Calls Tryd.prog 19 #[.slice A n c, .slice A' n' c'] w fun e w' => e = .returned (.bool b) ∧ Drew w w' := by
  have hl := h.len
  have hl' := h'.len
  have hn := h.le
  have hn' := h'.le
  have hr := h.reads
  have hr' := h'.reads
  clear h h'
  by_cases he : n = n'
  · subst he
    rw [befL_eq (by omega)] at hb
    have HB := hide hb
    have HL := hide hl
    have HL' := hide hl'
    clear hb hl hl'
    go_enter Tryd.func19, Tryd.ntmps19
    go_wp2
    go_loopw [5] (fun i wr => ∃ k : Nat, k ≤ n ∧ i = .int .i64 k ∧ Drew w wr ∧ Hid (p.take k = q.take k)) (fun i _ => n - (intOf i).toNat)
    case atStart => exact ⟨0, Nat.zero_le _, rfl, Drew.refl _, by exact (rfl : p.take 0 = q.take 0)⟩
    case round =>
      obtain ⟨k, hk, rfl, hd, hs⟩ := hrel
      by_cases hlt : k < n
      · obtain ⟨ad, u, rfl, _, hu, hc⟩ := (hr.ofDrew hd).at_ hlt
        obtain ⟨ad', u', rfl, _, hu', hc'⟩ := (hr'.ofDrew hd).at_ hlt
        obtain ⟨x, hx, rfl⟩ := i64_at hu
        obtain ⟨y, hy, rfl⟩ := i64_at hu'
        have HD := hide hd
        clear hu hu' hr hr' hd
        by_cases hxy : x = y
        · subst hxy
          have hnext := hide (take_same_step (unhide hs) hx hy)
          clear hx hy hs
          go_wp2
          go_quiet (fail)
          go_wp2
          go_roundw
          case rel => exact ⟨k + 1, by omega, by go_num, (unhide HD).more _, hnext⟩
          case measure => simp [intOf]; omega
        · have hat := (unhide HB).symm.trans (lexL_at (unhide hs) hx hy hxy)
          have hne : (x == y) = false := by simpa using hxy
          clear hx hy hs HB hxy
          have hcc := hc
          have hcc' := hc'
          have HAT := hide hat
          clear hat
          go_wp2
          go_quiet (fail)
          go_wp2
          go_quiet (fail)
          go_wp2
          go_ret
          exact ⟨ret_bool (unhide HAT).symm, ((unhide HD).more _).more _⟩
      · obtain rfl : n = k := by omega
        obtain rfl : b = false := (unhide HB).symm.trans (lexL_end (unhide hs) (unhide HL) (unhide HL'))
        clear HB hs
        go_wp2
        go_ret
        exact ⟨rfl, hd⟩
  · rw [befL_ne (by omega), hl, hl'] at hb
    have hne : ((n : Int) == (n' : Int)) = false := by simp; omega
    have HB := hide hb
    clear hb hl hl' hr hr'
    go_enter Tryd.func19, Tryd.ntmps19
    go_wp2
    go_ret
    exact ⟨ret_bool (by rw [← unhide HB]), Drew.refl _⟩
theorem nan_any (x : Int) (w : World) : Calls Tryd.prog 72 #[.int .i64 x] w fun e w' => e = .returned (.bool false) ∧ w = w' := by
  go_enter Tryd.func72, Tryd.ntmps72
  go_wp2
  go_ret
  exact ⟨rfl, rfl⟩
theorem cmp_lt (x y : Int) (h : x < y) (w : World) : Calls Tryd.prog 54 #[.int .i64 x, .int .i64 y] w fun e w' => e = .returned (.int .i64 (-1)) ∧ w = w' := by
  go_enter Tryd.func54, Tryd.ntmps54
  go_wp2_with ((with_reducible refine (nan_any _ _).mono ?_); rintro e w' ⟨rfl, rfl⟩)
  go_ret
  exact ⟨rfl, rfl⟩
theorem cmp_gt (x y : Int) (h : y < x) (w : World) : Calls Tryd.prog 54 #[.int .i64 x, .int .i64 y] w fun e w' => e = .returned (.int .i64 1) ∧ w = w' := by
  have h' : ¬ x < y := by omega
  go_enter Tryd.func54, Tryd.ntmps54
  go_wp2_with ((with_reducible refine (nan_any _ _).mono ?_); rintro e w' ⟨rfl, rfl⟩)
  go_ret
  exact ⟨rfl, rfl⟩
theorem cmp_eq (x : Int) (w : World) : Calls Tryd.prog 54 #[.int .i64 x, .int .i64 x] w fun e w' => e = .returned (.int .i64 0) ∧ w = w' := by
  have h' : ¬ x < x := by omega
  go_enter Tryd.func54, Tryd.ntmps54
  go_wp2_with ((with_reducible refine (nan_any _ _).mono ?_); rintro e w' ⟨rfl, rfl⟩)
  go_ret
  exact ⟨rfl, rfl⟩
theorem cmp_any (x y : Int) (w : World) : Calls Tryd.prog 54 #[.int .i64 x, .int .i64 y] w fun e w' => e = .returned (.int .i64 (cmpI x y)) ∧ w = w' := by
  unfold cmpI
  by_cases h1 : x < y
  · rw [if_pos h1]; exact cmp_lt x y h1 w
  · rw [if_neg h1]
    by_cases h2 : y < x
    · rw [if_pos h2]; exact cmp_gt x y h2 w
    · rw [if_neg h2]
      obtain rfl : x = y := by omega
      exact cmp_eq x w
set_option maxHeartbeats 400000 in
theorem compare_any (A A' : Option Addr) (n c B n' c' B' : Nat) (p q : List Int) (w : World) (h : Arg w B A n c p) (h' : Arg w B' A' n' c' q) :
    Calls Tryd.prog 55 #[.slice A n c, .slice A' n' c'] w fun e w' => e = .returned (.int .i64 (lexV p q)) ∧ w = w' := by
  obtain ⟨b, hb⟩ : ∃ b, lexV p q = b := ⟨_, rfl⟩
  have hl := h.len
  have hl' := h'.len
  have hn := h.le
  have hn' := h'.le
  have hr := h.reads
  have hr' := h'.reads
  clear h h'
  rw [hb]
  have HB := hide hb
  have HL := hide hl
  have HL' := hide hl'
  clear hb hl hl'
  go_enter Tryd.func55, Tryd.ntmps55
  go_wp2
  go_loop [5, 6, 7, 8, 11] (fun _ _ _ _ i => ∃ k : Nat, k ≤ n ∧ k ≤ n' ∧ i = .int .i64 k ∧ Hid (p.take k = q.take k)) (fun _ _ _ _ i => n - (intOf i).toNat)
  case atStart => exact ⟨0, Nat.zero_le _, Nat.zero_le _, rfl, by exact (rfl : p.take 0 = q.take 0)⟩
  case round =>
    obtain ⟨k, hk, hk', rfl, hs⟩ := hrel
    by_cases hlt : k < n
    · obtain ⟨ad, u, rfl, _, hu, hc⟩ := hr.at_ hlt
      obtain ⟨x, hx, rfl⟩ := i64_at hu
      by_cases hlt' : k < n'
      · obtain ⟨ad', u', rfl, _, hu', hc'⟩ := hr'.at_ hlt'
        obtain ⟨y, hy, rfl⟩ := i64_at hu'
        clear hu hu' hr hr'
        by_cases hxy : x = y
        · subst hxy
          have hnext := hide (take_same_step (unhide hs) hx hy)
          clear hx hy hs
          go_wp2_with ((with_reducible refine (cmp_eq _ _).mono ?_); rintro e w' ⟨rfl, rfl⟩)
          go_round
          case rel => exact ⟨k + 1, by omega, by omega, by go_num, hnext⟩
          case measure => simp [intOf]; omega
        · have hat := (unhide HB).symm.trans (lexV_at (unhide hs) hx hy hxy)
          by_cases hl : x < y
          · obtain rfl : b = -1 := by rw [hat]; simp [hl]
            clear hx hy hs HB hxy hat
            go_wp2_with ((with_reducible refine (cmp_lt _ _ hl _).mono ?_); rintro e w' ⟨rfl, rfl⟩)
            go_ret
            exact ⟨rfl, rfl⟩
          · have hg : y < x := by omega
            obtain rfl : b = 1 := by rw [hat]; simp [hl]
            clear hx hy hs HB hxy hat hl
            go_wp2_with ((with_reducible refine (cmp_gt _ _ hg _).mono ?_); rintro e w' ⟨rfl, rfl⟩)
            go_ret
            exact ⟨rfl, rfl⟩
      · obtain rfl : n' = k := by omega
        have hat := (unhide HB).symm.trans (lexV_end (unhide hs) (.inr (unhide HL').symm) (by rw [unhide HL]; omega) (by rw [unhide HL']; omega))
        rw [unhide HL, unhide HL', if_neg (by omega), if_pos hlt] at hat
        subst hat
        clear hu hx hs HB hr hr'
        go_wp2
        go_ret
        exact ⟨rfl, rfl⟩
    · obtain rfl : n = k := by omega
      have hat := (unhide HB).symm.trans (lexV_end (unhide hs) (.inl (unhide HL).symm) (by rw [unhide HL]; omega) (by rw [unhide HL']; omega))
      rw [unhide HL, unhide HL'] at hat
      clear HB hs hr hr'
      by_cases hlt' : n < n'
      · rw [if_pos hlt'] at hat
        subst hat
        go_wp2
        go_ret
        exact ⟨rfl, rfl⟩
      · rw [if_neg hlt', if_neg (by omega)] at hat
        subst hat
        go_wp2
        go_ret
        exact ⟨rfl, rfl⟩
def or2 (x y : Int) : Int := if x = 0 then y else x
theorem two_at {x y z : Int} {k : Nat} (h : [x, y][k]? = some z) : (k = 0 ∧ z = x) ∨ (k = 1 ∧ z = y) := by
  match k, h with
  | 0, h => simp at h; exact .inl ⟨rfl, h.symm⟩
  | 1, h => simp at h; exact .inr ⟨rfl, h.symm⟩
  | k + 2, h => simp at h
theorem cmpor_any (A : Option Addr) (c B : Nat) (x y : Int) (w : World) (hr : Reads w B A 2 (i64s [x, y])) :
    Calls Tryd.prog 53 #[.slice A 2 c] w fun e w' => e = .returned (.int .i64 (or2 x y)) ∧ w = w' := by
  obtain ⟨r, hrr⟩ : ∃ r, or2 x y = r := ⟨_, rfl⟩
  rw [hrr]
  have HR := hide hrr
  clear hrr
  go_enter Tryd.func53, Tryd.ntmps53
  go_wp2
  go_loop [5, 8] (fun _ i => ∃ k : Nat, k ≤ 2 ∧ i = .int .i64 k ∧ Hid (∀ j z, j < k → [x, y][j]? = some z → z = 0)) (fun _ i => 2 - (intOf i).toNat)
  case atStart => exact ⟨0, Nat.zero_le _, rfl, fun j z h => by omega⟩
  case round =>
    obtain ⟨k, hk, rfl, hz⟩ := hrel
    by_cases hlt : k < 2
    · obtain ⟨ad, u, rfl, _, hu, hc⟩ := hr.at_ hlt
      obtain ⟨v, hv, rfl⟩ := i64_at hu
      clear hu hr
      by_cases h0 : v = 0
      · subst h0
        have hn : Hid (∀ j z, j < k + 1 → [x, y][j]? = some z → z = 0) := fun j z hj h => by
          by_cases e : j = k
          · subst e
            rw [hv] at h
            exact (Option.some.inj h).symm
          · exact unhide hz j z (by omega) h
        clear hv hz
        go_wp2
        go_round
        case rel => exact ⟨k + 1, by omega, by go_num, hn⟩
        case measure => simp [intOf]; omega
      · obtain rfl : r = v := by
          rw [← unhide HR]
          unfold or2
          rcases two_at hv with ⟨rfl, rfl⟩ | ⟨rfl, rfl⟩
          · rw [if_neg h0]
          · rw [if_pos (unhide hz 0 x (by omega) rfl)]
        have hx' : (r != 0) = true := by simp [h0]
        clear h0 hv hz HR
        go_wp2
        go_ret
        exact ⟨rfl, rfl⟩
    · obtain rfl : k = 2 := by omega
      obtain rfl : r = 0 := by
        rw [← unhide HR]
        unfold or2
        rw [if_pos (unhide hz 0 x (by omega) rfl), unhide hz 1 y (by omega) rfl]
      clear hz HR hr
      go_wp2
      go_ret
      exact ⟨rfl, rfl⟩
theorem comparePerms_any (A A' : Option Addr) (n c B n' c' B' : Nat) (p q : List Int) (w : World) (h : Arg w B A n c p) (h' : Arg w B' A' n' c' q) :
    Calls Tryd.prog 43 #[.slice A n c, .slice A' n' c'] w fun e w' => e = .returned (.int .i64 (cmpV p q)) ∧ ∃ k os, w' = Sort.grow (w.drewN k) os := by
  have hv : or2 (cmpI n n') (lexV p q) = cmpV p q := by
    unfold or2 cmpV
    rw [h.len, h'.len]
  rw [← hv]
  have H1 := hide (cmp_any n n' w)
  have H2 := hide (compare_any A A' n c B n' c' B' p q w h h')
  clear hv h h'
  go_enter Tryd.func43, Tryd.ntmps43
  go_wp2_with fail
  refine (unhide H1).mono ?_
  rintro e w1 ⟨rfl, rfl⟩
  clear H1
  go_wp2_with fail
  refine (unhide H2).mono ?_
  rintro e w1 ⟨rfl, rfl⟩
  clear H2
  go_wp2_with fail
  have hR : Reads (w.alloc (.cells (i64s [cmpI n n', lexV p q]).toArray 3)) (w.heap.size + 1) (some ⟨w.heap.size, 0, none⟩) 2 (i64s [cmpI n n', lexV p q]) := ⟨rfl, fun _ => ⟨_, rfl, by simp, fun j u hu => by
    rw [show (⟨w.heap.size, 0, none⟩ : Addr).add j = ⟨w.heap.size, j, none⟩ by unfold Addr.add; split <;> simp_all, World.cell?_alloc_new]
    simpa using hu⟩⟩
  refine (cmpor_any _ 2 (w.heap.size + 1) _ _ _ hR).mono ?_
  rintro e w1 ⟨rfl, rfl⟩
  clear hR
  go_wp2
  go_ret
  exact ⟨rfl, 0, _, Sort.alloc_eq_grow _ _⟩
end Go.Proofs.YtplchjeamooliaaDoor


/-
  spec.l3Put, by its contract.
-/

namespace Go.Proofs.YtplchjeamooliaaDoor
set_option maxRecDepth 100000
open Go.RowKit

theorem Inner.put {w : World} {B s : Nat} {vs : List Value} {zss : List (List Int)} {u : Value} {z : List Int} (h : Inner w B vs zss) (hs : s ≤ zss.length) (hu : Ints w B u z) (ha : ∀ x ∈ vs, Away x u) : Inner w B (vs.take s ++ [u] ++ vs.drop s) (zss.take s ++ [z] ++ zss.drop s) := by
  have hl := h.len
  refine ⟨by simp; omega, fun i x ys hx hy => ?_, ?_⟩
  · by_cases h1 : i < s
    · rw [List.append_assoc, List.getElem?_append_left (by rw [List.length_take]; omega), List.getElem?_take_of_lt h1] at hx hy
      exact h.row i x ys hx hy
    · by_cases h2 : i = s
      · subst h2
        rw [List.append_assoc, List.getElem?_append_right (by rw [List.length_take]; omega), List.length_take, Nat.min_eq_left (by omega)] at hx hy
        simp at hx hy
        subst hx; subst hy
        exact hu
      · rw [List.getElem?_append_right (by simp; omega)] at hx hy
        simp only [List.length_append, List.length_take, List.length_singleton] at hx hy
        rw [List.getElem?_drop] at hx hy
        rw [Nat.min_eq_left (by omega)] at hx hy
        exact h.row _ x ys hx hy
  · have ht := h.away
    rw [← List.take_append_drop s vs, List.pairwise_append] at ht
    obtain ⟨h1, h2, h3⟩ := ht
    rw [List.append_assoc, List.pairwise_append]
    refine ⟨h1, ?_, fun a ha' b hb => ?_⟩
    · rw [List.singleton_append, List.pairwise_cons]
      exact ⟨fun b hb => (ha b (List.mem_of_mem_drop hb)).symm, h2⟩
    · rw [List.singleton_append, List.mem_cons] at hb
      rcases hb with rfl | hb
      · exact ha a (List.mem_of_mem_take ha')
      · exact h3 a ha' b hb
theorem own_news {w : World} {B n : Nat} {v : Value} {vs : List Value} {zss : List (List Int)} (_h : w.ownsRow B 30 1 v n vs) (hin : Inner w B vs zss) : ∀ u ∈ vs, u.oneCell' = true := fun u hu => by
  obtain ⟨zs, hz⟩ := hin.mem hu
  obtain ⟨A, c, rfl⟩ := hz.slice
  rfl

/-- A list of rows that lies at a block's head. -/
def PutS (w : World) (B : Nat) (v : Value) (zss : List (List Int)) : Prop := IntsS w B v zss ∧ ∃ g cap, v = .slice (some ⟨g, 0, none⟩) zss.length cap
def PutEnds (w : World) (B : Nat) (zss : List (List Int)) (e : Ending) (w' : World) : Prop := ∃ v', e = .returned v' ∧ PutS w' B v' zss ∧ Below B w w' ∧ KeepI w w'

theorem Arg.drew {w : World} {B n c : Nat} {A : Option Addr} {zs : List Int} (h : Arg w B A n c zs) : Arg w.drew B A n c zs := ⟨h.reads.drew, h.under, h.le, h.cap, h.small, h.nil⟩
theorem own_shape {w : World} {B n : Nat} {e : TypeId} {v : Value} {xs : List Value} (h : w.ownsRow B e 1 v n xs) (hv : v ≠ .slice none 0 0) : ∃ g cap, v = .slice (some ⟨g, 0, none⟩) n cap ∧ B ≤ g ∧ n ≤ cap := by
  rcases h.2 with ⟨h0, _⟩ | ⟨g, cap, cur, h1, h2, _, h3, _⟩
  · exact absurd h0 hv
  · exact ⟨g, cap, h1, h2, h3⟩

end Go.Proofs.YtplchjeamooliaaDoor


/-
  spec.l3Reverse, spec.l3Complement, spec.ReversePerm, spec.ComplementPerm; slices.Clone, impl.ComplementPerm, by their contracts.
-/

namespace Go.Proofs.YtplchjeamooliaaDoor
set_option maxRecDepth 100000
open Go.RowKit

theorem rev_step {zs : List Int} {k : Nat} {z : Int} (h : zs[k]? = some z) : (zs.drop k).reverse = (zs.drop (k + 1)).reverse ++ [z] := by
  have hk : k < zs.length := (List.getElem?_eq_some_iff.1 h).1
  rw [List.drop_eq_getElem_cons hk, List.reverse_cons]
  rw [List.getElem?_eq_getElem hk] at h
  rw [Option.some.inj h]
theorem i64_snoc (xs : List Int) (z : Int) : i64s xs ++ [Value.int .i64 z] = i64s (xs ++ [z]) := by unfold i64s; simp
set_option maxHeartbeats 400000 in
theorem clone_any (A : Option Addr) (n c B : Nat) (zs : List Int) (w : World) (h : Arg w B A n c zs) :
    Calls Tryd.prog 41 #[.slice A n c] w (GivesI w zs) := by
  obtain ⟨i0, hi, hz0, hz1, hz2⟩ := info_parts intInfo
  have hl := h.len
  have hn := h.le
  have hr := h.reads
  have q22 : ∀ (w : World) (a : Option Addr) (n c n' c' : Nat), (binOp .eql 30 (.slice a n c) (.slice none n' c')).run Tryd.prog w = .ok (.bool a.isNone) w := fun w a n c n' c' => Lib.run_eql_slice_nil w _ _ a n c n' c' Tryd.underlying30
  cases A with
  | none =>
    obtain rfl : n = 0 := by
      by_cases h0 : 0 < n
      · obtain ⟨ad, he, _⟩ := hr.2 h0
        cases he
      · omega
    obtain rfl := List.eq_nil_of_length_eq_zero hl
    clear h hr hl
    go_enter Tryd.func41, Tryd.ntmps41
    go_wp2
    go_ret
    exact GivesI.mk (Ints.nil _ _) (Below.refl _ _)
  | some ad =>
    have hcl : ∀ j u, (i64s zs)[j]? = some u → w.cell? (ad.add j) = some u := fun j u hu => by
      have hj : j < n := by have := (List.getElem?_eq_some_iff.1 hu).1; rw [i64_length, hl] at this; exact this
      obtain ⟨ad', he, _, hc⟩ := hr.2 (by omega)
      injection he with he
      subst he
      exact hc j u hu
    have hbl : 0 < n → ad.block < w.heap.size := fun h0 => by
      obtain ⟨ad', he, hb', _⟩ := hr.2 h0
      injection he with he
      subst he
      exact Nat.lt_of_lt_of_le hb' h.under
    have hcl2 : ∀ j u, (i64s zs)[j]? = some u → (w.alloc (.cells #[] 3)).cell? (ad.add j) = some u := fun j u hu => by
      have hj : j < n := by have := (List.getElem?_eq_some_iff.1 hu).1; rw [i64_length, hl] at this; exact this
      rw [World.cell?_alloc_lt]
      · exact hcl j u hu
      · rw [block_of_add]; exact hbl (by omega)
    have hone : ∀ u ∈ i64s zs, u.oneCell' = true := fun u hu => by
      unfold i64s at hu
      obtain ⟨z, _, rfl⟩ := List.mem_map.1 hu
      rfl
    have hln : (i64s zs).length = n * 1 := by rw [i64_length, hl]; omega
    have HCL := hide hcl2
    have HONE := hide hone
    have HLN := hide hln
    have HL := hide hl
    have hst := own0 w w.heap.size (Nat.le_refl _)
    have hbel := (Below.refl w.heap.size w).alloc (Nat.le_refl _) (.cells #[] 3)
    clear h hr hl hcl hcl2 hbl hone hln
    go_enter Tryd.func41, Tryd.ntmps41
    go_wp2_with (at_builtin; refine wpList_append_own _ rfl (.tmp 5) (.tmp 6) 30 rfl w.heap.size 3 i0 (.int .i64 0) 1 8 Tryd.underlying30 hi hz0 hz1 hz2 rfl (by decide) _ _ _ rfl hst ad n c (i64s zs) rfl ?_ ?_ ?_ ?_ ?_ ?_ ?_)
    · exact unhide HLN
    · exact unhide HCL
    · exact unhide HONE
    · unfold maxLen; omega
    · omega
    · simp
    intro v1 w1 hown1 hg1 _
    have hb1 : Below w.heap.size w w1 := hbel.grown hg1 (by simp) (fun q hq => by simp [Value.ownBlock] at hq; omega)
    have hI : Ints w1 w.heap.size v1 zs := by
      have h := hown1
      rw [← unhide HL] at h
      exact Ints.of_own h
    clear hg1 hown1
    go_wp2
    go_ret
    exact GivesI.mk hI hb1
end Go.Proofs.YtplchjeamooliaaDoor


/-
  spec.l7At, spec.l7Fits, spec.l7Find, spec.OccurrencesOf, spec.CountPattern, spec.HasPattern, by their contracts.
-/

namespace Go.Proofs.YtplchjeamooliaaDoor
set_option maxRecDepth 100000
open Go.RowKit

theorem Arg.stay {w w' : World} {B B' n c : Nat} {A : Option Addr} {zs : List Int} (h : Arg w B A n c zs) (hb : Below B' w w') (hB : B ≤ B') : Arg w' B A n c zs :=
  ⟨h.reads.below (hb.mono hB), Nat.le_trans h.under hb.size, h.le, h.cap, h.small, h.nil⟩
theorem Arg.at_ {w : World} {B n c k : Nat} {A : Option Addr} {zs : List Int} (h : Arg w B A n c zs) (hk : k < n) : ∃ ad, A = some ad ∧ ad.block < B ∧ zs[k]? = some (at0 zs k) ∧ w.cell? (ad.add k) = some (.int .i64 (at0 zs k)) := by
  obtain ⟨ad, u, hA, hb, hu, hc⟩ := h.reads.at_ hk
  obtain ⟨z, hz, rfl⟩ := i64_at hu
  have e := at0_of hz
  subst e
  exact ⟨ad, hA, hb, hz, hc⟩
theorem isP_rng {p : List Int} (h : isP p = true) {k : Nat} (hk : k < p.length) : 1 ≤ at0 p k ∧ at0 p k ≤ (p.length : Int) := by
  have := (isP_true.1 h).2.1 _ (at0_mem hk)
  exact this
theorem place_nat {n : Nat} {x : Int} (h : 1 ≤ x ∧ x ≤ (n : Int)) : ∃ X : Nat, x = ((X + 1 : Nat) : Int) ∧ X < n := ⟨x.toNat - 1, by omega, by omega⟩

set_option maxHeartbeats 1600000 in
theorem l7fits_any (A A' A2 : Option Addr) (n c B n' c' B' n2 c2 B2 : Nat) (p q pl : List Int) (b : Bool) (hb : fitL p q pl = b) (w : World) (h : Arg w B A n c p) (h' : Arg w B' A' n' c' q) (h2 : Arg w B2 A2 n2 c2 pl) (hr : PlOK p.length pl) (hlt : 0 < n2) (hle : n2 ≤ n') :
    Calls Tryd.prog 36 #[.slice A n c, .slice A' n' c', .slice A2 n2 c2] w fun e w' => e = .returned (.bool b) ∧ Drew w w' := by
  have hl := h.len
  have hl' := h'.len
  have hl2 := h2.len
  obtain ⟨L, rfl⟩ : ∃ L, n2 = L + 1 := ⟨n2 - 1, by omega⟩
  have hn2 := h2.le
  have hL1 : ((L + 1 : Nat) : Int) - 1 = (L : Int) := by omega
  have HB := hide hb
  have HL := hide hl2
  have HR := hide hr
  clear hb hr
  go_enter Tryd.func36, Tryd.ntmps36
  go_wp2
  go_loopw [8] (fun i wr => ∃ k : Nat, k ≤ L ∧ i = .int .i64 k ∧ Drew w wr ∧ Hid (∀ j, j < k → decide (at0 q j < at0 q L) = decide (at0 (nums p pl) j < at0 (nums p pl) L))) (fun i _ => L - (intOf i).toNat)
  case atStart => exact ⟨0, Nat.zero_le _, rfl, Drew.refl _, fun j hj => by omega⟩
  case round =>
    obtain ⟨k, hk, rfl, hd, hx⟩ := hrel
    by_cases hkl : k < L
    · have hdb := hd.below w.heap.size
      obtain ⟨ad', rfl, _, _, ca⟩ := (h'.below hdb).at_ (show k < n' by omega)
      obtain ⟨_, he, _, _, cb⟩ := (h'.below hdb).at_ (show L < n' by omega)
      obtain rfl := Option.some.inj he
      obtain ⟨ad2, rfl, _, _, cx⟩ := (h2.below hdb).at_ (show k < L + 1 by omega)
      obtain ⟨_, he2, _, _, cy⟩ := (h2.below hdb).at_ (show L < L + 1 by omega)
      obtain rfl := Option.some.inj he2
      obtain ⟨X, hX, hXn⟩ := place_nat ((unhide HR).rng (i := k) (by omega))
      obtain ⟨Y, hY, hYn⟩ := place_nat ((unhide HR).rng (i := L) (by omega))
      obtain ⟨ad, rfl, _, _, cc⟩ := (h.below hdb).at_ (show X < n by omega)
      obtain ⟨_, he3, _, _, cd⟩ := (h.below hdb).at_ (show Y < n by omega)
      obtain rfl := Option.some.inj he3
      have e1 : at0 (nums p pl) k = at0 p X := by rw [nums_at0 (by omega), hX]; simp
      have e2 : at0 (nums p pl) L = at0 p Y := by rw [nums_at0 (by omega), hY]; simp
      rw [hX] at cx
      rw [hY] at cy
      have k1 : ((X + 1 : Nat) : Int) - 1 = (X : Int) := by omega
      have k2 : ((Y + 1 : Nat) : Int) - 1 = (Y : Int) := by omega
      have hnn := h.le
      have w1 : IntKind.i64.wrap (X : Int) = X := by rw [IntKind.wrap_i64]; omega
      have w2 : IntKind.i64.wrap (Y : Int) = Y := by rw [IntKind.wrap_i64]; omega
      have HE := hide (And.intro e1 e2)
      have HD := hide hd
      have HX := hide (And.intro hX hY)
      clear e1 e2 hd hdb hX hY he he2 he3
      obtain ⟨a, ha⟩ : ∃ a, at0 q k = a := ⟨_, rfl⟩
      obtain ⟨b', hb'⟩ : ∃ b', at0 q L = b' := ⟨_, rfl⟩
      obtain ⟨y, hy⟩ : ∃ y, at0 p X = y := ⟨_, rfl⟩
      obtain ⟨z, hz⟩ : ∃ z, at0 p Y = z := ⟨_, rfl⟩
      have HA := hide (And.intro ha (And.intro hb' (And.intro hy hz)))
      rw [ha] at ca
      rw [hb'] at cb
      rw [hy] at cc
      rw [hz] at cd
      clear ha hb' hy hz
      by_cases t1 : a < b'
      · have d1 := decide_eq_true t1
        by_cases t2 : y < z
        · have d2 := decide_eq_true t2
          have hnext : Hid (∀ j, j < k + 1 → decide (at0 q j < at0 q L) = decide (at0 (nums p pl) j < at0 (nums p pl) L)) := hide (fun j hj => by
            by_cases hjk : j < k
            · exact unhide hx j hjk
            · obtain rfl : j = k := by omega
              rw [(unhide HE).1, (unhide HE).2, (unhide HA).1, (unhide HA).2.1, (unhide HA).2.2.1, (unhide HA).2.2.2, decide_eq_true t1, decide_eq_true t2])
          clear hx
          go_wp2
          go_quiet (fail)
          go_wp2
          go_roundw
          case rel => exact ⟨k + 1, by omega, by go_num, (unhide HD).more _, hnext⟩
          case measure => simp [intOf]; omega
        · have d2 := decide_eq_false t2
          obtain rfl : b = false := (unhide HB).symm.trans (fitL_no (k := k) (by rw [unhide HL]; omega) (by rw [unhide HL, Nat.add_sub_cancel, (unhide HE).1, (unhide HE).2, (unhide HA).1, (unhide HA).2.1, (unhide HA).2.2.1, (unhide HA).2.2.2, decide_eq_true t1, decide_eq_false t2]; decide))
          clear hx HB
          go_wp2
          go_quiet (fail)
          go_wp2
          go_ret
          exact ⟨rfl, (unhide HD).more _⟩
      · have d1 := decide_eq_false t1
        by_cases t2 : y < z
        · have d2 := decide_eq_true t2
          obtain rfl : b = false := (unhide HB).symm.trans (fitL_no (k := k) (by rw [unhide HL]; omega) (by rw [unhide HL, Nat.add_sub_cancel, (unhide HE).1, (unhide HE).2, (unhide HA).1, (unhide HA).2.1, (unhide HA).2.2.1, (unhide HA).2.2.2, decide_eq_false t1, decide_eq_true t2]; decide))
          clear hx HB
          go_wp2
          go_quiet (fail)
          go_wp2
          go_ret
          exact ⟨rfl, (unhide HD).more _⟩
        · have d2 := decide_eq_false t2
          have hnext : Hid (∀ j, j < k + 1 → decide (at0 q j < at0 q L) = decide (at0 (nums p pl) j < at0 (nums p pl) L)) := hide (fun j hj => by
            by_cases hjk : j < k
            · exact unhide hx j hjk
            · obtain rfl : j = k := by omega
              rw [(unhide HE).1, (unhide HE).2, (unhide HA).1, (unhide HA).2.1, (unhide HA).2.2.1, (unhide HA).2.2.2, decide_eq_false t1, decide_eq_false t2])
          clear hx
          go_wp2
          go_quiet (fail)
          go_wp2
          go_roundw
          case rel => exact ⟨k + 1, by omega, by go_num, (unhide HD).more _, hnext⟩
          case measure => simp [intOf]; omega
    · obtain rfl : L = k := by omega
      obtain rfl : b = true := (unhide HB).symm.trans (fitL_yes fun k hk => by
        rw [unhide HL, Nat.add_sub_cancel] at hk ⊢
        exact unhide hx k hk)
      clear hx HB
      go_wp2
      go_ret
      exact ⟨rfl, hd⟩
end Go.Proofs.YtplchjeamooliaaDoor
