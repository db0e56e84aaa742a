/-
  Words and contracts that the laws lean on, bundled: Blk, PermS, Asc, ArrEq, IsPerm, Inv, Same, Pat, App.
-/
import Derived.Test.YtcoegjhhhnfplaaB2
import Derived.Laws.Rows
import Derived.Test.YtcoegjhhhnfplaaProg
import Derived.Test.YtcoegjhhhnfplaaB1
import Derived.Deep.QuietTactic
import Derived.BigQuiet
import Derived.Laws.Tables
import Derived.Laws.StructEq
import Derived.Deep.RegionHeld3
import Derived.Outline
import Derived.IntWalk
import Derived.Laws.AppendOwnNone

/-
  A block known whole (its cells, its type, nothing frozen); arrays of eight integers as values.
-/

namespace Go.Proofs.Ytcoegjhhhnfplaa
set_option maxRecDepth 100000
open Go.RowKit

/-- Block g holds these cells of this type, and none is frozen. -/
def Whole (w : World) (g : Nat) (t : TypeId) (cs : Array Value) : Prop := w.heap[g]? = some (.cells cs t (0, 0))
section
variable {w w' : World} {g : Nat} {t : TypeId} {cs : Array Value}
theorem Whole.lt (h : Whole w g t cs) : g < w.heap.size := by
  unfold Whole at h
  exact (Array.getElem?_eq_some_iff.1 h).1
theorem Whole.cell (h : Whole w g t cs) (i : Nat) : w.cell? ⟨g, i, none⟩ = cs[i]? := cell_of_row w g i cs t (0, 0) h
theorem Whole.frozen (h : Whole w g t cs) (i : Nat) : w.frozen? ⟨g, i, none⟩ = false := by
  unfold Whole at h
  simp [World.frozen?, h]
theorem Whole.new (w : World) (t : TypeId) (cs : Array Value) : Whole (w.alloc (.cells cs t)) w.heap.size t cs := heap_alloc_new w _
theorem Whole.drewN (h : Whole w g t cs) (n : Nat) : Whole (w.drewN n) g t cs := h
theorem Whole.alloc (h : Whole w g t cs) (o : Obj) : Whole (w.alloc o) g t cs := (Below.heap_alloc w o g h.lt).trans h
theorem Whole.put (h : Whole w g t cs) (i : Nat) (u : Value) : Whole (w.setCell ⟨g, i, none⟩ u) g t (cs.setIfInBounds i u) := by
  unfold Whole at h ⊢
  simp [World.setCell, Array.getElem?_modify, h]
theorem Whole.far (h : Whole w g t cs) {p : Addr} (hp : g ≠ p.block) (u : Value) : Whole (w.setCell p u) g t cs := (Below.heap_setCell w p u g hp).trans h
theorem Whole.below {B : Nat} (h : Whole w g t cs) (hb : Below B w w') (hg : g < B) : Whole w' g t cs := (hb.block g hg).trans h
theorem Whole.grown {row : Option Nat} (h : Whole w g t cs) (hb : w.grownBy w' row) (hg : some g ≠ row) : Whole w' g t cs := (hb.block g h.lt hg).trans h
end
theorem below_drew (B : Nat) (w : World) : Below B w w.drew := ⟨rfl, rfl, rfl, Nat.le_refl _, fun _ _ => rfl⟩
/-- An array's cells. -/
def arr (l : List Int) : Array Value := (i64s l).toArray
theorem arr_at {l : List Int} {k : Nat} {z : Int} (h : l[k]? = some z) : (arr l)[k]? = some (.int .i64 z) := by unfold arr; rw [List.getElem?_toArray]; exact i64_get h
theorem arr_set (l : List Int) (k : Nat) (z : Int) : (arr l).setIfInBounds k (.int .i64 z) = arr (l.set k z) := by
  unfold arr i64s
  rw [List.setIfInBounds_toArray, List.map_set]
theorem arr_size (l : List Int) : (arr l).size = l.length := by unfold arr; rw [List.size_toArray, i64_length]
end Go.Proofs.Ytcoegjhhhnfplaa


/-
  spec.l1In, spec.l2Has and spec.IsPerm, by their contracts.
-/

namespace Go.Proofs.Ytcoegjhhhnfplaa
set_option maxRecDepth 100000
open Go.RowKit

theorem l1in_any (x lo hi : Int) (b : Bool) (hb : decide (lo ≤ x ∧ x ≤ hi) = b) (w : World) :
    Calls Try.prog 60 #[.int .i64 x, .int .i64 lo, .int .i64 hi] w fun e w' => e = .returned (.bool b) ∧ w' = w := by
  by_cases h1 : lo ≤ x
  · by_cases h2 : x ≤ hi
    · obtain rfl : b = true := by rw [← hb]; simp [h1, h2]
      clear hb
      go_enter Try.func60, Try.ntmps60
      go_wp2
      go_ret
      exact ⟨rfl, rfl⟩
    · obtain rfl : b = false := by rw [← hb]; simp [h2]
      clear hb
      go_enter Try.func60, Try.ntmps60
      go_wp2
      go_ret
      exact ⟨rfl, rfl⟩
  · obtain rfl : b = false := by rw [← hb]; simp [h1]
    clear hb
    go_enter Try.func60, Try.ntmps60
    go_wp2
    go_ret
    exact ⟨rfl, rfl⟩

theorem has_step {zs : List Int} {k : Nat} {y z : Int} (hz : zs[k]? = some y) (hne : y ≠ z) (h : z ∉ zs.take k) : z ∉ zs.take (k + 1) := by
  rw [take_snoc_i hz, List.mem_append, List.mem_singleton]
  rintro (h' | h')
  · exact h h'
  · exact hne h'.symm
theorem l2has_any (A : Option Addr) (n c B : Nat) (zs : List Int) (z : Int) (b : Bool) (hb : decide (z ∈ zs) = b) (w : World) (hr : Reads w B A n (i64s zs)) (hn : n ≤ 1099511627776) :
    Calls Try.prog 62 #[.slice A n c, .int .i64 z] w fun e w' => e = .returned (.bool b) ∧ w' = w := by
  have HB := hide hb
  clear hb
  go_enter Try.func62, Try.ntmps62
  go_wp2
  go_loop [5] (fun i => ∃ k : Nat, k ≤ n ∧ i = .int .i64 k ∧ Hid (z ∉ zs.take k)) (fun i => n - (intOf i).toNat)
  case atStart => exact ⟨0, Nat.zero_le _, rfl, by exact (by simp : z ∉ zs.take 0)⟩
  case round =>
    obtain ⟨k, hk, rfl, hno⟩ := hrel
    by_cases hlt : k < n
    · obtain ⟨ad, u, rfl, had, hu, hc⟩ := hr.at_ hlt
      obtain ⟨y, hy, rfl⟩ := i64_at hu
      clear hu
      by_cases he : y = z
      · subst he
        have hin : decide (y ∈ zs) = true := by simp [List.mem_of_getElem? hy]
        obtain rfl : b = true := (unhide HB).symm.trans hin
        clear hin hy HB hno
        go_wp2
        go_ret
        exact ⟨rfl, rfl⟩
      · have hnext := hide (has_step hy he (unhide hno))
        have he' : (y == z) = false := by simpa using he
        clear hno hy HB he
        go_wp2
        go_round
        case rel => exact ⟨k + 1, by omega, by go_num, hnext⟩
        case measure => simp [intOf]; omega
    · obtain rfl : n = k := by omega
      have hl : zs.length = n := by have := hr.1; rwa [i64_length] at this
      have hin : decide (z ∈ zs) = false := by
        have h := unhide hno
        rw [List.take_of_length_le (by omega)] at h
        simpa using h
      obtain rfl : b = false := (unhide HB).symm.trans hin
      clear hin HB hno hl
      go_wp2
      go_ret
      exact ⟨rfl, rfl⟩

theorem Reads.pre {w : World} {B n k : Nat} {A : Option Addr} {zs : List Int} (h : Reads w B A n (i64s zs)) (hk : k ≤ n) : Reads w B A k (i64s (zs.take k)) := by
  have hl : zs.length = n := by have := h.1; rwa [i64_length] at this
  refine ⟨by rw [i64_length, List.length_take]; omega, fun h0 => ?_⟩
  obtain ⟨ad, e, hb, hc⟩ := h.2 (by omega)
  refine ⟨ad, e, hb, fun j u hu => hc j u ?_⟩
  unfold i64s at hu ⊢
  rw [List.getElem?_map, List.getElem?_take] at hu
  rw [List.getElem?_map]
  by_cases hj : j < k
  · rwa [if_pos hj] at hu
  · rw [if_neg hj] at hu; cases hu
theorem Reads.len {w : World} {B n : Nat} {A : Option Addr} {zs : List Int} (h : Reads w B A n (i64s zs)) : zs.length = n := by have := h.1; rwa [i64_length] at this
theorem range_of {zs : List Int} {n : Nat} {z : Int} (hl : zs.length = n) (h : decide ((1 : Int) ≤ z ∧ z ≤ (n : Int)) = true) : 1 ≤ z ∧ z ≤ (zs.length : Int) := by rw [hl]; simpa using h
theorem range_not {zs : List Int} {n : Nat} {z : Int} (hl : zs.length = n) (h : decide ((1 : Int) ≤ z ∧ z ≤ (n : Int)) = false) : ¬ (1 ≤ z ∧ z ≤ (zs.length : Int)) := by rw [hl]; simpa using h

set_option maxHeartbeats 800000 in
theorem sisperm_any (A : Option Addr) (n c B : Nat) (zs : List Int) (b : Bool) (hb : isP zs = b) (w : World) (hr : Reads w B A n (i64s zs)) (hn : n ≤ 1048576) (hc : n ≤ c) :
    Calls Try.prog 22 #[.slice A n c] w fun e w' => e = .returned (.bool b) ∧ Drew w w' := by
  have HB := hide hb
  clear hb
  have hl := hr.len
  by_cases h8 : n ≤ 8
  · have HL := hide hl
    clear hl
    go_enter Try.func22, Try.ntmps22
    go_wp2
    go_loopw [3] (fun i wr => ∃ k : Nat, k ≤ n ∧ i = .int .i64 k ∧ Drew w wr ∧ Hid (Seen zs k)) (fun i _ => n - (intOf i).toNat)
    case atStart => exact ⟨0, Nat.zero_le _, rfl, Drew.refl _, by exact Seen.zero zs⟩
    case round =>
      obtain ⟨k, hk, rfl, hd, hs⟩ := hrel
      by_cases hlt : k < n
      · obtain ⟨ad, u, rfl, had, hu, hcell⟩ := (hr.ofDrew hd).at_ hlt
        obtain ⟨z, hz, rfl⟩ := i64_at hu
        have hpre := (hr.ofDrew hd).pre hk
        have HZ := hide hz
        have HD := hide hd
        clear hu hz hd
        obtain ⟨b1, hb1⟩ : ∃ b1, decide ((1 : Int) ≤ z ∧ z ≤ (n : Int)) = b1 := ⟨_, rfl⟩
        obtain ⟨b2, hb2⟩ : ∃ b2, decide (z ∈ zs.take k) = b2 := ⟨_, rfl⟩
        have HB1 := hide hb1
        have HB2 := hide hb2
        clear hb1 hb2
        have hkc : k ≤ c := by omega
        cases b1 with
        | false =>
          obtain rfl : b = false := (unhide HB).symm.trans (isP_no_range (unhide HZ) (range_not (unhide HL) (unhide HB1)))
          clear HB
          go_wp2
          go_quiet ((first | (go_at_call 60; exact Calls.quiet_of_same (l1in_any _ _ _ _ (unhide HB1) _)) | (go_at_call 62; exact Calls.quiet_of_same (l2has_any _ _ _ _ _ _ _ (unhide HB2) _ hpre (by omega)))))
          go_wp2
          go_ret
          exact ⟨rfl, (unhide HD).more _⟩
        | true =>
          cases b2 with
          | true =>
            obtain rfl : b = false := (unhide HB).symm.trans (isP_no_twice (unhide HZ) (by simpa using unhide HB2))
            clear HB
            go_wp2
            go_quiet ((first | (go_at_call 60; exact Calls.quiet_of_same (l1in_any _ _ _ _ (unhide HB1) _)) | (go_at_call 62; exact Calls.quiet_of_same (l2has_any _ _ _ _ _ _ _ (unhide HB2) _ hpre (by omega)))))
            go_wp2
            go_ret
            exact ⟨rfl, (unhide HD).more _⟩
          | false =>
            have hnext := hide ((unhide hs).step (unhide HZ) (range_of (unhide HL) (unhide HB1)) (by simpa using unhide HB2))
            go_wp2
            go_quiet ((first | (go_at_call 60; exact Calls.quiet_of_same (l1in_any _ _ _ _ (unhide HB1) _)) | (go_at_call 62; exact Calls.quiet_of_same (l2has_any _ _ _ _ _ _ _ (unhide HB2) _ hpre (by omega)))))
            go_wp2
            go_roundw
            case rel => exact ⟨k + 1, by omega, by go_num, (unhide HD).more _, hnext⟩
            case measure => simp [intOf]; omega
      · obtain rfl : n = k := by omega
        obtain rfl : b = true := (unhide HB).symm.trans (Seen.isP (by rw [unhide HL]; exact unhide hs) (by rw [unhide HL]; exact h8))
        clear HB hs
        have h8b : decide ((n : Int) ≤ 8) = true := by simp; omega
        go_wp2
        go_ret
        exact ⟨rfl, hd⟩
  · obtain rfl : b = false := (unhide HB).symm.trans (isP_long (by omega))
    clear HB hl
    have h8' : 8 < n := by omega
    go_enter Try.func22, Try.ntmps22
    go_wp2
    go_loopw [3] (fun i wr => i = .int .i64 0 ∧ w = wr) (fun i _ => 0)
    case atStart => exact ⟨rfl, rfl⟩
    case round =>
      obtain ⟨rfl, rfl⟩ := hrel
      have h8b : decide ((n : Int) ≤ 8) = false := by simp; omega
      go_wp2
      go_ret
      exact ⟨rfl, Drew.refl _⟩

end Go.Proofs.Ytcoegjhhhnfplaa


/-
  impl.ascendingArray, by its contract.
-/

namespace Go.Proofs.Ytcoegjhhhnfplaa
set_option maxRecDepth 100000
open Go.RowKit

theorem permInfo : (Try.prog.info? 97).map (·.size) = some 8 := by kernel_rfl
theorem arr_one (l : List Int) : (arr l).all (·.oneCell') = true := by
  unfold arr i64s
  simp only [List.all_toArray, List.all_map, List.all_eq_true]
  intro z _
  rfl
theorem zeros_asc : (#[Value.int .i64 0, Value.int .i64 0, Value.int .i64 0, Value.int .i64 0, Value.int .i64 0, Value.int .i64 0, Value.int .i64 0, Value.int .i64 0] : Array Value) = arr (ascL 0) := by rw [ascL_zero]; rfl
theorem below_set_row {B : Nat} {w w' : World} (hb : Below B w w') (g : Nat) (cs : Array Value) (hg : B ≤ g) : Below B w (w'.setRow g cs) :=
  hb.trans ⟨rfl, rfl, rfl, by simp [World.setRow], fun k hk => setRow_other w' g k cs (by omega)⟩

set_option maxHeartbeats 400000 in
theorem asc_any (n : Nat) (hn : n ≤ 8) (w : World) :
    Calls Try.prog 84 #[.int .i64 n] w fun e w' => e = .returned (.agg (arr (ascL n))) ∧ Below w.heap.size w w' := by
  go_enter Try.func84, Try.ntmps84
  go_wp2
  rw [zeros_asc]
  go_loopw [4, 6] (fun _ i wr => ∃ k : Nat, k ≤ n ∧ i = .int .i64 k ∧ Below w.heap.size w wr ∧ Whole wr w.heap.size 97 (arr (ascL 0)) ∧ Whole wr (w.heap.size + 1) 97 (arr (ascL k))) (fun _ i _ => n - (intOf i).toNat)
  case atStart =>
    have h1 := Whole.new w 97 (arr (ascL 0))
    have h2 := Whole.new (w.alloc (.cells (arr (ascL 0)) 97)) 97 (arr (ascL 0))
    rw [show (w.alloc (.cells (arr (ascL 0)) 97)).heap.size = w.heap.size + 1 by simp] at h2
    exact ⟨0, Nat.zero_le _, rfl, ((Below.refl _ _).alloc (Nat.le_refl _) _).alloc (by simp) _, h1.alloc _, h2⟩
  case round =>
    obtain ⟨k, hk, rfl, hb, hw0, hw1⟩ := hrel
    by_cases hlt : k < n
    · have hk8 : k < 8 := by omega
      obtain ⟨old, hold⟩ : ∃ old, wr.cell? ⟨w.heap.size + 1, k, none⟩ = some old := by
        rw [hw1.cell]
        exact ⟨_, Array.getElem?_eq_getElem (by rw [arr_size, ascL_length]; exact hk8)⟩
      have hfz := hw1.frozen k
      have n1 := hw1.put k (.int .i64 ((k : Int) + 1))
      rw [arr_set, ascL_step] at n1
      have n0 := hw0.far (p := ⟨w.heap.size + 1, k, none⟩) (by simp) (.int .i64 ((k : Int) + 1))
      have nb := hb.setCell (p := ⟨w.heap.size + 1, k, none⟩) (by simp) (.int .i64 ((k : Int) + 1))
      clear hw0 hw1 hb
      go_wp2
      go_roundw
      case rel => exact ⟨k + 1, by omega, by go_num, nb, n0, n1⟩
      case measure => simp [intOf]; omega
    · obtain rfl : n = k := by omega
      go_wp2_with (first
        | (refine wpList_load_row rfl 97 (.tmp 3) rfl (w.heap.size + 1) rfl 97 (arr (ascL n)) (0, 0) _ hw1 Try.underlying97 rfl (by rw [arr_size, ascL_length]; exact permInfo) ?_)
        | (refine wpList_store_row rfl 97 (.tmp 2) (.tmp 14) rfl w.heap.size (arr (ascL n)) rfl rfl 97 (arr (ascL 0)) hw0 (by rw [arr_size, ascL_length]; exact permInfo) (by rw [arr_size, arr_size, ascL_length, ascL_length]) (arr_one _) ?_))
      refine bodyPost_ret (v := .agg (arr (ascL n))) (results_cell_row Try.results84 _ _ w.heap.size 97 (arr (ascL n)) (0, 0) _ rfl (setRow_heap _ _ _ _ _ _ hw0) Try.underlying97 rfl (by rw [arr_size, ascL_length]; exact permInfo)) rfl ?_
      exact ⟨rfl, below_set_row hb _ _ (Nat.le_refl _)⟩
end Go.Proofs.Ytcoegjhhhnfplaa


/-
  PLAIN: arrays of integers compared.
-/

namespace Go.Proofs.Ytcoegjhhhnfplaa
set_option maxRecDepth 100000
open Go.RowKit

theorem all_at_eq : ∀ (xs ys : List Int), xs.length = ys.length → ((List.range xs.length).all fun i => xs.getD i 0 == ys.getD i 0) = (xs == ys)
  | [], [], _ => rfl
  | x :: xs, y :: ys, h => by
    have ih := all_at_eq xs ys (by simpa using h)
    rw [List.length_cons, List.range_succ_eq_map, List.all_cons, List.all_map]
    simp only [List.getD_cons_zero, Function.comp_def, List.getD_cons_succ, ih]
    simp [List.cons_beq_cons]
  | [], _ :: _, h => by simp at h
  | _ :: _, [], h => by simp at h

theorem run_equalIn_ints {P : Program} (w : World) (d : Nat) (t e : TypeId) (n : Nat) (ht : P.underlying t = some (.array n e)) (he : P.underlying e = some (.int .i64)) (hsz : ∀ w, (sizeOf e).run P w = .ok 1 w)
    (xs ys : List Int) (hx : xs.length = n) (hy : ys.length = n) :
    (Op.equalIn (d + 2) t (.agg (arr xs)) (.agg (arr ys))).run P w = .ok (xs == ys) w := by
  unfold arr i64s
  rw [← all_at_eq xs ys (hx.trans hy.symm), hx, List.range_eq_range', Op.equalIn]
  simp only [Sem.run_bind, run_underlying ht, Result.andThen_ok, hsz, Std.Legacy.Range.forIn_eq_forIn_range', Std.Legacy.Range.size, Nat.sub_zero, Nat.add_sub_cancel, Nat.div_one]
  have hl : ∀ i ∈ List.range' 0 n 1, i < n := fun i hi => by simpa using (List.mem_range'_1.1 hi).2
  generalize List.range' 0 n 1 = l at hl ⊢
  induction l with
  | nil => simp
  | cons i l ih =>
    have hi : i < n := hl i (by simp)
    have px : (part e (xs.map (Value.int .i64)).toArray (i * 1)).run P w = .ok (.int .i64 (xs.getD i 0)) w := by
      simp [part, isAgg, run_underlying he, List.getD, List.getElem?_eq_getElem (show i < xs.length by omega)]
    have py : (part e (ys.map (Value.int .i64)).toArray (i * 1)).run P w = .ok (.int .i64 (ys.getD i 0)) w := by
      simp [part, isAgg, run_underlying he, List.getD, List.getElem?_eq_getElem (show i < ys.length by omega)]
    have pe : (Op.equalIn (d + 1) e (.int .i64 (xs.getD i 0)) (.int .i64 (ys.getD i 0))).run P w = .ok (xs.getD i 0 == ys.getD i 0) w := by
      rw [run_equalIn_int w d e .i64 .i64 _ _ he]
    simp only [List.forIn_cons, Sem.run_bind, px, py, pe, Result.andThen_ok, List.all_cons]
    cases hb : (xs.getD i 0 == ys.getD i 0)
    · simp
    · simp only [Bool.not_true, Bool.false_eq_true, if_false, Sem.run_pure, Result.andThen_ok, Bool.true_and]
      exact ih fun j hj => hl j (by simp [hj])
theorem list8 {l : List Int} (h : l.length = 8) : ∃ x0 x1 x2 x3 x4 x5 x6 x7, l = [x0, x1, x2, x3, x4, x5, x6, x7] := by
  match l, h with
  | [x0, x1, x2, x3, x4, x5, x6, x7], _ => exact ⟨x0, x1, x2, x3, x4, x5, x6, x7, rfl⟩
end Go.Proofs.Ytcoegjhhhnfplaa


/-
  impl.IsPerm, by its contract.
-/

namespace Go.Proofs.Ytcoegjhhhnfplaa
set_option maxRecDepth 100000
open Go.RowKit

theorem sizeInt (w : World) : (sizeOf 3).run Try.prog w = .ok 1 w := by kernel_rfl
theorem permEq (w : World) (xs ys : List Int) (hx : xs.length = 8) (hy : ys.length = 8) : (Op.equalIn 10000 97 (.agg (arr xs)) (.agg (arr ys))).run Try.prog w = .ok (xs == ys) w :=
  run_equalIn_ints w 9998 97 3 8 Try.underlying97 Try.underlying3 sizeInt xs ys hx hy

theorem range_snoc {zs : List Int} {k : Nat} {z m : Int} (hz : zs[k]? = some z) (h1 : 1 ≤ z) (h2 : z ≤ m) (h : ∀ x ∈ zs.take k, 1 ≤ x ∧ x ≤ m) : ∀ x ∈ zs.take (k + 1), 1 ≤ x ∧ x ≤ m := by
  rw [take_snoc_i hz]
  intro x hx
  rcases List.mem_append.1 hx with hx | hx
  · exact h x hx
  · rw [List.mem_singleton] at hx
    subst hx
    exact ⟨h1, h2⟩

set_option maxHeartbeats 800000 in
theorem iisperm_any (A : Option Addr) (n c B : Nat) (zs : List Int) (b : Bool) (hb : isP zs = b) (w : World) (hr : Reads w B A n (i64s zs)) (hB : B ≤ w.heap.size) (hn : n ≤ 1048576) (hz : Small zs) :
    Calls Try.prog 44 #[.slice A n c] w fun e w' => e = .returned (.bool b) ∧ Below w.heap.size w w' := by
  have HB := hide hb
  clear hb
  have hl : zs.length = n := by have := hr.1; rwa [i64_length] at this
  by_cases h8 : n ≤ 8
  · have HL := hide hl
    clear hl
    have h8b : decide ((8 : Int) < (n : Int)) = false := by simp; omega
    go_enter Try.func44, Try.ntmps44
    go_wp2
    rw [zeros_asc]
    go_loopw [5, 11] (fun _ i wr => ∃ k : Nat, k ≤ n ∧ i = .int .i64 k ∧ Below w.heap.size w wr ∧ Whole wr w.heap.size 97 (arr (fnd (zs.take k))) ∧ Hid (∀ x ∈ zs.take k, 1 ≤ x ∧ x ≤ (n : Int))) (fun _ i _ => n - (intOf i).toNat)
    case atStart =>
      refine ⟨0, Nat.zero_le _, rfl, (Below.refl _ _).alloc (Nat.le_refl _) _, ?_, by exact (by simp : ∀ x ∈ zs.take 0, 1 ≤ x ∧ x ≤ (n : Int))⟩
      have h1 := Whole.new w 97 (arr (ascL 0))
      rw [ascL_zero] at h1 ⊢
      rw [List.take_zero, fnd_nil]
      exact h1
    case round =>
      obtain ⟨k, hk, rfl, hbw, hw0, hs⟩ := hrel
      by_cases hlt : k < n
      · obtain ⟨ad, u, rfl, had, hu, hcell⟩ := ((hr.more hB).below hbw).at_ hlt
        obtain ⟨z, hz, rfl⟩ := i64_at hu
        clear hu
        have hzs := ‹Small zs› z (List.mem_of_getElem? hz)
        obtain ⟨hzl, hzu⟩ := hzs
        have HZ := hide hz
        clear hz
        by_cases h1 : 1 ≤ z
        · by_cases h2 : z ≤ (n : Int)
          · have hz8 : z.toNat - 1 < 8 := by omega
            have h1' : ¬ z < 1 := by omega
            have h2' : ¬ (n : Int) < z := by omega
            obtain ⟨old, hold⟩ : ∃ old, wr.cell? ⟨w.heap.size, z.toNat - 1, none⟩ = some old := by
              rw [hw0.cell]
              exact ⟨_, Array.getElem?_eq_getElem (by rw [arr_size, fnd_length]; exact hz8)⟩
            have hfz := hw0.frozen (z.toNat - 1)
            have n0 := hw0.put (z.toNat - 1) (.int .i64 z)
            rw [arr_set, show z.toNat - 1 = (z - 1).toNat by omega, fnd_step h1 (by omega), ← take_snoc_i (unhide HZ), show (z - 1).toNat = z.toNat - 1 by omega] at n0
            have nb := hbw.setCell (p := ⟨w.heap.size, z.toNat - 1, none⟩) (Nat.le_refl _) (.int .i64 z)
            have hs' := hide (range_snoc (unhide HZ) h1 h2 (unhide hs))
            clear hw0 hbw hs
            go_wp2
            go_roundw
            case rel => exact ⟨k + 1, by omega, by go_num, nb, n0, hs'⟩
            case measure => simp [intOf]; omega
          · obtain rfl : b = false := (unhide HB).symm.trans (isP_no_range (unhide HZ) (by rw [unhide HL]; omega))
            have h1' : ¬ z < 1 := by omega
            have h2' : (n : Int) < z := by omega
            clear HB
            go_wp2
            go_ret
            exact ⟨rfl, hbw⟩
        · obtain rfl : b = false := (unhide HB).symm.trans (isP_no_range (unhide HZ) (by omega))
          have h1' : z < 1 := by omega
          clear HB
          go_wp2
          go_ret
          exact ⟨rfl, hbw⟩
      · obtain rfl : n = k := by omega
        have htk : zs.take n = zs := List.take_of_length_le (by rw [unhide HL]; exact Nat.le_refl _)
        rw [htk] at hw0 hs
        have heq := fun w => permEq w (fnd zs) (ascL n) (fnd_length _) (ascL_length _)
        have hfa := fnd_asc (l := zs) (by rw [unhide HL]; exact h8) (by rw [unhide HL]; exact unhide hs)
        rw [unhide HL] at hfa
        rw [hfa, unhide HB] at heq
        clear hfa htk hs HB HL h8b hk hlt hr
        obtain ⟨x0, x1, x2, x3, x4, x5, x6, x7, hx⟩ := list8 (fnd_length zs)
        rw [hx] at hw0 heq
        clear hx
        have k0 := hw0.cell 0
        have k1 := hw0.cell 1
        have k2 := hw0.cell 2
        have k3 := hw0.cell 3
        have k4 := hw0.cell 4
        have k5 := hw0.cell 5
        have k6 := hw0.cell 6
        have k7 := hw0.cell 7
        have hg := hw0.lt
        clear hw0
        have heq2 : ∀ w, (Op.equalIn 10000 97 (.agg #[.int .i64 x0, .int .i64 x1, .int .i64 x2, .int .i64 x3, .int .i64 x4, .int .i64 x5, .int .i64 x6, .int .i64 x7]) (.agg (arr (ascL n)))).run Try.prog w = .ok b w := heq
        clear heq
        simp only [arr, i64s, List.map_cons, List.map_nil] at k0 k1 k2 k3 k4 k5 k6 k7
        go_wp2
        go_region_held3 (fun w' => w'.cell? ⟨w.heap.size, 0, none⟩ = some (.int .i64 x0) ∧ w'.cell? ⟨w.heap.size, 1, none⟩ = some (.int .i64 x1) ∧ w'.cell? ⟨w.heap.size, 2, none⟩ = some (.int .i64 x2) ∧ w'.cell? ⟨w.heap.size, 3, none⟩ = some (.int .i64 x3) ∧
            w'.cell? ⟨w.heap.size, 4, none⟩ = some (.int .i64 x4) ∧ w'.cell? ⟨w.heap.size, 5, none⟩ = some (.int .i64 x5) ∧ w'.cell? ⟨w.heap.size, 6, none⟩ = some (.int .i64 x6) ∧ w'.cell? ⟨w.heap.size, 7, none⟩ = some (.int .i64 x7))
          (first
            | go_keep
            | exact ⟨(hb1.cell hg).trans k0, (hb1.cell hg).trans k1, (hb1.cell hg).trans k2, (hb1.cell hg).trans k3, (hb1.cell hg).trans k4, (hb1.cell hg).trans k5, (hb1.cell hg).trans k6, (hb1.cell hg).trans k7⟩)
          (first | (go_at_call 84; refine (asc_any n h8 _).mono ?_; rintro e w1 ⟨rfl, hb1⟩))
        go_wp2
        go_ret
        exact ⟨rfl, hbw.trans ((below_drew _ wr).trans (hb1.mono hbw.size))⟩
  · obtain rfl : b = false := (unhide HB).symm.trans (isP_long (by omega))
    clear HB hl
    have h8' : 8 < n := by omega
    go_enter Try.func44, Try.ntmps44
    go_wp2
    go_ret
    exact ⟨rfl, Below.refl _ _⟩
end Go.Proofs.Ytcoegjhhhnfplaa


/-
  spec.InversePerm and impl.InversePerm, by their contracts.
-/

namespace Go.Proofs.Ytcoegjhhhnfplaa
set_option maxRecDepth 100000
open Go.RowKit

set_option maxHeartbeats 400000 in
theorem l2inv_any (A : Option Addr) (n c B : Nat) (zs : List Int) (w : World) (h : Arg w B A n c zs) (hp : isP zs = true) :
    Calls Try.prog 54 #[.slice A n c] w (GivesI w (invFill zs zs.length)) := by
  obtain ⟨i0, hi, hz0, hz1, hz2⟩ := info_parts intInfo
  have hl := h.len
  have hr := h.reads
  have hB := h.under
  have hn8 : n ≤ 8 := by have := isP_le hp; omega
  have HL := hide hl
  have HP := hide (fun k z hz => isP_range hp (k := k) (z := z) hz)
  clear hl h hp
  go_enter Try.func54, Try.ntmps54
  go_wp2_with (first
    | (at_make; refine wpList_make_full _ rfl (.tmp 6) (.tmp 6) 24 rfl w.heap.size 3 i0 (.int .i64 0) 1 Try.underlying24 hi hz0 hz1 _ _ _ _ n rfl rfl (by first | rfl | omega) (by first | rfl | omega) (by rw [hz2]; omega) (by unfold maxLen; omega) (Nat.le_refl _) ?_; intro w1 hown hg))
  have hb1 := (Below.refl _ _).grown hg (Nat.le_refl _) (by simp)
  clear hg
  go_loopw [4] (fun i wr => ∃ k : Nat, k ≤ n ∧ i = .int .i64 k ∧ Below w.heap.size w wr ∧ wr.ownsRow w.heap.size 3 1 (.slice (some ⟨w.heap.size, 0, none⟩) n n) n (i64s (invFill zs k))) (fun i _ => n - (intOf i).toNat)
  case atStart =>
    refine ⟨0, Nat.zero_le _, rfl, hb1, ?_⟩
    rw [invFill, unhide HL, ← made_zeros]
    exact hown
  case round =>
    obtain ⟨k, hk, rfl, hb, hown'⟩ := hrel
    clear hown hb1
    by_cases hlt : k < n
    · obtain ⟨ad, u, rfl, had, hu, hc⟩ := ((hr.more hB).below hb).at_ hlt
      obtain ⟨z, hz, rfl⟩ := i64_at hu
      obtain ⟨hz1', hz2'⟩ := unhide HP k z hz
      rw [unhide HL] at hz2'
      have hzn : z.toNat - 1 < n := by omega
      obtain ⟨old, hold⟩ : ∃ old, wr.cell? ⟨w.heap.size, z.toNat - 1, none⟩ = some old := ⟨_, by rw [hown'.cellAt (z.toNat - 1) (by omega)]; exact List.getElem?_eq_getElem (by rw [i64_length, invFill_length, unhide HL]; exact hzn)⟩
      have hfz := hown'.frozenAt (z.toNat - 1)
      have ho2 := (hown'.stored (z.toNat - 1) (.int .i64 ((k : Int) + 1))).1
      have hb2 := below_set_i hb hown' (z.toNat - 1) (.int .i64 ((k : Int) + 1))
      have e : (i64s (invFill zs k)).set (z.toNat - 1) (.int .i64 ((k : Int) + 1)) = i64s (invFill zs (k + 1)) := by
        rw [← invFill_step hz]; unfold i64s; rw [List.map_set]
      rw [e] at ho2
      clear e hu hz hown' hb
      go_wp2
      go_roundw
      case rel => exact ⟨k + 1, by omega, by go_num, hb2, ho2⟩
      case measure => simp [intOf]; omega
    · obtain rfl : n = k := by omega
      have hI : Ints wr w.heap.size (.slice (some ⟨w.heap.size, 0, none⟩) n n) (invFill zs zs.length) := by rw [unhide HL]; exact Ints.of_own hown'
      clear hown'
      go_wp2
      go_ret
      exact GivesI.mk hI hb
theorem sinv_any (A : Option Addr) (n c B : Nat) (zs : List Int) (b : Bool) (hb : isP zs = b) (w : World) (h : Arg w B A n c zs) :
    Calls Try.prog 24 #[.slice A n c] w (GivesIB w (invR zs) b) := by
  have H1 := hide (sisperm_any A n c B zs b hb w h.reads h.le h.cap)
  cases b with
  | false =>
    rw [invR_no hb]
    clear hb h
    go_enter Try.func24, Try.ntmps24
    go_wp2_with fail
    refine (unhide H1).mono ?_
    rintro e w1 ⟨rfl, hd⟩
    have hb := hd.below w.heap.size
    clear hd H1
    go_wp2
    go_ret2
    exact GivesIB.mk false (Ints.made0 w1 w.heap.size hb.size) (hb.alloc hb.size _)
  | true =>
    rw [invR_yes hb]
    have H2 := hide (fun w' (hb' : Below w.heap.size w w') => l2inv_any A n c B zs w' (h.below hb') hb)
    clear hb h
    go_enter Try.func24, Try.ntmps24
    go_wp2_with fail
    refine (unhide H1).mono ?_
    rintro e w1 ⟨rfl, hd⟩
    have hb := hd.below w.heap.size
    have H3 := hide (unhide H2 w1 hb)
    clear hd H1 H2
    go_wp2_with fail
    refine (unhide H3).mono ?_
    rintro e w2 ⟨A2, c2, rfl, own2, hb2⟩
    clear H3
    go_wp2
    go_ret2
    exact GivesIB.mk true (own2.low hb.size) (below_after hb hb2)
set_option maxHeartbeats 400000 in
theorem iinv_any (A : Option Addr) (n c B : Nat) (zs : List Int) (b : Bool) (hb : isP zs = b) (w : World) (h : Arg w B A n c zs) :
    Calls Try.prog 91 #[.slice A n c] w (GivesIB w (invR zs) b) := by
  have H1 := hide (iisperm_any A n c B zs b hb w h.reads h.under h.le h.small)
  cases b with
  | false =>
    rw [invR_no hb]
    clear hb h
    go_enter Try.func91, Try.ntmps91
    go_wp2_with fail
    refine (unhide H1).mono ?_
    rintro e w1 ⟨rfl, hb⟩
    clear H1
    go_wp2
    go_ret2
    exact GivesIB.mk (v := .slice none 0 0) false (Ints.nil _ _) hb
  | true =>
    rw [invR_yes hb]
    obtain ⟨i0, hi, hz0, hz1, hz2⟩ := info_parts intInfo
    have hl := h.len
    have hr := h.reads
    have hB := h.under
    have hn8 : n ≤ 8 := by have := isP_le hb; omega
    have HL := hide hl
    have HP := hide (fun k z hz => isP_range hb (k := k) (z := z) hz)
    clear hl h hb
    go_enter Try.func91, Try.ntmps91
    go_wp2_with fail
    refine (unhide H1).mono ?_
    rintro e w0 ⟨rfl, hb0⟩
    have hs0 := hb0.size
    clear H1
    go_wp2_with (first
      | (at_make; refine wpList_make_full _ rfl (.tmp 11) (.tmp 11) 24 rfl w.heap.size 3 i0 (.int .i64 0) 1 Try.underlying24 hi hz0 hz1 _ _ _ _ n rfl rfl (by first | rfl | omega) (by first | rfl | omega) (by rw [hz2]; omega) (by unfold maxLen; omega) hs0 ?_; intro w1 hown hg))
    have hb1 := hb0.grown hg hs0 (by simp)
    clear hg hb0
    obtain ⟨g, hg⟩ : ∃ g, g = w0.heap.size := ⟨_, rfl⟩
    rw [← hg] at hown ⊢
    clear hg hs0
    go_loopw [5, 6, 15] (fun _ _ i wr => ∃ k : Nat, k ≤ n ∧ i = .int .i64 k ∧ Below w.heap.size w wr ∧ wr.ownsRow w.heap.size 3 1 (.slice (some ⟨g, 0, none⟩) n n) n (i64s (invFill zs k))) (fun _ _ i _ => n - (intOf i).toNat)
    case atStart =>
      refine ⟨0, Nat.zero_le _, rfl, hb1, ?_⟩
      rw [invFill, unhide HL, ← made_zeros]
      exact hown
    case round =>
      obtain ⟨k, hk, rfl, hb, hown'⟩ := hrel
      clear hown hb1
      by_cases hlt : k < n
      · obtain ⟨ad, u, rfl, had, hu, hc⟩ := ((hr.more hB).below hb).at_ hlt
        obtain ⟨z, hz, rfl⟩ := i64_at hu
        obtain ⟨hz1', hz2'⟩ := unhide HP k z hz
        rw [unhide HL] at hz2'
        have hzn : z.toNat - 1 < n := by omega
        obtain ⟨old, hold⟩ : ∃ old, wr.cell? ⟨g, z.toNat - 1, none⟩ = some old := ⟨_, by rw [hown'.cellAt (z.toNat - 1) (by omega)]; exact List.getElem?_eq_getElem (by rw [i64_length, invFill_length, unhide HL]; exact hzn)⟩
        have hfz := hown'.frozenAt (z.toNat - 1)
        have ho2 := (hown'.stored (z.toNat - 1) (.int .i64 ((k : Int) + 1))).1
        have hb2 := below_set_i hb hown' (z.toNat - 1) (.int .i64 ((k : Int) + 1))
        have e : (i64s (invFill zs k)).set (z.toNat - 1) (.int .i64 ((k : Int) + 1)) = i64s (invFill zs (k + 1)) := by
          rw [← invFill_step hz]; unfold i64s; rw [List.map_set]
        rw [e] at ho2
        clear e hu hz hown' hb
        go_wp2
        go_roundw
        case rel => exact ⟨k + 1, by omega, by go_num, hb2, ho2⟩
        case measure => simp [intOf]; omega
      · obtain rfl : n = k := by omega
        have hI : Ints wr w.heap.size (.slice (some ⟨g, 0, none⟩) n n) (invFill zs zs.length) := by rw [unhide HL]; exact Ints.of_own hown'
        clear hown'
        go_wp2
        go_ret2
        exact GivesIB.mk true hI hb
end Go.Proofs.Ytcoegjhhhnfplaa


/-
  spec.l2Same, slices.Equal, spec.IsInvolution, impl.IsInvolution, impl.inverseOf, by their contracts.
-/

namespace Go.Proofs.Ytcoegjhhhnfplaa
set_option maxRecDepth 100000
open Go.RowKit

theorem same_ne {p q : List Int} {k : Nat} {x y : Int} (hx : p[k]? = some x) (hy : q[k]? = some y) (h : x ≠ y) : decide (p = q) = false := by
  rw [decide_eq_false_iff_not]
  rintro rfl
  rw [hx] at hy
  exact h (Option.some.inj hy)
theorem same_len {p q : List Int} (h : p.length ≠ q.length) : decide (p = q) = false := by
  rw [decide_eq_false_iff_not]
  rintro rfl
  exact h rfl
theorem same_end {p q : List Int} {n : Nat} (h : p.take n = q.take n) (hp : p.length = n) (hq : q.length = n) : decide (p = q) = true := by
  rw [List.take_of_length_le (by omega), List.take_of_length_le (by omega)] at h
  simp [h]
set_option maxHeartbeats 400000 in
theorem l2same_any (A A' : Option Addr) (n c B n' c' B' : Nat) (p q : List Int) (b : Bool) (hb : decide (p = q) = b) (w : World) (h : Arg w B A n c p) (h' : Arg w B' A' n' c' q) :
    Calls Try.prog 92 #[.slice A n c, .slice A' n' c'] w fun e w' => e = .returned (.bool b) ∧ Drew w w' := by
  have hl := h.len
  have hl' := h'.len
  have hn := h.le
  have hn' := h'.le
  have hr := h.reads
  have hr' := h'.reads
  clear h h'
  by_cases he : n = n'
  · subst he
    have HB := hide hb
    have HL := hide hl
    have HL' := hide hl'
    clear hb hl hl'
    go_enter Try.func92, Try.ntmps92
    go_wp2
    go_loopw [5] (fun i wr => ∃ k : Nat, k ≤ n ∧ i = .int .i64 k ∧ Drew w wr ∧ Hid (p.take k = q.take k)) (fun i _ => n - (intOf i).toNat)
    case atStart => exact ⟨0, Nat.zero_le _, rfl, Drew.refl _, by exact (rfl : p.take 0 = q.take 0)⟩
    case round =>
      obtain ⟨k, hk, rfl, hd, hs⟩ := hrel
      by_cases hlt : k < n
      · obtain ⟨ad, u, rfl, _, hu, hc⟩ := (hr.ofDrew hd).at_ hlt
        obtain ⟨ad', u', rfl, _, hu', hc'⟩ := (hr'.ofDrew hd).at_ hlt
        obtain ⟨x, hx, rfl⟩ := i64_at hu
        obtain ⟨y, hy, rfl⟩ := i64_at hu'
        have HD := hide hd
        clear hu hu' hr hr' hd
        by_cases hxy : x = y
        · subst hxy
          have hnext := hide (take_same_step (unhide hs) hx hy)
          clear hx hy hs
          go_wp2
          go_quiet (fail)
          go_wp2
          go_roundw
          case rel => exact ⟨k + 1, by omega, by go_num, (unhide HD).more _, hnext⟩
          case measure => simp [intOf]; omega
        · obtain rfl : b = false := (unhide HB).symm.trans (same_ne hx hy hxy)
          have hne : (x == y) = false := by simpa using hxy
          clear hx hy hs HB hxy
          go_wp2
          go_quiet (fail)
          go_wp2
          go_ret
          exact ⟨rfl, (unhide HD).more _⟩
      · obtain rfl : n = k := by omega
        obtain rfl : b = true := (unhide HB).symm.trans (same_end (unhide hs) (unhide HL) (unhide HL'))
        clear HB hs
        go_wp2
        go_ret
        exact ⟨rfl, hd⟩
  · obtain rfl : b = false := hb.symm.trans (same_len (by omega))
    have hne : ((n : Int) == (n' : Int)) = false := by simp; omega
    clear hb hl hl' hr hr'
    go_enter Try.func92, Try.ntmps92
    go_wp2
    go_ret
    exact ⟨rfl, Drew.refl _⟩
set_option maxHeartbeats 400000 in
theorem eqsl_any (A A' : Option Addr) (n c B n' c' B' : Nat) (p q : List Int) (b : Bool) (hb : decide (p = q) = b) (w : World) (h : Arg w B A n c p) (h' : Arg w B' A' n' c' q) :
    Calls Try.prog 100 #[.slice A n c, .slice A' n' c'] w fun e w' => e = .returned (.bool b) ∧ Drew w w' := by
  have hl := h.len
  have hl' := h'.len
  have hn := h.le
  have hn' := h'.le
  have hr := h.reads
  have hr' := h'.reads
  clear h h'
  by_cases he : n = n'
  · subst he
    have HB := hide hb
    have HL := hide hl
    have HL' := hide hl'
    clear hb hl hl'
    go_enter Try.func100, Try.ntmps100
    go_wp2
    go_loopw [5, 13] (fun _ i wr => ∃ k : Nat, k ≤ n ∧ i = .int .i64 k ∧ Drew w wr ∧ Hid (p.take k = q.take k)) (fun _ i _ => n - (intOf i).toNat)
    case atStart => exact ⟨0, Nat.zero_le _, rfl, Drew.refl _, by exact (rfl : p.take 0 = q.take 0)⟩
    case round =>
      obtain ⟨k, hk, rfl, hd, hs⟩ := hrel
      by_cases hlt : k < n
      · obtain ⟨ad, u, rfl, _, hu, hc⟩ := (hr.ofDrew hd).at_ hlt
        obtain ⟨ad', u', rfl, _, hu', hc'⟩ := (hr'.ofDrew hd).at_ hlt
        obtain ⟨x, hx, rfl⟩ := i64_at hu
        obtain ⟨y, hy, rfl⟩ := i64_at hu'
        have HD := hide hd
        clear hu hu' hr hr' hd
        by_cases hxy : x = y
        · subst hxy
          have hnext := hide (take_same_step (unhide hs) hx hy)
          clear hx hy hs
          go_wp2
          go_quiet (fail)
          go_wp2
          go_roundw
          case rel => exact ⟨k + 1, by omega, by go_num, (unhide HD).more _, hnext⟩
          case measure => simp [intOf]; omega
        · obtain rfl : b = false := (unhide HB).symm.trans (same_ne hx hy hxy)
          have hne : (x == y) = false := by simpa using hxy
          clear hx hy hs HB hxy
          go_wp2
          go_quiet (fail)
          go_wp2
          go_ret
          exact ⟨rfl, (unhide HD).more _⟩
      · obtain rfl : n = k := by omega
        obtain rfl : b = true := (unhide HB).symm.trans (same_end (unhide hs) (unhide HL) (unhide HL'))
        clear HB hs
        go_wp2
        go_ret
        exact ⟨rfl, hd⟩
  · obtain rfl : b = false := hb.symm.trans (same_len (by omega))
    have hne : ((n : Int) == (n' : Int)) = false := by simp; omega
    clear hb hl hl' hr hr'
    go_enter Try.func100, Try.ntmps100
    go_wp2
    go_ret
    exact ⟨rfl, Drew.refl _⟩
theorem isP_small {p : List Int} (h : isP p = true) : Small p := fun z hz => by
  have h1 := (isP_true.1 h).2.1 z hz
  have h2 := isP_le h
  omega
theorem Ints.argP {w : World} {B n c : Nat} {A : Option Addr} {zs : List Int} (h : Ints w B (.slice A n c) zs) (hp : isP zs = true) : Arg w w.heap.size A n c zs :=
  h.arg (by have := isP_le hp; have := h.len; omega) h.cap (isP_small hp)
theorem invof_any (A : Option Addr) (n c B : Nat) (zs : List Int) (w : World) (h : Arg w B A n c zs) :
    Calls Try.prog 53 #[.slice A n c] w (GivesI w (invR zs)) := by
  have H1 := hide (iinv_any A n c B zs _ rfl w h)
  clear h
  go_enter Try.func53, Try.ntmps53
  go_wp2_with fail
  refine (unhide H1).mono ?_
  rintro e w1 ⟨A2, c2, rfl, own2, hb⟩
  clear H1
  go_wp2
  go_ret
  exact GivesI.mk own2 hb
end Go.Proofs.Ytcoegjhhhnfplaa


/-
  spec.PatternOf and impl.PatternOf, by their contracts.
-/

namespace Go.Proofs.Ytcoegjhhhnfplaa
set_option maxRecDepth 100000
open Go.RowKit

theorem bit_true (w : World) : Calls Try.prog 64 #[.bool true] w fun e w' => e = .returned (.int .i64 1) ∧ w' = w := by
  go_enter Try.func64, Try.ntmps64
  go_wp2
  go_ret
  exact ⟨rfl, rfl⟩
theorem bit_false (w : World) : Calls Try.prog 64 #[.bool false] w fun e w' => e = .returned (.int .i64 0) ∧ w' = w := by
  go_enter Try.func64, Try.ntmps64
  go_wp2
  go_ret
  exact ⟨rfl, rfl⟩
theorem cnt_at {zs : List Int} {k : Nat} {x v : Int} (h : zs[k]? = some x) : cnt (zs.take (k + 1)) v = cnt (zs.take k) v + if x < v then 1 else 0 := by rw [take_snoc_i h, cnt_snoc]

set_option maxHeartbeats 400000 in
theorem less_any (A : Option Addr) (n c B : Nat) (zs : List Int) (v : Int) (w : World) (h : Arg w B A n c zs) :
    Calls Try.prog 104 #[.slice A n c, .int .i64 v] w fun e w' => e = .returned (.int .i64 (cnt zs v : Int)) ∧ w = w' := by
  have hl := h.len
  have hn := h.le
  have hr := h.reads
  have HL := hide hl
  clear h hl
  go_enter Try.func104, Try.ntmps104
  go_wp2
  go_loop [5, 7, 10] (fun m _ i => ∃ k : Nat, k ≤ n ∧ i = .int .i64 k ∧ m = .int .i64 (cnt (zs.take k) v : Int)) (fun _ _ i => n - (intOf i).toNat)
  case atStart => exact ⟨0, Nat.zero_le _, rfl, rfl⟩
  case round =>
    obtain ⟨k, hk, rfl, rfl⟩ := hrel
    have hle := cnt_le (zs.take k) v
    have hle2 : cnt (zs.take k) v ≤ 1048576 := by have := List.length_take_le k zs; omega
    clear hle
    by_cases hlt : k < n
    · obtain ⟨ad, u, rfl, _, hu, hc⟩ := hr.at_ hlt
      obtain ⟨x, hx, rfl⟩ := i64_at hu
      have hstep := hide (cnt_at (v := v) hx)
      clear hu hx hr
      by_cases hxv : x < v
      · go_wp2
        go_round
        case rel => exact ⟨k + 1, by omega, by go_num, by rw [unhide hstep, if_pos hxv]; go_num⟩
        case measure => simp [intOf]; omega
      · go_wp2
        go_round
        case rel => exact ⟨k + 1, by omega, by go_num, by rw [unhide hstep, if_neg hxv]; rfl⟩
        case measure => simp [intOf]; omega
    · obtain rfl : n = k := by omega
      have e : zs.take n = zs := List.take_of_length_le (by rw [unhide HL]; exact Nat.le_refl _)
      rw [e] at hle2 ⊢
      clear e
      go_wp2
      go_ret
      exact ⟨rfl, rfl⟩

set_option maxHeartbeats 800000 in
theorem ipat_any (A : Option Addr) (n c B : Nat) (zs : List Int) (b : Bool) (hb : patOK zs = b) (w : World) (h : Arg w B A n c zs) :
    Calls Try.prog 121 #[.slice A n c] w (GivesIB w (patR zs) b) := by
  obtain ⟨i0, hi, hz0, hz1, hz2⟩ := info_parts intInfo
  have hl := h.len
  have hr := h.reads
  have hB := h.under
  by_cases h8 : n ≤ 8
  · have h8' : ¬ 8 < n := by omega
    have h8b : decide ((8 : Int) < (n : Int)) = false := by simp; omega
    have H2 := hide (fun v w' (hb' : Below w.heap.size w w') => less_any A n c B zs v w' (h.below hb'))
    have HL := hide hl
    have HB := hide hb
    have HC := hide (fun v => cnt_le zs v)
    clear h hl hb
    go_enter Try.func121, Try.ntmps121
    go_wp2_with (first
      | (at_make; refine wpList_make_full _ rfl (.tmp 11) (.tmp 11) 24 rfl w.heap.size 3 i0 (.int .i64 0) 1 Try.underlying24 hi hz0 hz1 _ _ _ _ n rfl rfl (by first | rfl | omega) (by first | rfl | omega) (by rw [hz2]; omega) (by unfold maxLen; omega) (Nat.le_refl _) ?_; intro w1 hown hg))
    have hb1 := (Below.refl w.heap.size w).grown hg (Nat.le_refl _) (by simp)
    clear hg
    go_loopw [5, 6, 15] (fun _ _ i wr => ∃ (k : Nat) (xs : List Value), k ≤ n ∧ i = .int .i64 k ∧ Below w.heap.size w wr ∧ wr.ownsRow w.heap.size 3 1 (.slice (some ⟨w.heap.size, 0, none⟩) n n) n xs ∧ Hid (xs.take k = (i64s (patL zs)).take k)) (fun _ _ i _ => n - (intOf i).toNat)
    case atStart => exact ⟨0, _, Nat.zero_le _, rfl, hb1, hown, by exact rfl⟩
    case round =>
      obtain ⟨k, xs, hk, rfl, hb, hown', hx⟩ := hrel
      clear hown hb1
      have hlx : xs.length = n := by simpa using hown'.1
      by_cases hlt : k < n
      · obtain ⟨ad, u, rfl, had, hu, hc⟩ := ((hr.more hB).below hb).at_ hlt
        obtain ⟨z, hz, rfl⟩ := i64_at hu
        obtain ⟨old, hold⟩ : ∃ old, wr.cell? ⟨w.heap.size, k, none⟩ = some old := ⟨_, by rw [hown'.cellAt k (by omega)]; exact List.getElem?_eq_getElem (by omega)⟩
        have hfz := hown'.frozenAt k
        have hle : cnt zs z ≤ 8 := by have := unhide HC z; rw [unhide HL] at this; omega
        have hst := hide (take_set_i (unhide hx) (i64_get (patL_at hz)) (by omega))
        have ho2 := (hown'.stored k (.int .i64 (1 + (cnt zs z : Int)))).1
        have hb2 := below_set_i hb hown' k (.int .i64 (1 + (cnt zs z : Int)))
        have H3 := hide (unhide H2 z wr hb)
        clear hx hlx hu hz hown' hb H2
        go_wp2_with fail
        refine (unhide H3).mono ?_
        rintro e w' ⟨rfl, rfl⟩
        clear H3
        go_wp2
        go_roundw
        case rel => exact ⟨k + 1, _, by omega, by go_num, hb2, ho2, hst⟩
        case measure => simp [intOf]; omega
      · obtain rfl : n = k := by omega
        have : xs = i64s (patL zs) := by
          have h := unhide hx
          rwa [List.take_of_length_le (by omega), List.take_of_length_le (by rw [i64_length, patL_length, unhide HL]; exact Nat.le_refl _)] at h
        subst this
        have hI : Ints wr w.heap.size (.slice (some ⟨w.heap.size, 0, none⟩) n n) (patL zs) := Ints.of_own hown'
        have hsm : Small (patL zs) := fun x hx => by
          have := patL_range x hx
          rw [unhide HL] at this
          omega
        have H4 := hide (iisperm_any _ n n _ (patL zs) b ((isP_pat zs).trans (unhide HB)) wr hI.reads (Nat.le_refl _) (by omega) hsm)
        clear hx hlx hown' H2 hsm
        cases b with
        | true =>
          have HR := hide (patR_yes (unhide HB))
          go_wp2_with fail
          refine (unhide H4).mono ?_
          rintro e w2 ⟨rfl, hb2⟩
          have hI2 := hI.below hb2
          rw [← unhide HR] at hI2
          clear H4
          go_wp2
          go_ret2
          exact GivesIB.mk true hI2 (below_after hb hb2)
        | false =>
          have HR := hide (patR_no (unhide HB))
          go_wp2_with fail
          refine (unhide H4).mono ?_
          rintro e w2 ⟨rfl, hb2⟩
          clear H4
          go_wp2
          go_ret2
          exact GivesIB.mk (v := .slice none 0 0) false (by rw [unhide HR]; exact Ints.nil _ _) (below_after hb hb2)
  · have hno := patOK_no8 (l := zs) (by omega)
    obtain rfl : b = false := hb.symm.trans hno
    rw [patR_no hno]
    have hn := h.le
    have h8' : 8 < n := by omega
    have h8b : decide ((8 : Int) < (n : Int)) = true := by simp; omega
    clear hb hno h hl hr
    go_enter Try.func121, Try.ntmps121
    go_wp2
    go_ret2
    exact GivesIB.mk (v := .slice none 0 0) false (Ints.nil _ _) (Below.refl _ _)
end Go.Proofs.Ytcoegjhhhnfplaa


/-
  WORDS FOR append: a list that is read, behind a row of the call's own. Nothing here speaks of a function of the program.
-/

namespace Go.Proofs.Ytcoegjhhhnfplaa
set_option maxRecDepth 100000
open Go.RowKit

theorem i64_append (xs ys : List Int) : i64s xs ++ i64s ys = i64s (xs ++ ys) := by unfold i64s; rw [List.map_append]
theorem i64_one (xs : List Int) : ∀ u ∈ i64s xs, u.oneCell' = true := fun u hu => by
  unfold i64s at hu
  obtain ⟨z, _, rfl⟩ := List.mem_map.1 hu
  rfl
/-- 'append(s, x...)', s a row of the call's own, x a list that is read: at the operation, at the list of a plain region, at a step of a region that draws. -/
theorem wp_append_arg {o : Oper} {a : Act} {W : World} {K : Act → World → Prop} {Q : Exit → Act → World → Prop} (s x : Operand)
    (ho : o.op = .call { callee := .builtin .append, args := #[s, x], argTypes := #[24, 24] })
    (base B m n c : Nat) (w0 : World) (v : Value) (A : Option Addr) (xs zs : List Int) (hs : a.eval s = v) (hx : a.eval x = .slice A n c) (hown : W.ownsRow base 3 1 v m (i64s xs)) (h : Arg W B A n c zs)
    (hm : m ≤ 1099511627776) (hb : Below base w0 W) (hbase : base ≤ W.heap.size)
    (hK : ∀ v' w', w'.ownsRow base 3 1 v' (m + n) (i64s (xs ++ zs)) → Below base w0 w' → W.grownBy w' v.ownBlock → K (a.put o.dst v') w') : o.wp Try.prog a W K Q := by
  obtain ⟨i0, hi, hz0, hz1, hz2⟩ := info_parts intInfo
  have hn := h.le
  have hl := h.len
  cases A with
  | none =>
    obtain rfl : c = 0 := h.nil rfl
    have hc := h.cap
    obtain rfl : n = 0 := by omega
    obtain rfl := List.eq_nil_of_length_eq_zero hl
    have hrun := run_append_owned_none (P := Try.prog) (w := W) base 24 o.type 3 i0 1 Try.underlying24 hi v m _ hown
    unfold Oper.wp execOp
    simp only [ho, resolve, invoke, builtin, Sem.run_bind, Sem.run_pure, Result.andThen_ok, List.map_toArray, List.map_cons, List.map_nil, hs, hx, hrun]
    exact hK v W (by rw [List.append_nil]; exact hown) hb (World.grownBy.refl W _)
  | some ad =>
    have hr := h.reads
    refine wp_append_own W s x 24 ho base 3 i0 (.int .i64 0) 1 8 Try.underlying24 hi hz0 hz1 hz2 rfl (by decide) v m _ hs hown ad n c (i64s zs) hx (by rw [i64_length, hl]; omega) ?_ (i64_one zs) (by unfold maxLen; omega) (by omega) hbase ?_
    · intro j u hu
      have hj : j < n := by have := (List.getElem?_eq_some_iff.1 hu).1; rw [i64_length, hl] at this; exact this
      obtain ⟨ad', he, _, hc⟩ := hr.2 (by omega)
      injection he with he
      subst he
      exact hc j u hu
    · intro v' w' h1 h2 _
      rw [i64_append] at h1
      exact hK v' w' h1 (hb.grown h2 hbase (fun k hk => (hown.lt k hk).1)) h2
theorem wpList_append_arg {ops : Array Oper} {rest : List Oper} {o : Oper} {a : Act} {W : World} {Q : Exit → Act → World → Prop} (hgd : o.guard = none) (s x : Operand)
    (ho : o.op = .call { callee := .builtin .append, args := #[s, x], argTypes := #[24, 24] })
    (base B m n c : Nat) (w0 : World) (v : Value) (A : Option Addr) (xs zs : List Int) (hs : a.eval s = v) (hx : a.eval x = .slice A n c) (hown : W.ownsRow base 3 1 v m (i64s xs)) (h : Arg W B A n c zs)
    (hm : m ≤ 1099511627776) (hb : Below base w0 W) (hbase : base ≤ W.heap.size)
    (K : ∀ v' w', w'.ownsRow base 3 1 v' (m + n) (i64s (xs ++ zs)) → Below base w0 w' → W.grownBy w' v.ownBlock → wpList Try.prog ops Q rest (a.put o.dst v') w') : wpList Try.prog ops Q (o :: rest) a W :=
  wpList_plain hgd fun _ hK => wp_append_arg s x ho base B m n c w0 v A xs zs hs hx hown h hm hb hbase fun v' w' h1 h2 h3 => hK _ _ (K v' w' h1 h2 h3)
theorem step_append_arg {ops : Array Oper} {o : Oper} {a : Act} {W : World} {K : Act → World → Prop} {Q : Exit → Act → World → Prop} {E : Prop} (hgd : o.guard = none) (s x : Operand)
    (ho : o.op = .call { callee := .builtin .append, args := #[s, x], argTypes := #[24, 24] })
    (base B m n c : Nat) (w0 : World) (v : Value) (A : Option Addr) (xs zs : List Int) (hs : a.eval s = v) (hx : a.eval x = .slice A n c) (hown : W.ownsRow base 3 1 v m (i64s xs)) (h : Arg W B A n c zs)
    (hm : m ≤ 1099511627776) (hb : Below base w0 W) (hbase : base ≤ W.heap.size)
    (hK : ∀ v' w', w'.ownsRow base 3 1 v' (m + n) (i64s (xs ++ zs)) → Below base w0 w' → W.grownBy w' v.ownBlock → K (a.put o.dst v') w') :
    if Region.wanted o (yielded ops a.tmps) = true then Oper.wp Try.prog o a W K Q else E := by
  have hw : Region.wanted o (yielded ops a.tmps) = true := by simp [Region.wanted, hgd]
  rw [if_pos hw]
  exact wp_append_arg s x ho base B m n c w0 v A xs zs hs hx hown h hm hb hbase hK

theorem reads_new (w : World) (v : Value) (t : TypeId) : Reads (w.alloc (.cells #[v] t)) (w.heap.size + 1) (some ⟨w.heap.size, 0, none⟩) 1 [v] := ⟨rfl, fun _ => ⟨_, rfl, by simp, fun j u hu => by
  rw [show (⟨w.heap.size, 0, none⟩ : Addr).add j = ⟨w.heap.size, j, none⟩ by unfold Addr.add; split <;> simp_all, World.cell?_alloc_new]
  simpa using hu⟩⟩
/-- 'append(s, z)' at a step of a region that draws: the one cell lies in the region's own new block. -/
theorem step_append_one {ops : Array Oper} {o : Oper} {a : Act} {W : World} {K : Act → World → Prop} {Q : Exit → Act → World → Prop} {E : Prop} (hgd : o.guard = none) (s x : Operand)
    (ho : o.op = .call { callee := .builtin .append, args := #[s, x], argTypes := #[24, 24] })
    (base m : Nat) (w0 wr : World) (v : Value) (xs : List Int) (z : Int) (hs : a.eval s = v) (hx : a.eval x = .slice (some ⟨wr.heap.size, 0, none⟩) 1 1) (hW : W = (wr.alloc (.cells #[.int .i64 z] 3)).drew) (hown : wr.ownsRow base 3 1 v m (i64s xs))
    (hz : -9223372036854775808 ≤ z ∧ z ≤ 9223372036854775807) (hm : m ≤ 1099511627776) (hb : Below base w0 wr) (hbase : base ≤ wr.heap.size)
    (hK : ∀ v' w', w'.ownsRow base 3 1 v' (m + 1) (i64s (xs ++ [z])) → Below base w0 w' → K (a.put o.dst v') w') :
    if Region.wanted o (yielded ops a.tmps) = true then Oper.wp Try.prog o a W K Q else E := by
  subst hW
  have hal := (Below.refl wr.heap.size wr).alloc (Nat.le_refl _) (.cells #[.int .i64 z] 3)
  have hb2 : Below wr.heap.size wr (wr.alloc (.cells #[.int .i64 z] 3)).drew := hal.drew
  refine step_append_arg hgd s x ho base (wr.heap.size + 1) m 1 1 w0 v (some ⟨wr.heap.size, 0, none⟩) xs [z] hs hx (own_below hown hb2) ?_ hm (hb.trans (hb2.mono hbase)) (Nat.le_trans hbase hb2.size) fun v' w' h1 h2 _ => hK v' w' h1 h2
  refine ⟨(reads_new wr (.int .i64 z) 3).drew, by simp, by omega, Nat.le_refl _, fun y hy => ?_, fun e => by cases e⟩
  rw [List.mem_singleton] at hy
  subst hy
  exact hz

theorem own_cut {w : World} {B g n cap s : Nat} {e : TypeId} {xs : List Value} (h : w.ownsRow B e 1 (.slice (some ⟨g, 0, none⟩) n cap) n xs) (hs : s ≤ n) : w.ownsRow B e 1 (.slice (some ⟨g, 0, none⟩) s cap) s (xs.take s) := by
  have hl : xs.length = n := by simpa using h.1
  refine ⟨by rw [List.length_take]; omega, ?_⟩
  rcases h.2 with ⟨hv, _⟩ | ⟨g', cap', cur, hv, hb, hg, hnc, hc, hsz, ht⟩
  · cases hv
  · injection hv with h1 h2 h3
    injection h1 with h1
    injection h1 with h1
    subst h1; subst h3
    refine .inr ⟨g, cap, cur, rfl, hb, hg, by omega, hc, hsz, ?_⟩
    rw [← ht, Nat.mul_one, Nat.mul_one, List.take_take, Nat.min_eq_left hs]
theorem own_rest {w : World} {B g n cap s : Nat} {e : TypeId} {xs : List Value} (h : w.ownsRow B e 1 (.slice (some ⟨g, 0, none⟩) n cap) n xs) (hs : s ≤ n) : Reads w w.heap.size (some ⟨g, s, none⟩) (n - s) (xs.drop s) := by
  have hr := Reads.of_own_at h
  have hl := hr.1
  refine ⟨by rw [List.length_drop]; omega, fun h0 => ?_⟩
  obtain ⟨ad, he, hb, hc⟩ := hr.2 (by omega)
  injection he with he
  subst he
  refine ⟨_, rfl, hb, fun j u hu => ?_⟩
  rw [List.getElem?_drop] at hu
  have := hc (s + j) u hu
  rw [show (⟨g, 0, none⟩ : Addr).add (s + j) = ⟨g, s + j, none⟩ by unfold Addr.add; split <;> simp_all] at this
  rw [show (⟨g, s, none⟩ : Addr).add j = ⟨g, s + j, none⟩ by unfold Addr.add; split <;> simp_all]
  exact this
theorem own_first {w : World} {base n : Nat} {v : Value} {xs : List Value} {e : TypeId} (h : w.ownsRow base e 1 v n xs) (hn : 0 < n) : ∃ g c, v = .slice (some ⟨g, 0, none⟩) n c ∧ base ≤ g ∧ n ≤ c := by
  rcases h.2 with ⟨_, h0⟩ | ⟨g, cap, cur, rfl, hb, hg, hnc, _⟩
  · omega
  · exact ⟨g, cap, rfl, hb, hnc⟩
/-! the same for rows of rows: x reads as the values news -/
theorem rowsInfo1 : (Try.prog.info? 24).map (fun i => (i.zero, i.size, i.bytes)) = some (some (.slice none 0 0), 1, 24) := by kernel_rfl
theorem wp_append_rows {o : Oper} {a : Act} {W : World} {K : Act → World → Prop} {Q : Exit → Act → World → Prop} (s x : Operand)
    (ho : o.op = .call { callee := .builtin .append, args := #[s, x], argTypes := #[25, 25] })
    (base B m n c : Nat) (w0 : World) (v : Value) (A : Option Addr) (xs news : List Value) (hs : a.eval s = v) (hx : a.eval x = .slice A n c) (hown : W.ownsRow base 24 1 v m xs) (hr : Reads W B A n news) (hA : A = none → c = 0) (h1 : ∀ u ∈ news, u.oneCell' = true)
    (hm : m ≤ 1099511627776) (hn : n ≤ 1099511627776) (hb : Below base w0 W) (hbase : base ≤ W.heap.size)
    (hK : ∀ v' w', w'.ownsRow base 24 1 v' (m + n) (xs ++ news) → Below base w0 w' → W.grownBy w' v.ownBlock → (v' = .slice none 0 0 → v = .slice none 0 0) → K (a.put o.dst v') w') : o.wp Try.prog a W K Q := by
  obtain ⟨i0, hi, hz0, hz1, hz2⟩ := info_parts rowsInfo1
  cases A with
  | none =>
    obtain rfl : c = 0 := hA rfl
    obtain rfl : n = 0 := by
      by_cases h0 : 0 < n
      · obtain ⟨ad, he, _⟩ := hr.2 h0
        cases he
      · omega
    obtain rfl := List.eq_nil_of_length_eq_zero hr.1
    have hrun := run_append_owned_none (P := Try.prog) (w := W) base 25 o.type 24 i0 1 Try.underlying25 hi v m _ hown
    unfold Oper.wp execOp
    simp only [ho, resolve, invoke, builtin, Sem.run_bind, Sem.run_pure, Result.andThen_ok, List.map_toArray, List.map_cons, List.map_nil, hs, hx, hrun]
    exact hK v W (by rw [List.append_nil]; exact hown) hb (World.grownBy.refl W _) id
  | some ad =>
    refine wp_append_own W s x 25 ho base 24 i0 (.slice none 0 0) 1 24 Try.underlying25 hi hz0 hz1 hz2 rfl (by decide) v m _ hs hown ad n c news hx (by rw [hr.1]; omega) ?_ h1 (by unfold maxLen; omega) (by omega) hbase ?_
    · intro j u hu
      have hj : j < n := by have := (List.getElem?_eq_some_iff.1 hu).1; have := hr.1; omega
      obtain ⟨ad', he, _, hc⟩ := hr.2 (by omega)
      injection he with he
      subst he
      exact hc j u hu
    · intro v' w' h1 h2 h3
      exact hK v' w' h1 (hb.grown h2 hbase (fun k hk => (hown.lt k hk).1)) h2 (fun e => (h3.1 e).1)
theorem wpList_append_rows {ops : Array Oper} {rest : List Oper} {o : Oper} {a : Act} {W : World} {Q : Exit → Act → World → Prop} (hgd : o.guard = none) (s x : Operand)
    (ho : o.op = .call { callee := .builtin .append, args := #[s, x], argTypes := #[25, 25] })
    (base B m n c : Nat) (w0 : World) (v : Value) (A : Option Addr) (xs news : List Value) (hs : a.eval s = v) (hx : a.eval x = .slice A n c) (hown : W.ownsRow base 24 1 v m xs) (hr : Reads W B A n news) (hA : A = none → c = 0) (h1 : ∀ u ∈ news, u.oneCell' = true)
    (hm : m ≤ 1099511627776) (hn : n ≤ 1099511627776) (hb : Below base w0 W) (hbase : base ≤ W.heap.size)
    (K : ∀ v' w', w'.ownsRow base 24 1 v' (m + n) (xs ++ news) → Below base w0 w' → W.grownBy w' v.ownBlock → (v' = .slice none 0 0 → v = .slice none 0 0) → wpList Try.prog ops Q rest (a.put o.dst v') w') : wpList Try.prog ops Q (o :: rest) a W :=
  wpList_plain hgd fun _ hK => wp_append_rows s x ho base B m n c w0 v A xs news hs hx hown hr hA h1 hm hn hb hbase fun v' w' h1 h2 h3 h4 => hK _ _ (K v' w' h1 h2 h3 h4)
theorem step_append_rows {ops : Array Oper} {o : Oper} {a : Act} {W : World} {K : Act → World → Prop} {Q : Exit → Act → World → Prop} {E : Prop} (hgd : o.guard = none) (s x : Operand)
    (ho : o.op = .call { callee := .builtin .append, args := #[s, x], argTypes := #[25, 25] })
    (base B m n c : Nat) (w0 : World) (v : Value) (A : Option Addr) (xs news : List Value) (hs : a.eval s = v) (hx : a.eval x = .slice A n c) (hown : W.ownsRow base 24 1 v m xs) (hr : Reads W B A n news) (hA : A = none → c = 0) (h1 : ∀ u ∈ news, u.oneCell' = true)
    (hm : m ≤ 1099511627776) (hn : n ≤ 1099511627776) (hb : Below base w0 W) (hbase : base ≤ W.heap.size)
    (hK : ∀ v' w', w'.ownsRow base 24 1 v' (m + n) (xs ++ news) → Below base w0 w' → W.grownBy w' v.ownBlock → (v' = .slice none 0 0 → v = .slice none 0 0) → K (a.put o.dst v') w') :
    if Region.wanted o (yielded ops a.tmps) = true then Oper.wp Try.prog o a W K Q else E := by
  have hw : Region.wanted o (yielded ops a.tmps) = true := by simp [Region.wanted, hgd]
  rw [if_pos hw]
  exact wp_append_rows s x ho base B m n c w0 v A xs news hs hx hown hr hA h1 hm hn hb hbase hK
end Go.Proofs.Ytcoegjhhhnfplaa
