/-
  Words and contracts that the laws lean on, bundled: ArrEq, IsPerm, Pat, PermB, SymM, PermL, SumM, Same, App.
-/
import Derived.Test.YtcnmnpbipencmaaB1
import Derived.Laws.StructEq
import Derived.Test.YtcnmnpbipencmaaProg
import Derived.Deep.RegionHeld3
import Derived.IntWalk
import Derived.Laws.AppendOwnNone

/-
  PLAIN: arrays of integers compared.
-/

namespace Go.Proofs.Ytcnmnpbipencmaa
set_option maxRecDepth 100000
open Go.RowKit

theorem all_at_eq : ∀ (xs ys : List Int), xs.length = ys.length → ((List.range xs.length).all fun i => xs.getD i 0 == ys.getD i 0) = (xs == ys)
  | [], [], _ => rfl
  | x :: xs, y :: ys, h => by
    have ih := all_at_eq xs ys (by simpa using h)
    rw [List.length_cons, List.range_succ_eq_map, List.all_cons, List.all_map]
    simp only [List.getD_cons_zero, Function.comp_def, List.getD_cons_succ, ih]
    simp [List.cons_beq_cons]
  | [], _ :: _, h => by simp at h
  | _ :: _, [], h => by simp at h

theorem run_equalIn_ints {P : Program} (w : World) (d : Nat) (t e : TypeId) (n : Nat) (ht : P.underlying t = some (.array n e)) (he : P.underlying e = some (.int .i64)) (hsz : ∀ w, (sizeOf e).run P w = .ok 1 w)
    (xs ys : List Int) (hx : xs.length = n) (hy : ys.length = n) :
    (Op.equalIn (d + 2) t (.agg (arr xs)) (.agg (arr ys))).run P w = .ok (xs == ys) w := by
  unfold arr i64s
  rw [← all_at_eq xs ys (hx.trans hy.symm), hx, List.range_eq_range', Op.equalIn]
  simp only [Sem.run_bind, run_underlying ht, Result.andThen_ok, hsz, Std.Legacy.Range.forIn_eq_forIn_range', Std.Legacy.Range.size, Nat.sub_zero, Nat.add_sub_cancel, Nat.div_one]
  have hl : ∀ i ∈ List.range' 0 n 1, i < n := fun i hi => by simpa using (List.mem_range'_1.1 hi).2
  generalize List.range' 0 n 1 = l at hl ⊢
  induction l with
  | nil => simp
  | cons i l ih =>
    have hi : i < n := hl i (by simp)
    have px : (part e (xs.map (Value.int .i64)).toArray (i * 1)).run P w = .ok (.int .i64 (xs.getD i 0)) w := by
      simp [part, isAgg, run_underlying he, List.getD, List.getElem?_eq_getElem (show i < xs.length by omega)]
    have py : (part e (ys.map (Value.int .i64)).toArray (i * 1)).run P w = .ok (.int .i64 (ys.getD i 0)) w := by
      simp [part, isAgg, run_underlying he, List.getD, List.getElem?_eq_getElem (show i < ys.length by omega)]
    have pe : (Op.equalIn (d + 1) e (.int .i64 (xs.getD i 0)) (.int .i64 (ys.getD i 0))).run P w = .ok (xs.getD i 0 == ys.getD i 0) w := by
      rw [run_equalIn_int w d e .i64 .i64 _ _ he]
    simp only [List.forIn_cons, Sem.run_bind, px, py, pe, Result.andThen_ok, List.all_cons]
    cases hb : (xs.getD i 0 == ys.getD i 0)
    · simp
    · simp only [Bool.not_true, Bool.false_eq_true, if_false, Sem.run_pure, Result.andThen_ok, Bool.true_and]
      exact ih fun j hj => hl j (by simp [hj])
theorem list8 {l : List Int} (h : l.length = 8) : ∃ x0 x1 x2 x3 x4 x5 x6 x7, l = [x0, x1, x2, x3, x4, x5, x6, x7] := by
  match l, h with
  | [x0, x1, x2, x3, x4, x5, x6, x7], _ => exact ⟨x0, x1, x2, x3, x4, x5, x6, x7, rfl⟩
end Go.Proofs.Ytcnmnpbipencmaa


/-
  impl.IsPerm, by its contract.
-/

namespace Go.Proofs.Ytcnmnpbipencmaa
set_option maxRecDepth 100000
open Go.RowKit

theorem sizeInt (w : World) : (sizeOf 3).run Try.prog w = .ok 1 w := by kernel_rfl
theorem permEq (w : World) (xs ys : List Int) (hx : xs.length = 8) (hy : ys.length = 8) : (Op.equalIn 10000 56 (.agg (arr xs)) (.agg (arr ys))).run Try.prog w = .ok (xs == ys) w :=
  run_equalIn_ints w 9998 56 3 8 Try.underlying56 Try.underlying3 sizeInt xs ys hx hy

theorem range_snoc {zs : List Int} {k : Nat} {z m : Int} (hz : zs[k]? = some z) (h1 : 1 ≤ z) (h2 : z ≤ m) (h : ∀ x ∈ zs.take k, 1 ≤ x ∧ x ≤ m) : ∀ x ∈ zs.take (k + 1), 1 ≤ x ∧ x ≤ m := by
  rw [take_snoc_i hz]
  intro x hx
  rcases List.mem_append.1 hx with hx | hx
  · exact h x hx
  · rw [List.mem_singleton] at hx
    subst hx
    exact ⟨h1, h2⟩

set_option maxHeartbeats 800000 in
theorem iisperm_any (A : Option Addr) (n c B : Nat) (zs : List Int) (b : Bool) (hb : isP zs = b) (w : World) (hr : Reads w B A n (i64s zs)) (hB : B ≤ w.heap.size) (hn : n ≤ 1048576) (hz : Small zs) :
    Calls Try.prog 49 #[.slice A n c] w fun e w' => e = .returned (.bool b) ∧ Below w.heap.size w w' := by
  have HB := hide hb
  clear hb
  have hl : zs.length = n := by have := hr.1; rwa [i64_length] at this
  by_cases h8 : n ≤ 8
  · have HL := hide hl
    clear hl
    have h8b : decide ((8 : Int) < (n : Int)) = false := by simp; omega
    go_enter Try.func49, Try.ntmps49
    go_wp2
    rw [zeros_asc]
    go_loopw [5, 11] (fun _ i wr => ∃ k : Nat, k ≤ n ∧ i = .int .i64 k ∧ Below w.heap.size w wr ∧ Whole wr w.heap.size 56 (arr (fnd (zs.take k))) ∧ Hid (∀ x ∈ zs.take k, 1 ≤ x ∧ x ≤ (n : Int))) (fun _ i _ => n - (intOf i).toNat)
    case atStart =>
      refine ⟨0, Nat.zero_le _, rfl, (Below.refl _ _).alloc (Nat.le_refl _) _, ?_, by exact (by simp : ∀ x ∈ zs.take 0, 1 ≤ x ∧ x ≤ (n : Int))⟩
      have h1 := Whole.new w 56 (arr (ascL 0))
      rw [ascL_zero] at h1 ⊢
      rw [List.take_zero, fnd_nil]
      exact h1
    case round =>
      obtain ⟨k, hk, rfl, hbw, hw0, hs⟩ := hrel
      by_cases hlt : k < n
      · obtain ⟨ad, u, rfl, had, hu, hcell⟩ := ((hr.more hB).below hbw).at_ hlt
        obtain ⟨z, hz, rfl⟩ := i64_at hu
        clear hu
        have hzs := ‹Small zs› z (List.mem_of_getElem? hz)
        obtain ⟨hzl, hzu⟩ := hzs
        have HZ := hide hz
        clear hz
        by_cases h1 : 1 ≤ z
        · by_cases h2 : z ≤ (n : Int)
          · have hz8 : z.toNat - 1 < 8 := by omega
            have h1' : ¬ z < 1 := by omega
            have h2' : ¬ (n : Int) < z := by omega
            obtain ⟨old, hold⟩ : ∃ old, wr.cell? ⟨w.heap.size, z.toNat - 1, none⟩ = some old := by
              rw [hw0.cell]
              exact ⟨_, Array.getElem?_eq_getElem (by rw [arr_size, fnd_length]; exact hz8)⟩
            have hfz := hw0.frozen (z.toNat - 1)
            have n0 := hw0.put (z.toNat - 1) (.int .i64 z)
            rw [arr_set, show z.toNat - 1 = (z - 1).toNat by omega, fnd_step h1 (by omega), ← take_snoc_i (unhide HZ), show (z - 1).toNat = z.toNat - 1 by omega] at n0
            have nb := hbw.setCell (p := ⟨w.heap.size, z.toNat - 1, none⟩) (Nat.le_refl _) (.int .i64 z)
            have hs' := hide (range_snoc (unhide HZ) h1 h2 (unhide hs))
            clear hw0 hbw hs
            go_wp2
            go_roundw
            case rel => exact ⟨k + 1, by omega, by go_num, nb, n0, hs'⟩
            case measure => simp [intOf]; omega
          · obtain rfl : b = false := (unhide HB).symm.trans (isP_no_range (unhide HZ) (by rw [unhide HL]; omega))
            have h1' : ¬ z < 1 := by omega
            have h2' : (n : Int) < z := by omega
            clear HB
            go_wp2
            go_ret
            exact ⟨rfl, hbw⟩
        · obtain rfl : b = false := (unhide HB).symm.trans (isP_no_range (unhide HZ) (by omega))
          have h1' : z < 1 := by omega
          clear HB
          go_wp2
          go_ret
          exact ⟨rfl, hbw⟩
      · obtain rfl : n = k := by omega
        have htk : zs.take n = zs := List.take_of_length_le (by rw [unhide HL]; exact Nat.le_refl _)
        rw [htk] at hw0 hs
        have heq := fun w => permEq w (fnd zs) (ascL n) (fnd_length _) (ascL_length _)
        have hfa := fnd_asc (l := zs) (by rw [unhide HL]; exact h8) (by rw [unhide HL]; exact unhide hs)
        rw [unhide HL] at hfa
        rw [hfa, unhide HB] at heq
        clear hfa htk hs HB HL h8b hk hlt hr
        obtain ⟨x0, x1, x2, x3, x4, x5, x6, x7, hx⟩ := list8 (fnd_length zs)
        rw [hx] at hw0 heq
        clear hx
        have k0 := hw0.cell 0
        have k1 := hw0.cell 1
        have k2 := hw0.cell 2
        have k3 := hw0.cell 3
        have k4 := hw0.cell 4
        have k5 := hw0.cell 5
        have k6 := hw0.cell 6
        have k7 := hw0.cell 7
        have hg := hw0.lt
        clear hw0
        have heq2 : ∀ w, (Op.equalIn 10000 56 (.agg #[.int .i64 x0, .int .i64 x1, .int .i64 x2, .int .i64 x3, .int .i64 x4, .int .i64 x5, .int .i64 x6, .int .i64 x7]) (.agg (arr (ascL n)))).run Try.prog w = .ok b w := heq
        clear heq
        simp only [arr, i64s, List.map_cons, List.map_nil] at k0 k1 k2 k3 k4 k5 k6 k7
        go_wp2
        go_region_held3 (fun w' => w'.cell? ⟨w.heap.size, 0, none⟩ = some (.int .i64 x0) ∧ w'.cell? ⟨w.heap.size, 1, none⟩ = some (.int .i64 x1) ∧ w'.cell? ⟨w.heap.size, 2, none⟩ = some (.int .i64 x2) ∧ w'.cell? ⟨w.heap.size, 3, none⟩ = some (.int .i64 x3) ∧
            w'.cell? ⟨w.heap.size, 4, none⟩ = some (.int .i64 x4) ∧ w'.cell? ⟨w.heap.size, 5, none⟩ = some (.int .i64 x5) ∧ w'.cell? ⟨w.heap.size, 6, none⟩ = some (.int .i64 x6) ∧ w'.cell? ⟨w.heap.size, 7, none⟩ = some (.int .i64 x7))
          (first
            | go_keep
            | exact ⟨(hb1.cell hg).trans k0, (hb1.cell hg).trans k1, (hb1.cell hg).trans k2, (hb1.cell hg).trans k3, (hb1.cell hg).trans k4, (hb1.cell hg).trans k5, (hb1.cell hg).trans k6, (hb1.cell hg).trans k7⟩)
          (first | (go_at_call 66; refine (asc_any n h8 _).mono ?_; rintro e w1 ⟨rfl, hb1⟩))
        go_wp2
        go_ret
        exact ⟨rfl, hbw.trans ((below_drew _ wr).trans (hb1.mono hbw.size))⟩
  · obtain rfl : b = false := (unhide HB).symm.trans (isP_long (by omega))
    clear HB hl
    have h8' : 8 < n := by omega
    go_enter Try.func49, Try.ntmps49
    go_wp2
    go_ret
    exact ⟨rfl, Below.refl _ _⟩
end Go.Proofs.Ytcnmnpbipencmaa


/-
  spec.PatternOf and impl.PatternOf, by their contracts.
-/

namespace Go.Proofs.Ytcnmnpbipencmaa
set_option maxRecDepth 100000
open Go.RowKit

theorem bit_true (w : World) : Calls Try.prog 52 #[.bool true] w fun e w' => e = .returned (.int .i64 1) ∧ w' = w := by
  go_enter Try.func52, Try.ntmps52
  go_wp2
  go_ret
  exact ⟨rfl, rfl⟩
theorem bit_false (w : World) : Calls Try.prog 52 #[.bool false] w fun e w' => e = .returned (.int .i64 0) ∧ w' = w := by
  go_enter Try.func52, Try.ntmps52
  go_wp2
  go_ret
  exact ⟨rfl, rfl⟩
theorem cnt_at {zs : List Int} {k : Nat} {x v : Int} (h : zs[k]? = some x) : cnt (zs.take (k + 1)) v = cnt (zs.take k) v + if x < v then 1 else 0 := by rw [take_snoc_i h, cnt_snoc]

set_option maxHeartbeats 400000 in
theorem less_any (A : Option Addr) (n c B : Nat) (zs : List Int) (v : Int) (w : World) (h : Arg w B A n c zs) :
    Calls Try.prog 50 #[.slice A n c, .int .i64 v] w fun e w' => e = .returned (.int .i64 (cnt zs v : Int)) ∧ w = w' := by
  have hl := h.len
  have hn := h.le
  have hr := h.reads
  have HL := hide hl
  clear h hl
  go_enter Try.func50, Try.ntmps50
  go_wp2
  go_loop [5, 7, 10] (fun m _ i => ∃ k : Nat, k ≤ n ∧ i = .int .i64 k ∧ m = .int .i64 (cnt (zs.take k) v : Int)) (fun _ _ i => n - (intOf i).toNat)
  case atStart => exact ⟨0, Nat.zero_le _, rfl, rfl⟩
  case round =>
    obtain ⟨k, hk, rfl, rfl⟩ := hrel
    have hle := cnt_le (zs.take k) v
    have hle2 : cnt (zs.take k) v ≤ 1048576 := by have := List.length_take_le k zs; omega
    clear hle
    by_cases hlt : k < n
    · obtain ⟨ad, u, rfl, _, hu, hc⟩ := hr.at_ hlt
      obtain ⟨x, hx, rfl⟩ := i64_at hu
      have hstep := hide (cnt_at (v := v) hx)
      clear hu hx hr
      by_cases hxv : x < v
      · go_wp2
        go_round
        case rel => exact ⟨k + 1, by omega, by go_num, by rw [unhide hstep, if_pos hxv]; go_num⟩
        case measure => simp [intOf]; omega
      · go_wp2
        go_round
        case rel => exact ⟨k + 1, by omega, by go_num, by rw [unhide hstep, if_neg hxv]; rfl⟩
        case measure => simp [intOf]; omega
    · obtain rfl : n = k := by omega
      have e : zs.take n = zs := List.take_of_length_le (by rw [unhide HL]; exact Nat.le_refl _)
      rw [e] at hle2 ⊢
      clear e
      go_wp2
      go_ret
      exact ⟨rfl, rfl⟩

end Go.Proofs.Ytcnmnpbipencmaa


/-
  PLAIN: the order of lists. Nothing here speaks of the program.
-/

namespace Go.Proofs.Ytcnmnpbipencmaa
set_option maxRecDepth 100000

/-- At the first place where they differ the first is less. -/
def lexL : List Int → List Int → Bool
  | x :: xs, y :: ys => if x = y then lexL xs ys else decide (x < y)
  | _, _ => false
theorem lexL_same : ∀ p : List Int, lexL p p = false
  | [] => rfl
  | x :: xs => by rw [lexL, if_pos rfl]; exact lexL_same xs
theorem lexL_at : ∀ {p q : List Int} {k : Nat} {x y : Int}, p.take k = q.take k → p[k]? = some x → q[k]? = some y → x ≠ y → lexL p q = decide (x < y)
  | a :: p, b :: q, 0, x, y, _, hx, hy, hne => by
    simp at hx hy
    subst hx; subst hy
    rw [lexL, if_neg hne]
  | a :: p, b :: q, k + 1, x, y, h, hx, hy, hne => by
    simp at h
    obtain ⟨rfl, h⟩ := h
    rw [lexL, if_pos rfl]
    exact lexL_at h (by simpa using hx) (by simpa using hy) hne
  | [], _, k, _, _, _, hx, _, _ => by simp at hx
  | _ :: _, [], k, _, _, _, _, hy, _ => by simp at hy
theorem take_same_step {p q : List Int} {k : Nat} {x : Int} (h : p.take k = q.take k) (hx : p[k]? = some x) (hy : q[k]? = some x) : p.take (k + 1) = q.take (k + 1) := by
  rw [List.take_add_one, List.take_add_one, h, hx, hy]
theorem lexL_end {p q : List Int} {n : Nat} (h : p.take n = q.take n) (hp : p.length = n) (hq : q.length = n) : lexL p q = false := by
  rw [List.take_of_length_le (by omega), List.take_of_length_le (by omega)] at h
  rw [h]; exact lexL_same q
def befL (p q : List Int) : Bool := if p.length = q.length then lexL p q else decide (p.length < q.length)
theorem befL_eq {p q : List Int} (h : p.length = q.length) : befL p q = lexL p q := by unfold befL; rw [if_pos h]
theorem befL_ne {p q : List Int} (h : p.length ≠ q.length) : befL p q = decide (p.length < q.length) := by unfold befL; rw [if_neg h]
def bef (p q : List Int) : Bool := isP p && isP q && befL p q
theorem bef_no1 {p q : List Int} (h : isP p = false) : bef p q = false := by simp [bef, h]
theorem bef_no2 {p q : List Int} (h : isP q = false) : bef p q = false := by simp [bef, h]
theorem bef_yes {p q : List Int} (h : isP p = true) (h' : isP q = true) : bef p q = befL p q := by simp [bef, h, h']
end Go.Proofs.Ytcnmnpbipencmaa


/-
  PLAIN: lists of lists in order, each once; the symmetries of a permutation. Nothing here speaks of the program.
-/

namespace Go.Proofs.Ytcnmnpbipencmaa
set_option maxRecDepth 100000

/-! the order -/
theorem lexL_trans : ∀ {p q r : List Int}, lexL p q = true → lexL q r = true → lexL p r = true
  | [], _, _, h, _ => by simp [lexL] at h
  | _ :: _, [], _, h, _ => by simp [lexL] at h
  | _ :: _, _ :: _, [], _, h => by simp [lexL] at h
  | x :: p, y :: q, z :: r, h1, h2 => by
    rw [lexL] at h1 h2 ⊢
    by_cases e1 : x = y
    · subst e1
      rw [if_pos rfl] at h1
      by_cases e2 : x = z
      · subst e2
        rw [if_pos rfl] at h2 ⊢
        exact lexL_trans h1 h2
      · rw [if_neg e2] at h2 ⊢
        exact h2
    · rw [if_neg e1] at h1
      by_cases e2 : y = z
      · subst e2
        rw [if_neg e1]
        exact h1
      · rw [if_neg e2] at h2
        simp only [decide_eq_true_eq] at h1 h2
        rw [if_neg (by omega)]
        simp only [decide_eq_true_eq]
        omega
theorem lexL_total : ∀ {p q : List Int}, p.length = q.length → lexL p q = false → lexL q p = false → p = q
  | [], [], _, _, _ => rfl
  | [], _ :: _, h, _, _ => by simp at h
  | _ :: _, [], h, _, _ => by simp at h
  | x :: p, y :: q, h, h1, h2 => by
    rw [lexL] at h1 h2
    by_cases e : x = y
    · subst e
      rw [if_pos rfl] at h1 h2
      rw [lexL_total (by simpa using h) h1 h2]
    · rw [if_neg e] at h1
      rw [if_neg (fun h => e h.symm)] at h2
      simp only [decide_eq_false_iff_not] at h1 h2
      omega
theorem befL_irrefl (p : List Int) : befL p p = false := by rw [befL_eq rfl]; exact lexL_same p
theorem befL_trans {p q r : List Int} (h1 : befL p q = true) (h2 : befL q r = true) : befL p r = true := by
  unfold befL at h1 h2 ⊢
  by_cases e1 : p.length = q.length
  · rw [if_pos e1] at h1
    by_cases e2 : q.length = r.length
    · rw [if_pos e2] at h2
      rw [if_pos (by omega)]
      exact lexL_trans h1 h2
    · rw [if_neg e2] at h2
      rw [if_neg (by omega)]
      simp only [decide_eq_true_eq] at h2 ⊢
      omega
  · rw [if_neg e1] at h1
    simp only [decide_eq_true_eq] at h1
    by_cases e2 : q.length = r.length
    · rw [if_neg (by omega)]
      simp only [decide_eq_true_eq]
      omega
    · rw [if_neg e2] at h2
      simp only [decide_eq_true_eq] at h2
      rw [if_neg (by omega)]
      simp only [decide_eq_true_eq]
      omega
theorem befL_total {p q : List Int} (h1 : befL p q = false) (h2 : befL q p = false) : p = q := by
  unfold befL at h1 h2
  by_cases e : p.length = q.length
  · rw [if_pos e] at h1
    rw [if_pos e.symm] at h2
    exact lexL_total e h1 h2
  · rw [if_neg e] at h1
    rw [if_neg (fun h => e h.symm)] at h2
    simp only [decide_eq_false_iff_not] at h1 h2
    omega
theorem befL_asymm {p q : List Int} (h : befL p q = true) : befL q p = false := by
  cases h2 : befL q p with
  | false => rfl
  | true => have := befL_trans h h2; rw [befL_irrefl] at this; cases this
theorem befL_of_ne {p q : List Int} (h : befL q p = false) (hne : p ≠ q) : befL p q = true := by
  cases h2 : befL p q with
  | true => rfl
  | false => exact absurd (befL_total h2 h) hne
/-- p is not behind q, q before r. -/
theorem befL_le_lt {p q r : List Int} (h1 : befL q p = false) (h2 : befL q r = true) : befL p r = true := by
  by_cases e : p = q
  · subst e; exact h2
  · exact befL_trans (befL_of_ne h1 e) h2

/-! in order, each once -/
def Asc (l : List (List Int)) : Prop := l.Pairwise fun a b => befL a b = true
theorem asc_unique : ∀ {a b : List (List Int)}, Asc a → Asc b → (∀ x, x ∈ a ↔ x ∈ b) → a = b
  | [], [], _, _, _ => rfl
  | [], y :: b, _, _, h => by have := (h y).2 (by simp); simp at this
  | x :: a, [], _, _, h => by have := (h x).1 (by simp); simp at this
  | x :: a, y :: b, ha, hb, h => by
    have ha' := List.pairwise_cons.1 ha
    have hb' := List.pairwise_cons.1 hb
    have e : x = y := by
      rcases List.mem_cons.1 ((h x).1 (by simp)) with e | hx
      · exact e
      · rcases List.mem_cons.1 ((h y).2 (by simp)) with e | hy
        · exact e.symm
        · have h1 := hb'.1 x hx
          have h2 := ha'.1 y hy
          rw [befL_asymm h1] at h2
          cases h2
    subst e
    have : a = b := asc_unique ha'.2 hb'.2 fun z => by
      have hz := h z
      constructor
      · intro hin
        rcases List.mem_cons.1 (hz.1 (by simp [hin])) with e | h2
        · subst e
          have := ha'.1 z hin
          rw [befL_irrefl] at this
          cases this
        · exact h2
      · intro hin
        rcases List.mem_cons.1 (hz.2 (by simp [hin])) with e | h2
        · subst e
          have := hb'.1 z hin
          rw [befL_irrefl] at this
          cases this
        · exact h2
    rw [this]

/-- Where spec.l3Put stands. -/
def scanL (l : List (List Int)) (p : List Int) : Nat → Nat
  | 0 => 0
  | k + 1 => if befL p (l.getD k []) then scanL l p k else k + 1
theorem getD_of {α : Type} {l : List α} {k : Nat} {z d : α} (h : l[k]? = some z) : l.getD k d = z := by rw [List.getD_eq_getElem?_getD, h]; rfl
theorem scanL_yes {l : List (List Int)} {p z : List Int} {k : Nat} (hz : l[k]? = some z) (h : befL p z = true) : scanL l p (k + 1) = scanL l p k := by rw [scanL, getD_of hz, if_pos h]
theorem scanL_no {l : List (List Int)} {p z : List Int} {k : Nat} (hz : l[k]? = some z) (h : befL p z = false) : scanL l p (k + 1) = k + 1 := by rw [scanL, getD_of hz, if_neg (by simp [h])]
theorem scanL_le (l : List (List Int)) (p : List Int) : ∀ k, scanL l p k ≤ k
  | 0 => Nat.le_refl _
  | k + 1 => by
    rw [scanL]
    by_cases h : befL p (l.getD k []) = true
    · rw [if_pos h]; have := scanL_le l p k; omega
    · rw [if_neg h]; exact Nat.le_refl _
theorem scanL_above (l : List (List Int)) (p : List Int) : ∀ k j, scanL l p k ≤ j → j < k → befL p (l.getD j []) = true
  | 0, j, _, h => by omega
  | k + 1, j, h1, h2 => by
    rw [scanL] at h1
    by_cases h : befL p (l.getD k []) = true
    · rw [if_pos h] at h1
      by_cases e : j = k
      · subst e; exact h
      · exact scanL_above l p k j h1 (by omega)
    · rw [if_neg h] at h1; omega
theorem scanL_at (l : List (List Int)) (p : List Int) : ∀ k m, scanL l p k = m + 1 → befL p (l.getD m []) = false
  | 0, m, h => by simp [scanL] at h
  | k + 1, m, h => by
    rw [scanL] at h
    by_cases hb : befL p (l.getD k []) = true
    · rw [if_pos hb] at h; exact scanL_at l p k m h
    · rw [if_neg hb] at h
      obtain rfl : k = m := by omega
      simpa using hb
def putL (l : List (List Int)) (p : List Int) : List (List Int) :=
  if 0 < scanL l p l.length ∧ l.getD (scanL l p l.length - 1) [] = p then l else l.take (scanL l p l.length) ++ [p] ++ l.drop (scanL l p l.length)
theorem putL_len (l : List (List Int)) (p : List Int) : l.length ≤ (putL l p).length ∧ (putL l p).length ≤ l.length + 1 := by
  unfold putL
  have := scanL_le l p l.length
  split
  · omega
  · simp; omega
theorem mem_putL {l : List (List Int)} {p x : List Int} : x ∈ putL l p ↔ x ∈ l ∨ x = p := by
  unfold putL
  split
  · next h =>
    constructor
    · exact .inl
    · rintro (h1 | rfl)
      · exact h1
      · have hlt : scanL l x l.length - 1 < l.length := by have := scanL_le l x l.length; omega
        have := h.2
        rw [List.getD_eq_getElem?_getD, List.getElem?_eq_getElem hlt] at this
        exact this ▸ List.getElem_mem hlt
  · have := List.take_append_drop (scanL l p l.length) l
    constructor
    · intro h
      simp only [List.mem_append, List.mem_singleton] at h
      rcases h with (h | h) | h
      · exact .inl (List.mem_of_mem_take h)
      · exact .inr h
      · exact .inl (List.mem_of_mem_drop h)
    · rintro (h | rfl)
      · rw [← this, List.mem_append] at h
        simp only [List.mem_append, List.mem_singleton]
        rcases h with h | h
        · exact .inl (.inl h)
        · exact .inr h
      · simp
theorem asc_putL {l : List (List Int)} {p : List Int} (h : Asc l) : Asc (putL l p) := by
  unfold putL
  split
  · exact h
  · next hno =>
    have hle := scanL_le l p l.length
    have hab := scanL_above l p l.length
    have hat := scanL_at l p l.length
    generalize scanL l p l.length = s at *
    have hlow : ∀ a ∈ l.take s, befL a p = true := by
      intro a ha
      obtain ⟨i, hi, rfl⟩ := List.getElem_of_mem ha
      rw [List.length_take] at hi
      rw [List.getElem_take]
      have h1 := hat (s - 1) (by omega)
      have h2 : l.getD (s - 1) [] ≠ p := fun e => hno ⟨by omega, e⟩
      rw [List.getD_eq_getElem?_getD, List.getElem?_eq_getElem (by omega : s - 1 < l.length)] at h1 h2
      have h3 := befL_of_ne h1 h2
      by_cases e : i = s - 1
      · subst e; exact h3
      · exact befL_trans (List.pairwise_iff_getElem.1 h i (s - 1) (by omega) (by omega) (by omega)) h3
    have hup : ∀ b ∈ l.drop s, befL p b = true := by
      intro b hb
      obtain ⟨i, hi, rfl⟩ := List.getElem_of_mem hb
      rw [List.length_drop] at hi
      rw [List.getElem_drop]
      have := hab (s + i) (by omega) (by omega)
      rwa [List.getD_eq_getElem?_getD, List.getElem?_eq_getElem (by omega : s + i < l.length)] at this
    unfold Asc
    rw [List.append_assoc, List.pairwise_append]
    refine ⟨h.sublist (List.take_sublist _ _), ?_, ?_⟩
    · rw [List.singleton_append, List.pairwise_cons]
      exact ⟨hup, h.sublist (List.drop_sublist _ _)⟩
    · intro a ha b hb
      rw [List.singleton_append, List.mem_cons] at hb
      rcases hb with rfl | hb
      · exact hlow a ha
      · exact befL_trans (hlow a ha) (hup b hb)
def ordL (l : List (List Int)) (k : Nat) : List (List Int) := (l.take k).foldl putL []
theorem ordL_zero (l : List (List Int)) : ordL l 0 = [] := by simp [ordL]
theorem ordL_step {l : List (List Int)} {k : Nat} {z : List Int} (h : l[k]? = some z) : ordL l (k + 1) = putL (ordL l k) z := by
  unfold ordL
  rw [List.take_add_one, h]
  simp
theorem foldl_put : ∀ (l : List (List Int)) (a : List (List Int)), Asc a → Asc (l.foldl putL a) ∧ (∀ x, x ∈ l.foldl putL a ↔ x ∈ a ∨ x ∈ l) ∧ (l.foldl putL a).length ≤ a.length + l.length
  | [], a, h => ⟨h, fun x => by simp, by simp⟩
  | p :: l, a, h => by
    obtain ⟨h1, h2, h3⟩ := foldl_put l (putL a p) (asc_putL h)
    refine ⟨h1, fun x => ?_, ?_⟩
    · rw [List.foldl_cons, h2 x, mem_putL, List.mem_cons, or_assoc]
    · have := (putL_len a p).2
      rw [List.foldl_cons, List.length_cons]
      omega
theorem ordL_asc (l : List (List Int)) (k : Nat) : Asc (ordL l k) := (foldl_put _ [] List.Pairwise.nil).1
theorem ordL_mem {l : List (List Int)} {k : Nat} {x : List Int} : x ∈ ordL l k ↔ x ∈ l.take k := by
  unfold ordL
  rw [(foldl_put _ [] List.Pairwise.nil).2.1 x]
  simp
theorem ordL_len (l : List (List Int)) (k : Nat) : (ordL l k).length ≤ l.length := by
  have := (foldl_put (l.take k) [] List.Pairwise.nil).2.2
  unfold ordL
  rw [List.length_take] at this
  simp only [List.length_nil] at this
  omega
def allP (l : List (List Int)) : Bool := l.all isP
theorem allP_no {l : List (List Int)} {z : List Int} (h : z ∈ l) (hz : isP z = false) : allP l = false := by
  unfold allP
  rw [List.all_eq_false]
  exact ⟨z, h, by simp [hz]⟩
theorem allP_at {l : List (List Int)} {z : List Int} (h : allP l = true) (hz : z ∈ l) : isP z = true := by
  unfold allP at h
  rw [List.all_eq_true] at h
  exact h z hz
theorem allP_yes {l : List (List Int)} (h : ∀ z ∈ l, isP z = true) : allP l = true := by
  unfold allP
  rw [List.all_eq_true]
  exact h
def ordR (l : List (List Int)) : List (List Int) := if allP l then ordL l l.length else []
theorem ordR_yes {l : List (List Int)} (h : allP l = true) : ordR l = ordL l l.length := by unfold ordR; rw [if_pos h]
theorem ordR_no {l : List (List Int)} (h : allP l = false) : ordR l = [] := by unfold ordR; rw [if_neg (by simp [h])]
theorem ordR_len (l : List (List Int)) : (ordR l).length ≤ l.length := by
  cases h : allP l with
  | true => rw [ordR_yes h]; exact ordL_len _ _
  | false => rw [ordR_no h]; exact Nat.zero_le _
theorem ordR_mem {l : List (List Int)} {x : List Int} (h : x ∈ ordR l) : isP x = true := by
  cases hp : allP l with
  | true =>
    rw [ordR_yes hp, ordL_mem, List.take_length] at h
    exact allP_at hp h
  | false => rw [ordR_no hp] at h; simp at h

/-! neighbors that are equal, left out -/
section
variable {α : Type} (f : α → List Int)
/-- Of the first k the ones that differ from the one before. -/
def keepN (xs : List α) : Nat → List α
  | 0 => []
  | k + 1 => match xs[k]? with
    | none => keepN xs k
    | some x => if 0 < k ∧ (xs[k - 1]?).map f = some (f x) then keepN xs k else keepN xs k ++ [x]
variable {f}
theorem keepN_same {xs : List α} {k : Nat} {x y : α} (h : xs[k]? = some x) (hk : 0 < k) (hy : xs[k - 1]? = some y) (he : f y = f x) : keepN f xs (k + 1) = keepN f xs k := by
  rw [keepN, h]
  simp only
  rw [if_pos ⟨hk, by rw [hy, Option.map_some, he]⟩]
theorem keepN_new {xs : List α} {k : Nat} {x y : α} (h : xs[k]? = some x) (hy : xs[k - 1]? = some y) (he : f y ≠ f x) : keepN f xs (k + 1) = keepN f xs k ++ [x] := by
  rw [keepN, h]
  simp only
  rw [if_neg]
  rintro ⟨_, e⟩
  rw [hy, Option.map_some] at e
  exact he (Option.some.inj e)
theorem keepN_one {xs : List α} {x : α} (h : xs[0]? = some x) : keepN f xs 1 = [x] := by
  rw [keepN, h]
  simp only
  rw [if_neg (by omega), keepN]
  rfl
theorem keepN_sub (xs : List α) : ∀ k, (keepN f xs k).Sublist (xs.take k)
  | 0 => by simp [keepN]
  | k + 1 => by
    rw [keepN]
    cases h : xs[k]? with
    | none =>
      simp only
      refine (keepN_sub xs k).trans ?_
      rw [List.take_add_one, h]
      simp
    | some x =>
      simp only
      rw [List.take_add_one, h]
      split
      · exact (keepN_sub xs k).trans (List.sublist_append_left _ _)
      · exact (keepN_sub xs k).append (List.Sublist.refl _)
theorem keepN_sorted {xs : List α} (hs : ∀ (i j : Nat) (x y : α), i < j → xs[i]? = some x → xs[j]? = some y → befL (f y) (f x) = false) :
    ∀ k, k ≤ xs.length → Asc ((keepN f xs k).map f) ∧ ∀ z, z ∈ (keepN f xs k).map f ↔ z ∈ (xs.take k).map f
  | 0, _ => ⟨by simp [keepN, Asc], fun z => by simp [keepN]⟩
  | k + 1, hk => by
    obtain ⟨h1, h2⟩ := keepN_sorted hs k (by omega)
    have hx : xs[k]? = some xs[k] := List.getElem?_eq_getElem (by omega)
    have ht : xs.take (k + 1) = xs.take k ++ [xs[k]] := by rw [List.take_add_one, hx]; rfl
    generalize xs[k] = x at hx ht
    cases k with
    | zero =>
      rw [keepN_one hx, ht]
      simp [Asc]
    | succ k =>
      have hy : xs[k]? = some xs[k] := List.getElem?_eq_getElem (by omega)
      generalize xs[k] = y at hy
      by_cases e : f y = f x
      · rw [keepN_same hx (by omega) (by simpa using hy) e, ht]
        refine ⟨h1, fun z => ?_⟩
        rw [h2 z, List.map_append, List.mem_append]
        simp only [List.map_cons, List.map_nil, List.mem_singleton]
        constructor
        · exact .inl
        · rintro (h | h)
          · exact h
          · subst h
            rw [← e]
            refine List.mem_map.2 ⟨y, ?_, rfl⟩
            rw [List.take_add_one, hy]
            simp
      · rw [keepN_new hx (by simpa using hy) e, ht]
        refine ⟨?_, fun z => ?_⟩
        · unfold Asc
          rw [List.map_append, List.pairwise_append]
          refine ⟨h1, by simp, fun a ha b hb => ?_⟩
          simp only [List.map_cons, List.map_nil, List.mem_singleton] at hb
          subst hb
          obtain ⟨a', ha', rfl⟩ := List.mem_map.1 ((h2 a).1 ha)
          obtain ⟨i, hi, rfl⟩ := List.getElem_of_mem ha'
          rw [List.length_take] at hi
          rw [List.getElem_take]
          have hyx : befL (f y) (f x) = true := befL_of_ne (hs k (k + 1) y x (by omega) hy hx) e
          by_cases ei : i = k
          · subst ei
            have : xs[i] = y := by
              rw [List.getElem?_eq_getElem (by omega)] at hy
              exact Option.some.inj hy
            rw [this]; exact hyx
          · exact befL_le_lt (hs i k _ y (by omega) (List.getElem?_eq_getElem (by omega)) hy) hyx
        · rw [List.map_append, List.map_append, List.mem_append, List.mem_append, h2 z]
end

/-! the symmetries -/
/-- n + 1 - v for each v. -/
def cplL (p : List Int) : List Int := p.map fun v => (p.length : Int) + 1 - v
theorem cplL_length (p : List Int) : (cplL p).length = p.length := by simp [cplL]
theorem cplL_at {p : List Int} {k : Nat} {z : Int} (h : p[k]? = some z) : (cplL p)[k]? = some ((p.length : Int) + 1 - z) := by
  unfold cplL
  rw [List.getElem?_map, h]; rfl
theorem isP_cpl {p : List Int} (h : isP p = true) : isP (cplL p) = true := by
  rw [isP_true] at h ⊢
  obtain ⟨h1, h2, h3⟩ := h
  refine ⟨by rw [cplL_length]; exact h1, fun x hx => ?_, ?_⟩
  · unfold cplL at hx
    obtain ⟨v, hv, rfl⟩ := List.mem_map.1 hx
    have := h2 v hv
    rw [cplL_length]
    omega
  · unfold cplL
    rw [List.nodup_iff_pairwise_ne, List.pairwise_map]
    exact h3.imp fun hne e => hne (by omega)
theorem isP_rev {p : List Int} (h : isP p = true) : isP p.reverse = true := by
  rw [isP_true] at h ⊢
  obtain ⟨h1, h2, h3⟩ := h
  refine ⟨by rw [List.length_reverse]; exact h1, fun x hx => by rw [List.length_reverse]; exact h2 x (List.mem_reverse.1 hx), ?_⟩
  rw [List.nodup_iff_pairwise_ne, List.pairwise_reverse]
  exact (List.nodup_iff_pairwise_ne.1 h3).imp fun h e => h e.symm
theorem invFill_at {l : List Int} (hr : ∀ x ∈ l, 1 ≤ x ∧ x ≤ (l.length : Int)) (hn : l.Nodup) : ∀ k i z, i < k → k ≤ l.length → l[i]? = some z → (invFill l k)[z.toNat - 1]? = some ((i : Int) + 1)
  | 0, i, z, h, _, _ => by omega
  | k + 1, i, z, h, hk, hz => by
    have hy : l[k]? = some l[k] := List.getElem?_eq_getElem (by omega)
    generalize l[k] = y at hy
    rw [← invFill_step hy]
    have hzr := hr z (List.mem_of_getElem? hz)
    have hyr := hr y (List.mem_of_getElem? hy)
    by_cases e : i = k
    · subst e
      obtain rfl : y = z := by rw [hy] at hz; exact Option.some.inj hz
      rw [List.getElem?_set_self (by rw [invFill_length]; omega)]
    · have hne : y ≠ z := fun e2 => by
        subst e2
        have hi : i < l.length := by omega
        rw [List.getElem?_eq_getElem hi] at hz
        rw [List.getElem?_eq_getElem (by omega : k < l.length)] at hy
        have := (List.pairwise_iff_getElem.1 (List.nodup_iff_pairwise_ne.1 hn)) i k hi (by omega) (by omega)
        exact this ((Option.some.inj hz).trans (Option.some.inj hy).symm)
      rw [List.getElem?_set_ne (by omega)]
      exact invFill_at hr hn k i z (by omega) (by omega) hz
theorem isP_inv {p : List Int} (h : isP p = true) : isP (invFill p p.length) = true := by
  rw [isP_true] at h ⊢
  obtain ⟨h1, h2, h3⟩ := h
  have hat := fun i z hi hz => invFill_at h2 h3 p.length i z hi (Nat.le_refl _) hz
  have hrange : ∀ x ∈ invFill p p.length, 1 ≤ x ∧ x ≤ ((invFill p p.length).length : Int) := by
    intro x hx
    rw [invFill_length]
    obtain ⟨j, hj, rfl⟩ := List.getElem_of_mem hx
    rw [invFill_length] at hj
    have hin := (nodup_iff_all h2).1 h3 j hj
    obtain ⟨i, hi, he⟩ := List.getElem_of_mem hin
    have := hat i ((j : Int) + 1) hi (by rw [List.getElem?_eq_getElem hi, he])
    rw [show ((j : Int) + 1).toNat - 1 = j by omega, List.getElem?_eq_getElem (by rw [invFill_length]; exact hj)] at this
    rw [Option.some.inj this]
    omega
  refine ⟨by rw [invFill_length]; exact h1, hrange, (nodup_iff_all hrange).2 fun j hj => ?_⟩
  rw [invFill_length] at hj
  exact List.mem_of_getElem? (hat j p[j] hj (List.getElem?_eq_getElem hj))

/-- The steps that are asked for by the three lowest digits of k. -/
def sym1 (p : List Int) (k : Nat) : List Int := if k % 2 = 1 then invFill p p.length else p
def sym2 (p : List Int) (k : Nat) : List Int := if k / 2 % 2 = 1 then (sym1 p k).reverse else sym1 p k
def symL (p : List Int) (k : Nat) : List Int := if 4 ≤ k then cplL (sym2 p k) else sym2 p k
theorem sym1_isP {p : List Int} (h : isP p = true) (k : Nat) : isP (sym1 p k) = true := by
  unfold sym1
  split
  · exact isP_inv h
  · exact h
theorem sym2_isP {p : List Int} (h : isP p = true) (k : Nat) : isP (sym2 p k) = true := by
  unfold sym2
  split
  · exact isP_rev (sym1_isP h k)
  · exact sym1_isP h k
theorem symL_isP {p : List Int} (h : isP p = true) (k : Nat) : isP (symL p k) = true := by
  unfold symL
  split
  · exact isP_cpl (sym2_isP h k)
  · exact sym2_isP h k
def revR (p : List Int) : List Int := if isP p then p.reverse else []
def cplR (p : List Int) : List Int := if isP p then cplL p else []
def symOK (p : List Int) (k : Int) : Bool := isP p && decide (0 ≤ k ∧ k ≤ 7)
def symR (p : List Int) (k : Int) : List Int := if symOK p k then symL p k.toNat else []
theorem revR_yes {p : List Int} (h : isP p = true) : revR p = p.reverse := by unfold revR; rw [if_pos h]
theorem revR_no {p : List Int} (h : isP p = false) : revR p = [] := by unfold revR; rw [if_neg (by simp [h])]
theorem cplR_yes {p : List Int} (h : isP p = true) : cplR p = cplL p := by unfold cplR; rw [if_pos h]
theorem cplR_no {p : List Int} (h : isP p = false) : cplR p = [] := by unfold cplR; rw [if_neg (by simp [h])]
theorem symOK_yes {p : List Int} {k : Int} (h : isP p = true) (hk : 0 ≤ k ∧ k ≤ 7) : symOK p k = true := by simp [symOK, h, hk]
theorem symOK_no1 {p : List Int} {k : Int} (h : isP p = false) : symOK p k = false := by simp [symOK, h]
theorem symOK_no2 {p : List Int} {k : Int} (hk : ¬ (0 ≤ k ∧ k ≤ 7)) : symOK p k = false := by simp [symOK, hk]
theorem symR_yes {p : List Int} {k : Int} (h : symOK p k = true) : symR p k = symL p k.toNat := by unfold symR; rw [if_pos h]
theorem symR_no {p : List Int} {k : Int} (h : symOK p k = false) : symR p k = [] := by unfold symR; rw [if_neg (by simp [h])]
theorem revR_le (p : List Int) : (revR p).length ≤ 8 := by
  cases h : isP p with
  | true => rw [revR_yes h, List.length_reverse]; exact isP_le h
  | false => rw [revR_no h]; simp
theorem cplR_le (p : List Int) : (cplR p).length ≤ 8 := by
  cases h : isP p with
  | true => rw [cplR_yes h, cplL_length]; exact isP_le h
  | false => rw [cplR_no h]; simp
theorem symR_le (p : List Int) (k : Int) : (symR p k).length ≤ 8 := by
  cases h : symOK p k with
  | true =>
    rw [symR_yes h]
    simp only [symOK, Bool.and_eq_true] at h
    exact isP_le (symL_isP h.1 _)
  | false => rw [symR_no h]; simp
/-- The eight images, the first k. -/
def imgs (p : List Int) (k : Nat) : List (List Int) := (List.range k).map fun j => symL p j
theorem imgs_length (p : List Int) (k : Nat) : (imgs p k).length = k := by simp [imgs]
theorem imgs_at {p : List Int} {k j : Nat} (h : j < k) : (imgs p k)[j]? = some (symL p j) := by
  unfold imgs
  rw [List.getElem?_map, List.getElem?_range h]; rfl
theorem imgs_all {p : List Int} (h : isP p = true) (k : Nat) : allP (imgs p k) = true := allP_yes fun z hz => by
  unfold imgs at hz
  obtain ⟨j, _, rfl⟩ := List.mem_map.1 hz
  exact symL_isP h j
def clsR (p : List Int) : List (List Int) := if isP p then ordR (imgs p 8) else []
theorem clsR_yes {p : List Int} (h : isP p = true) : clsR p = ordR (imgs p 8) := by unfold clsR; rw [if_pos h]
theorem clsR_no {p : List Int} (h : isP p = false) : clsR p = [] := by unfold clsR; rw [if_neg (by simp [h])]
theorem clsR_len (p : List Int) : (clsR p).length ≤ 8 := by
  cases h : isP p with
  | true => rw [clsR_yes h]; have := ordR_len (imgs p 8); rw [imgs_length] at this; exact this
  | false => rw [clsR_no h]; simp
theorem clsR_mem {p x : List Int} (h : x ∈ clsR p) : isP x = true := by
  cases hp : isP p with
  | true => rw [clsR_yes hp] at h; exact ordR_mem h
  | false => rw [clsR_no hp] at h; simp at h
theorem clsR_ne {p : List Int} (h : isP p = true) : clsR p ≠ [] := by
  rw [clsR_yes h, ordR_yes (imgs_all h 8)]
  intro e
  have : symL p 0 ∈ ordL (imgs p 8) (imgs p 8).length := by
    rw [ordL_mem, List.take_length]
    exact List.mem_of_getElem? (imgs_at (by omega : 0 < 8))
  rw [e] at this
  simp at this
def leastR (p : List Int) : List Int := (clsR p).headD []
theorem leastR_le (p : List Int) : (leastR p).length ≤ 8 := by
  unfold leastR
  cases h : clsR p with
  | nil => simp
  | cons x l => exact isP_le (clsR_mem (p := p) (by rw [h]; simp))
def invol (p : List Int) : Bool := isP p && decide (p = invFill p p.length)
theorem invol_no {p : List Int} (h : isP p = false) : invol p = false := by simp [invol, h]
theorem invol_yes {p : List Int} (h : isP p = true) : invol p = decide (p = invFill p p.length) := by simp [invol, h]
end Go.Proofs.Ytcnmnpbipencmaa


/-
  PLAIN: the list of all permutations of a length, made in two ways. Nothing here speaks of the program.
-/

namespace Go.Proofs.Ytcnmnpbipencmaa
set_option maxRecDepth 100000

/-- All ways to go on from hd with d more of the numbers 1 to n. -/
def fillL (n : Nat) : Nat → List Int → List (List Int)
  | 0, hd => [hd]
  | d + 1, hd => (upTo n).flatMap fun v => if v ∈ hd then [] else fillL n d (hd ++ [v])
theorem fillL_zero (n : Nat) (hd : List Int) : fillL n 0 hd = [hd] := rfl
/-- .. with the next one among the first k numbers. -/
def fillK (n d : Nat) (hd : List Int) (k : Nat) : List (List Int) := (upTo k).flatMap fun v => if v ∈ hd then [] else fillL n d (hd ++ [v])
theorem fillK_zero (n d : Nat) (hd : List Int) : fillK n d hd 0 = [] := rfl
theorem fillK_all (n d : Nat) (hd : List Int) : fillK n d hd n = fillL n (d + 1) hd := rfl
theorem fillK_in {n d k : Nat} {hd : List Int} (h : (k : Int) + 1 ∈ hd) : fillK n d hd (k + 1) = fillK n d hd k := by
  unfold fillK
  rw [upTo_step, List.flatMap_append, List.flatMap_cons, List.flatMap_nil, if_pos h]
  simp
theorem fillK_out {n d k : Nat} {hd : List Int} (h : (k : Int) + 1 ∉ hd) : fillK n d hd (k + 1) = fillK n d hd k ++ fillL n d (hd ++ [(k : Int) + 1]) := by
  unfold fillK
  rw [upTo_step, List.flatMap_append, List.flatMap_cons, List.flatMap_nil, if_neg h]
  simp
/-- f ahead of r, whose numbers from f on are raised. -/
def up (f v : Int) : Int := if f ≤ v then v + 1 else v
def behind (f : Int) (r : List Int) : List Int := f :: r.map (up f)
def permL : Nat → List (List Int)
  | 0 => [[]]
  | n + 1 => (upTo (n + 1)).flatMap fun f => (permL n).map (behind f)
def permK (n j : Nat) : List (List Int) := (upTo j).flatMap fun f => (permL n).map (behind f)
theorem permK_all (n : Nat) : permK n (n + 1) = permL (n + 1) := rfl
theorem permK_step (n j : Nat) : permK n (j + 1) = permK n j ++ (permL n).map (behind ((j : Int) + 1)) := by
  unfold permK
  rw [upTo_step, List.flatMap_append, List.flatMap_cons, List.flatMap_nil]
  simp
def permI (n j i : Nat) : List (List Int) := permK n j ++ ((permL n).take i).map (behind ((j : Int) + 1))
theorem permI_zero (n j : Nat) : permI n j 0 = permK n j := by simp [permI]
theorem permI_all (n j : Nat) : permI n j (permL n).length = permK n (j + 1) := by
  unfold permI
  rw [permK_step, List.take_of_length_le (Nat.le_refl _)]
theorem permI_step {n j i : Nat} {r : List Int} (h : (permL n)[i]? = some r) : permI n j (i + 1) = permI n j i ++ [behind ((j : Int) + 1) r] := by
  unfold permI
  rw [List.take_add_one, h, List.map_append, ← List.append_assoc]
  rfl
theorem fillK_mono (n d : Nat) (hd : List Int) (k j : Nat) : (fillK n d hd k).length ≤ (fillK n d hd (k + j)).length := by
  induction j with
  | zero => exact Nat.le_refl _
  | succ j ih =>
    refine Nat.le_trans ih ?_
    by_cases h : ((k + j : Nat) : Int) + 1 ∈ hd
    · rw [← Nat.add_assoc, fillK_in h]; exact Nat.le_refl _
    · rw [← Nat.add_assoc, fillK_out h, List.length_append]; omega
theorem permK_length (n : Nat) : ∀ j, (permK n j).length = j * (permL n).length
  | 0 => by simp [permK, upTo]
  | j + 1 => by rw [permK_step, List.length_append, permK_length n j, List.length_map, Nat.add_mul, Nat.one_mul]
theorem permI_length (n j i : Nat) (h : i ≤ (permL n).length) : (permI n j i).length = j * (permL n).length + i := by
  unfold permI
  rw [List.length_append, permK_length, List.length_map, List.length_take]
  omega
theorem behind_step {f : Int} {r : List Int} {k : Nat} {z : Int} (h : r[k]? = some z) : f :: (r.take (k + 1)).map (up f) = (f :: (r.take k).map (up f)) ++ [up f z] := by
  rw [take_snoc_i h, List.map_append]; rfl
theorem up_yes {f v : Int} (h : f ≤ v) : up f v = v + 1 := by unfold up; rw [if_pos h]
theorem up_no {f v : Int} (h : v < f) : up f v = v := by unfold up; rw [if_neg (by omega)]
theorem behind_length (f : Int) (r : List Int) : (behind f r).length = r.length + 1 := by simp [behind]
theorem two_ways : ∀ n : Nat, n ≤ 6 → fillL n n [] = permL n := by decide +kernel
/-- How many numbers in all. -/
def tot (zss : List (List Int)) : Nat := (zss.map List.length).sum
theorem permL_small : ∀ n : Nat, n ≤ 6 → (permL n).length ≤ 720 ∧ tot (permL n) ≤ 4320 := by decide +kernel
theorem permL_rows : ∀ n : Nat, n ≤ 6 → ∀ r ∈ permL n, r.length = n ∧ ∀ x ∈ r, 1 ≤ x ∧ x ≤ 6 := by decide +kernel
def permsR (m : Int) : List (List Int) := if 0 ≤ m ∧ m ≤ 6 then permL m.toNat else []
theorem permsR_yes {n : Nat} (h : n ≤ 6) : permsR (n : Int) = permL n := by unfold permsR; rw [if_pos (by omega), Int.toNat_natCast]
theorem permsR_no {m : Int} (h : ¬ (0 ≤ m ∧ m ≤ 6)) : permsR m = [] := by unfold permsR; rw [if_neg h]
theorem permsR_small (m : Int) : (permsR m).length ≤ 720 ∧ tot (permsR m) ≤ 4320 := by
  by_cases h : 0 ≤ m ∧ m ≤ 6
  · obtain ⟨n, rfl⟩ : ∃ n : Nat, m = (n : Int) := ⟨m.toNat, by omega⟩
    rw [permsR_yes (by omega)]
    exact permL_small n (by omega)
  · rw [permsR_no h]; simp [tot]
theorem tot_snoc (a : List (List Int)) (b : List Int) : tot (a ++ [b]) = tot a + b.length := by simp [tot]
theorem tot_take (zss : List (List Int)) (i : Nat) : tot (zss.take i) ≤ tot zss := by
  have h : tot zss = tot (zss.take i) + tot (zss.drop i) := by
    unfold tot
    rw [← List.sum_append, ← List.map_append, List.take_append_drop]
  omega
theorem tot_step {zss : List (List Int)} {i : Nat} {z : List Int} (h : zss[i]? = some z) : tot (zss.take (i + 1)) = tot (zss.take i) + z.length := by
  rw [List.take_add_one, h]; exact tot_snoc _ _
end Go.Proofs.Ytcnmnpbipencmaa


/-
  PLAIN: sums of permutations, the parts of a sum, what is layered.
-/

namespace Go.Proofs.Ytcnmnpbipencmaa
set_option maxRecDepth 100000

/-- Two lists, one above the other one. -/
def joinL (skew : Bool) (p q : List Int) : List Int :=
  if skew then p.map (fun v => v + (q.length : Int)) ++ q else p ++ q.map (fun v => v + (p.length : Int))
theorem joinL_length (s : Bool) (p q : List Int) : (joinL s p q).length = p.length + q.length := by cases s <;> simp [joinL]
def fit (p q : List Int) : Bool := isP p && isP q && decide (p.length + q.length ≤ 8)
def joinR (s : Bool) (p q : List Int) : List Int := if fit p q then joinL s p q else []
theorem joinR_yes {s : Bool} {p q : List Int} (h : fit p q = true) : joinR s p q = joinL s p q := by unfold joinR; rw [if_pos h]
theorem joinR_no {s : Bool} {p q : List Int} (h : fit p q = false) : joinR s p q = [] := by unfold joinR; rw [if_neg (by simp [h])]
theorem fit_yes {p q : List Int} (h1 : isP p = true) (h2 : isP q = true) (h3 : p.length + q.length ≤ 8) : fit p q = true := by simp [fit, h1, h2, h3]
theorem fit_no1 {p q : List Int} (h1 : isP p = false) : fit p q = false := by simp [fit, h1]
theorem fit_no2 {p q : List Int} (h1 : isP q = false) : fit p q = false := by simp [fit, h1]
theorem fit_no3 {p q : List Int} (h1 : ¬ p.length + q.length ≤ 8) : fit p q = false := by simp [fit]; omega
theorem fit_all {p q : List Int} (h : fit p q = true) : isP p = true ∧ isP q = true ∧ p.length + q.length ≤ 8 := by simpa [fit, and_assoc] using h
theorem joinR_le (s : Bool) (p q : List Int) : (joinR s p q).length ≤ 8 := by
  cases h : fit p q with
  | true => rw [joinR_yes h, joinL_length]; exact (fit_all h).2.2
  | false => rw [joinR_no h]; simp
theorem isP_nil : isP [] = true := by decide
theorem isP_join {s : Bool} {p q : List Int} (h : fit p q = true) : isP (joinL s p q) = true := by
  obtain ⟨hp, hq, hl⟩ := fit_all h
  obtain ⟨_, hpr, hpn⟩ := isP_true.1 hp
  obtain ⟨_, hqr, hqn⟩ := isP_true.1 hq
  have inj : ∀ (c : Int) (l : List Int), l.Nodup → (l.map (fun v => v + c)).Nodup := fun c l hn => nodup_map (fun a _ b _ e => by omega) hn
  refine isP_true.2 ⟨by rw [joinL_length]; exact hl, ?_, ?_⟩
  · rw [joinL_length]
    intro x hx
    cases s with
    | true =>
      simp only [joinL, if_true, List.mem_append, List.mem_map] at hx
      rcases hx with ⟨v, hv, rfl⟩ | hx
      · have := hpr v hv; omega
      · have := hqr x hx; omega
    | false =>
      simp only [joinL, Bool.false_eq_true, if_false, List.mem_append, List.mem_map] at hx
      rcases hx with hx | ⟨v, hv, rfl⟩
      · have := hpr x hx; omega
      · have := hqr v hv; omega
  · cases s with
    | true =>
      simp only [joinL, if_true]
      refine List.nodup_append.2 ⟨inj _ _ hpn, hqn, fun a ha b hb e => ?_⟩
      obtain ⟨v, hv, rfl⟩ := List.mem_map.1 ha
      have := hpr v hv; have := hqr b hb; omega
    | false =>
      simp only [joinL, Bool.false_eq_true, if_false]
      refine List.nodup_append.2 ⟨hpn, inj _ _ hqn, fun a ha b hb e => ?_⟩
      obtain ⟨v, hv, rfl⟩ := List.mem_map.1 hb
      have := hpr a ha; have := hqr v hv; omega

/-- All elements of a list joined, as long as they fit. -/
def joinAll (s : Bool) (l : List (List Int)) : List Int := l.foldl (joinL s) []
def allFit (l : List (List Int)) : Bool := allP l && decide (tot l ≤ 8)
theorem joinAll_snoc (s : Bool) (l : List (List Int)) (z : List Int) : joinAll s (l ++ [z]) = joinL s (joinAll s l) z := by simp [joinAll]
theorem joinAll_length (s : Bool) (l : List (List Int)) : (joinAll s l).length = tot l := by
  have : ∀ (l : List (List Int)) (a : List Int), (l.foldl (joinL s) a).length = a.length + tot l := fun l => by
    induction l with
    | nil => intro a; simp [tot]
    | cons z l ih => intro a; rw [List.foldl_cons, ih, joinL_length]; simp [tot]; omega
  rw [joinAll, this]; simp
theorem joinAll_isP {s : Bool} (l : List (List Int)) (hp : allP l = true) (ht : tot l ≤ 8) : isP (joinAll s l) = true := by
  have : ∀ (l : List (List Int)) (a : List Int), isP a = true → allP l = true → a.length + tot l ≤ 8 → isP (l.foldl (joinL s) a) = true := fun l => by
    induction l with
    | nil => intro a ha _ _; exact ha
    | cons z l ih =>
      intro a ha hl ht
      have ht' : a.length + (z.length + tot l) ≤ 8 := by simpa [tot] using ht
      rw [List.foldl_cons]
      exact ih _ (isP_join (fit_yes ha (allP_at hl (by simp)) (by omega))) (allP_yes fun x hx => allP_at hl (by simp [hx])) (by rw [joinL_length]; omega)
  exact this l [] isP_nil hp (by simpa using ht)
def joinsR (s : Bool) (l : List (List Int)) : List Int := if allFit l then joinAll s l else []
theorem joinsR_yes {s : Bool} {l : List (List Int)} (h : allFit l = true) : joinsR s l = joinAll s l := by unfold joinsR; rw [if_pos h]
theorem joinsR_no {s : Bool} {l : List (List Int)} (h : allFit l = false) : joinsR s l = [] := by unfold joinsR; rw [if_neg (by simp [h])]
theorem joinsR_le (s : Bool) (l : List (List Int)) : (joinsR s l).length ≤ 8 := by
  cases h : allFit l with
  | true =>
    rw [joinsR_yes h, joinAll_length]
    simp [allFit] at h; exact h.2
  | false => rw [joinsR_no h]; simp
theorem allFit_no1 {l : List (List Int)} {z : List Int} (h : z ∈ l) (hz : isP z = false) : allFit l = false := by simp [allFit, allP_no h hz]
theorem allFit_no2 {l : List (List Int)} (h : 8 < tot l) : allFit l = false := by simp [allFit]; omega
theorem allFit_yes {l : List (List Int)} (h : ∀ z ∈ l, isP z = true) (ht : tot l ≤ 8) : allFit l = true := by simp [allFit, allP_yes h, ht]
theorem take_snoc_r {l : List (List Int)} {k : Nat} {z : List Int} (h : l[k]? = some z) : l.take (k + 1) = l.take k ++ [z] := by rw [List.take_add_one, h]; rfl
theorem tot_take' {l : List (List Int)} {k : Nat} {z : List Int} (h : l[k]? = some z) : tot (l.take (k + 1)) = tot (l.take k) + z.length := by rw [take_snoc_r h, tot_snoc]
theorem tot_take_le (l : List (List Int)) (k : Nat) : tot (l.take k) ≤ tot l := by
  have this : ∀ a b : List (List Int), tot (a ++ b) = tot a + tot b := fun a b => by simp [tot]
  have h := this (l.take k) (l.drop k)
  rw [List.take_append_drop] at h
  omega
theorem joinAll_take {s : Bool} {l : List (List Int)} {k : Nat} {z : List Int} (h : l[k]? = some z) : joinAll s (l.take (k + 1)) = joinL s (joinAll s (l.take k)) z := by rw [take_snoc_r h, joinAll_snoc]

/-- The flat form: each element raised at once. -/
def flatAll (s : Bool) (L : Nat) : List (List Int) → Nat → List Int
  | [], _ => []
  | z :: l, n => z.map (fun v => v + ((if s then L - n - z.length else n : Nat) : Int)) ++ flatAll s L l (n + z.length)
theorem flatAll_snoc (s : Bool) (L : Nat) : ∀ (l : List (List Int)) (n : Nat) (z : List Int), flatAll s L (l ++ [z]) n = flatAll s L l n ++ z.map (fun v => v + ((if s then L - (n + tot l) - z.length else n + tot l : Nat) : Int))
  | [], n, z => by simp [flatAll, tot]
  | y :: l, n, z => by
    rw [List.cons_append, flatAll, flatAll, flatAll_snoc s L l]
    have e : n + y.length + tot l = n + tot (y :: l) := by simp [tot]; omega
    rw [e, List.append_assoc]
theorem flatAll_more (L m : Nat) : ∀ (l : List (List Int)) (n : Nat), n + tot l ≤ L → flatAll true (L + m) l n = (flatAll true L l n).map (fun v => v + (m : Int))
  | [], _, _ => by simp [flatAll]
  | y :: l, n, h => by
    have h' : n + (y.length + tot l) ≤ L := by simpa [tot] using h
    rw [flatAll, flatAll, flatAll_more L m l _ (by omega), List.map_append, List.map_map]
    congr 1
    refine List.map_congr_left fun v _ => ?_
    simp only [if_true, Function.comp]
    omega
theorem flat_join (s : Bool) (l : List (List Int)) : flatAll s (tot l) l 0 = joinAll s l := by
  have : ∀ (k : Nat), k ≤ l.length → flatAll s (tot (l.take k)) (l.take k) 0 = joinAll s (l.take k) := fun k => by
    induction k with
    | zero => intro _; simp [flatAll, joinAll]
    | succ k ih =>
      intro hk
      obtain ⟨z, hz⟩ : ∃ z, l[k]? = some z := ⟨_, List.getElem?_eq_getElem (by omega)⟩
      rw [joinAll_take hz, ← ih (by omega), tot_take' hz, take_snoc_r hz, flatAll_snoc]
      have hlen : (flatAll s (tot (l.take k)) (l.take k) 0).length = tot (l.take k) := by rw [ih (by omega), joinAll_length]
      cases s with
      | true =>
        rw [flatAll_more _ _ _ _ (by omega)]
        simp only [joinL, if_true]
        congr 1
        have : tot (l.take k) + z.length - (0 + tot (l.take k)) - z.length = 0 := by omega
        rw [this]
        simp
      | false =>
        simp only [joinL, Bool.false_eq_true, if_false, hlen]
        have e : ∀ L L' n, flatAll false L (l.take k) n = flatAll false L' (l.take k) n := fun L L' n => by
          generalize l.take k = m
          induction m generalizing n with
          | nil => rfl
          | cons y m ih => simp only [flatAll, Bool.false_eq_true, if_false]; rw [ih]
        rw [e _ (tot (l.take k)) 0]
        simp
  have h := this l.length (Nat.le_refl _)
  rwa [List.take_length] at h

/-- The greatest of a list and 0. -/
def most (l : List Int) : Int := l.foldl max 0
theorem most_take {l : List Int} {k : Nat} {z : Int} (h : l[k]? = some z) : most (l.take (k + 1)) = max (most (l.take k)) z := by rw [take_snoc_i h]; simp [most]
/-- Where the part that is under way began; the parts that ended. -/
def frm (p : List Int) : Nat → Nat
  | 0 => 0
  | k + 1 => if most (p.take (k + 1)) = (k : Int) + 1 then k + 1 else frm p k
def prt (p : List Int) : Nat → List (List Int)
  | 0 => []
  | k + 1 => if most (p.take (k + 1)) = (k : Int) + 1 then prt p k ++ [patL ((p.drop (frm p k)).take (k + 1 - frm p k))] else prt p k
theorem frm_le (p : List Int) : ∀ k, frm p k ≤ k
  | 0 => Nat.le_refl _
  | k + 1 => by
    rw [frm]
    have := frm_le p k
    split <;> omega
theorem frm_yes {p : List Int} {k : Nat} (h : most (p.take (k + 1)) = (k : Int) + 1) : frm p (k + 1) = k + 1 := by rw [frm, if_pos h]
theorem frm_no {p : List Int} {k : Nat} (h : ¬ most (p.take (k + 1)) = (k : Int) + 1) : frm p (k + 1) = frm p k := by rw [frm, if_neg h]
theorem prt_yes {p : List Int} {k : Nat} (h : most (p.take (k + 1)) = (k : Int) + 1) : prt p (k + 1) = prt p k ++ [patL ((p.drop (frm p k)).take (k + 1 - frm p k))] := by rw [prt, if_pos h]
theorem prt_no {p : List Int} {k : Nat} (h : ¬ most (p.take (k + 1)) = (k : Int) + 1) : prt p (k + 1) = prt p k := by rw [prt, if_neg h]
theorem prt_len (p : List Int) : ∀ k, (prt p k).length ≤ k
  | 0 => Nat.le_refl _
  | k + 1 => by
    rw [prt]
    have := prt_len p k
    split
    · rw [List.length_append]; simp; omega
    · omega
theorem prt_tot (p : List Int) : ∀ k, tot (prt p k) ≤ frm p k
  | 0 => by simp [prt, tot]
  | k + 1 => by
    have h1 := prt_tot p k
    have h2 := frm_le p k
    by_cases h : most (p.take (k + 1)) = (k : Int) + 1
    · rw [prt_yes h, frm_yes h, tot_snoc, patL_length, List.length_take]; omega
    · rw [prt_no h, frm_no h]; exact h1
theorem nodup_cut {p : List Int} (h : p.Nodup) (a b : Nat) : ((p.drop a).take b).Nodup := (List.nodup_iff_pairwise_ne.1 h).sublist ((List.take_sublist _ _).trans (List.drop_sublist _ _)) |> List.nodup_iff_pairwise_ne.2
theorem patOK_cut {p : List Int} (h : isP p = true) (a b : Nat) : patOK ((p.drop a).take b) = true := by
  obtain ⟨h8, _, hn⟩ := isP_true.1 h
  exact patOK_yes (by rw [List.length_take, List.length_drop]; omega) (nodup_cut hn a b)
theorem prt_isP {p : List Int} (h : isP p = true) : ∀ k z, z ∈ prt p k → isP z = true
  | 0, z, hz => by simp [prt] at hz
  | k + 1, z, hz => by
    by_cases hm : most (p.take (k + 1)) = (k : Int) + 1
    · rw [prt_yes hm] at hz
      rcases List.mem_append.1 hz with hz | hz
      · exact prt_isP h k z hz
      · obtain rfl := List.mem_singleton.1 hz
        rw [isP_pat]; exact patOK_cut h _ _
    · rw [prt_no hm] at hz
      exact prt_isP h k z hz
def partsR (p : List Int) : List (List Int) := if isP p then prt p p.length else []
theorem partsR_yes {p : List Int} (h : isP p = true) : partsR p = prt p p.length := by unfold partsR; rw [if_pos h]
theorem partsR_no {p : List Int} (h : isP p = false) : partsR p = [] := by unfold partsR; rw [if_neg (by simp [h])]
theorem partsR_isP {p z : List Int} (hz : z ∈ partsR p) : isP z = true := by
  cases h : isP p with
  | true => rw [partsR_yes h] at hz; exact prt_isP h _ z hz
  | false => rw [partsR_no h] at hz; simp at hz
theorem partsR_small (p : List Int) : (partsR p).length ≤ 8 ∧ tot (partsR p) ≤ 8 := by
  cases h : isP p with
  | true =>
    have := isP_le h
    have := prt_len p p.length
    have := prt_tot p p.length
    have := frm_le p p.length
    rw [partsR_yes h]; omega
  | false => rw [partsR_no h]; simp [tot]
theorem partsR_allP (p : List Int) : allP (partsR p) = true := allP_yes fun _ hz => partsR_isP hz
def skewsR (p : List Int) : List (List Int) := if isP p then (partsR (cplL p)).map cplL else []
theorem skewsR_yes {p : List Int} (h : isP p = true) : skewsR p = (partsR (cplL p)).map cplL := by unfold skewsR; rw [if_pos h]
theorem skewsR_no {p : List Int} (h : isP p = false) : skewsR p = [] := by unfold skewsR; rw [if_neg (by simp [h])]
theorem tot_map_cpl : ∀ l : List (List Int), tot (l.map cplL) = tot l
  | [] => rfl
  | z :: l => by
    have := tot_map_cpl l
    simp only [tot, List.map_cons, List.map_map] at this ⊢
    rw [List.sum_cons, List.sum_cons, this, cplL_length]
theorem skewsR_small (p : List Int) : (skewsR p).length ≤ 8 ∧ tot (skewsR p) ≤ 8 := by
  cases h : isP p with
  | true => rw [skewsR_yes h, tot_map_cpl, List.length_map]; exact partsR_small _
  | false => rw [skewsR_no h]; simp [tot]
theorem skewsR_isP {p z : List Int} (hz : z ∈ skewsR p) : isP z = true := by
  cases h : isP p with
  | true =>
    rw [skewsR_yes h] at hz
    obtain ⟨y, hy, rfl⟩ := List.mem_map.1 hz
    exact isP_cpl (partsR_isP hy)
  | false => rw [skewsR_no h] at hz; simp at hz
/-- What is layered. -/
def layer (p : List Int) : Bool := isP p && (partsR p).all fun z => decide (z.reverse = upTo z.length)
theorem layer_no {p : List Int} (h : isP p = false) : layer p = false := by simp [layer, h]
theorem layer_at {p z : List Int} (hz : z ∈ partsR p) (h : z.reverse ≠ upTo z.length) : layer p = false := by
  unfold layer
  rw [Bool.and_eq_false_iff]
  right
  rw [List.all_eq_false]
  exact ⟨z, hz, by simpa using h⟩
theorem layer_yes {p : List Int} (h : isP p = true) (hz : ∀ z ∈ partsR p, z.reverse = upTo z.length) : layer p = true := by
  unfold layer
  rw [h, Bool.true_and, List.all_eq_true]
  exact fun z hz' => by simpa using hz z hz'
/-- A permutation in ascending order is 1, 2, and so on. -/
theorem asc_upTo {l : List Int} (h : isP l = true) (hs : ∀ i, i + 1 < l.length → at0 l i ≤ at0 l (i + 1)) : l = upTo l.length := by
  obtain ⟨_, hr, hn⟩ := isP_true.1 h
  have hlt : ∀ i j, i < j → j < l.length → at0 l i < at0 l j := fun i j => by
    induction j with
    | zero => intro h; omega
    | succ j ih =>
      intro hij hj
      have h1 := hs j hj
      have hne : at0 l j ≠ at0 l (j + 1) := fun e => by
        have := (List.getElem?_inj (i := j) (j := j + 1) (by omega) hn).1 (by rw [at0_some (by omega), at0_some hj, e])
        omega
      by_cases hij' : i = j
      · subst hij'; omega
      · have := ih (by omega) (by omega); omega
  have hlo : ∀ i, i < l.length → (i : Int) + 1 ≤ at0 l i := fun i => by
    induction i with
    | zero => intro hi; have := hr _ (List.mem_of_getElem? (at0_some hi)); omega
    | succ i ih => intro hi; have := ih (by omega); have := hlt i (i + 1) (by omega) hi; omega
  have hhi : ∀ d i, i < l.length → i + d + 1 = l.length → at0 l i ≤ (i : Int) + 1 := fun d => by
    induction d with
    | zero => intro i hi e; have := hr _ (List.mem_of_getElem? (at0_some hi)); omega
    | succ d ih => intro i hi e; have := ih (i + 1) (by omega) (by omega); have := hlt i (i + 1) (by omega) (by omega); omega
  refine List.ext_getElem? fun i => ?_
  by_cases hi : i < l.length
  · rw [at0_some hi]
    have h1 := hlo i hi
    have h2 := hhi (l.length - i - 1) i hi (by omega)
    unfold upTo
    rw [List.getElem?_map, List.getElem?_range hi]
    simp only [Option.map_some]
    congr 1
    omega
  · rw [List.getElem?_eq_none (by omega), List.getElem?_eq_none (by rw [upTo_length]; omega)]
end Go.Proofs.Ytcnmnpbipencmaa


/-
  spec.l2Same, slices.Equal, spec.IsInvolution, impl.IsInvolution, impl.inverseOf, by their contracts.
-/

namespace Go.Proofs.Ytcnmnpbipencmaa
set_option maxRecDepth 100000
open Go.RowKit

theorem same_ne {p q : List Int} {k : Nat} {x y : Int} (hx : p[k]? = some x) (hy : q[k]? = some y) (h : x ≠ y) : decide (p = q) = false := by
  rw [decide_eq_false_iff_not]
  rintro rfl
  rw [hx] at hy
  exact h (Option.some.inj hy)
theorem same_len {p q : List Int} (h : p.length ≠ q.length) : decide (p = q) = false := by
  rw [decide_eq_false_iff_not]
  rintro rfl
  exact h rfl
theorem same_end {p q : List Int} {n : Nat} (h : p.take n = q.take n) (hp : p.length = n) (hq : q.length = n) : decide (p = q) = true := by
  rw [List.take_of_length_le (by omega), List.take_of_length_le (by omega)] at h
  simp [h]
theorem isP_small {p : List Int} (h : isP p = true) : Small p := fun z hz => by
  have h1 := (isP_true.1 h).2.1 z hz
  have h2 := isP_le h
  omega
theorem Ints.argP {w : World} {B n c : Nat} {A : Option Addr} {zs : List Int} (h : Ints w B (.slice A n c) zs) (hp : isP zs = true) : Arg w w.heap.size A n c zs :=
  h.arg (by have := isP_le hp; have := h.len; omega) h.cap (isP_small hp)
end Go.Proofs.Ytcnmnpbipencmaa


/-
  WORDS FOR append: a list that is read, behind a row of the call's own. Nothing here speaks of a function of the program.
-/

namespace Go.Proofs.Ytcnmnpbipencmaa
set_option maxRecDepth 100000
open Go.RowKit

theorem i64_append (xs ys : List Int) : i64s xs ++ i64s ys = i64s (xs ++ ys) := by unfold i64s; rw [List.map_append]
theorem i64_one (xs : List Int) : ∀ u ∈ i64s xs, u.oneCell' = true := fun u hu => by
  unfold i64s at hu
  obtain ⟨z, _, rfl⟩ := List.mem_map.1 hu
  rfl
/-- 'append(s, x...)', s a row of the call's own, x a list that is read: at the operation, at the list of a plain region, at a step of a region that draws. -/
theorem wp_append_arg {o : Oper} {a : Act} {W : World} {K : Act → World → Prop} {Q : Exit → Act → World → Prop} (s x : Operand)
    (ho : o.op = .call { callee := .builtin .append, args := #[s, x], argTypes := #[24, 24] })
    (base B m n c : Nat) (w0 : World) (v : Value) (A : Option Addr) (xs zs : List Int) (hs : a.eval s = v) (hx : a.eval x = .slice A n c) (hown : W.ownsRow base 3 1 v m (i64s xs)) (h : Arg W B A n c zs)
    (hm : m ≤ 1099511627776) (hb : Below base w0 W) (hbase : base ≤ W.heap.size)
    (hK : ∀ v' w', w'.ownsRow base 3 1 v' (m + n) (i64s (xs ++ zs)) → Below base w0 w' → W.grownBy w' v.ownBlock → K (a.put o.dst v') w') : o.wp Try.prog a W K Q := by
  obtain ⟨i0, hi, hz0, hz1, hz2⟩ := info_parts intInfo
  have hn := h.le
  have hl := h.len
  cases A with
  | none =>
    obtain rfl : c = 0 := h.nil rfl
    have hc := h.cap
    obtain rfl : n = 0 := by omega
    obtain rfl := List.eq_nil_of_length_eq_zero hl
    have hrun := run_append_owned_none (P := Try.prog) (w := W) base 24 o.type 3 i0 1 Try.underlying24 hi v m _ hown
    unfold Oper.wp execOp
    simp only [ho, resolve, invoke, builtin, Sem.run_bind, Sem.run_pure, Result.andThen_ok, List.map_toArray, List.map_cons, List.map_nil, hs, hx, hrun]
    exact hK v W (by rw [List.append_nil]; exact hown) hb (World.grownBy.refl W _)
  | some ad =>
    have hr := h.reads
    refine wp_append_own W s x 24 ho base 3 i0 (.int .i64 0) 1 8 Try.underlying24 hi hz0 hz1 hz2 rfl (by decide) v m _ hs hown ad n c (i64s zs) hx (by rw [i64_length, hl]; omega) ?_ (i64_one zs) (by unfold maxLen; omega) (by omega) hbase ?_
    · intro j u hu
      have hj : j < n := by have := (List.getElem?_eq_some_iff.1 hu).1; rw [i64_length, hl] at this; exact this
      obtain ⟨ad', he, _, hc⟩ := hr.2 (by omega)
      injection he with he
      subst he
      exact hc j u hu
    · intro v' w' h1 h2 _
      rw [i64_append] at h1
      exact hK v' w' h1 (hb.grown h2 hbase (fun k hk => (hown.lt k hk).1)) h2
theorem wpList_append_arg {ops : Array Oper} {rest : List Oper} {o : Oper} {a : Act} {W : World} {Q : Exit → Act → World → Prop} (hgd : o.guard = none) (s x : Operand)
    (ho : o.op = .call { callee := .builtin .append, args := #[s, x], argTypes := #[24, 24] })
    (base B m n c : Nat) (w0 : World) (v : Value) (A : Option Addr) (xs zs : List Int) (hs : a.eval s = v) (hx : a.eval x = .slice A n c) (hown : W.ownsRow base 3 1 v m (i64s xs)) (h : Arg W B A n c zs)
    (hm : m ≤ 1099511627776) (hb : Below base w0 W) (hbase : base ≤ W.heap.size)
    (K : ∀ v' w', w'.ownsRow base 3 1 v' (m + n) (i64s (xs ++ zs)) → Below base w0 w' → W.grownBy w' v.ownBlock → wpList Try.prog ops Q rest (a.put o.dst v') w') : wpList Try.prog ops Q (o :: rest) a W :=
  wpList_plain hgd fun _ hK => wp_append_arg s x ho base B m n c w0 v A xs zs hs hx hown h hm hb hbase fun v' w' h1 h2 h3 => hK _ _ (K v' w' h1 h2 h3)
theorem step_append_arg {ops : Array Oper} {o : Oper} {a : Act} {W : World} {K : Act → World → Prop} {Q : Exit → Act → World → Prop} {E : Prop} (hgd : o.guard = none) (s x : Operand)
    (ho : o.op = .call { callee := .builtin .append, args := #[s, x], argTypes := #[24, 24] })
    (base B m n c : Nat) (w0 : World) (v : Value) (A : Option Addr) (xs zs : List Int) (hs : a.eval s = v) (hx : a.eval x = .slice A n c) (hown : W.ownsRow base 3 1 v m (i64s xs)) (h : Arg W B A n c zs)
    (hm : m ≤ 1099511627776) (hb : Below base w0 W) (hbase : base ≤ W.heap.size)
    (hK : ∀ v' w', w'.ownsRow base 3 1 v' (m + n) (i64s (xs ++ zs)) → Below base w0 w' → W.grownBy w' v.ownBlock → K (a.put o.dst v') w') :
    if Region.wanted o (yielded ops a.tmps) = true then Oper.wp Try.prog o a W K Q else E := by
  have hw : Region.wanted o (yielded ops a.tmps) = true := by simp [Region.wanted, hgd]
  rw [if_pos hw]
  exact wp_append_arg s x ho base B m n c w0 v A xs zs hs hx hown h hm hb hbase hK

theorem reads_new (w : World) (v : Value) (t : TypeId) : Reads (w.alloc (.cells #[v] t)) (w.heap.size + 1) (some ⟨w.heap.size, 0, none⟩) 1 [v] := ⟨rfl, fun _ => ⟨_, rfl, by simp, fun j u hu => by
  rw [show (⟨w.heap.size, 0, none⟩ : Addr).add j = ⟨w.heap.size, j, none⟩ by unfold Addr.add; split <;> simp_all, World.cell?_alloc_new]
  simpa using hu⟩⟩
/-- 'append(s, z)' at a step of a region that draws: the one cell lies in the region's own new block. -/
theorem step_append_one {ops : Array Oper} {o : Oper} {a : Act} {W : World} {K : Act → World → Prop} {Q : Exit → Act → World → Prop} {E : Prop} (hgd : o.guard = none) (s x : Operand)
    (ho : o.op = .call { callee := .builtin .append, args := #[s, x], argTypes := #[24, 24] })
    (base m : Nat) (w0 wr : World) (v : Value) (xs : List Int) (z : Int) (hs : a.eval s = v) (hx : a.eval x = .slice (some ⟨wr.heap.size, 0, none⟩) 1 1) (hW : W = (wr.alloc (.cells #[.int .i64 z] 3)).drew) (hown : wr.ownsRow base 3 1 v m (i64s xs))
    (hz : -9223372036854775808 ≤ z ∧ z ≤ 9223372036854775807) (hm : m ≤ 1099511627776) (hb : Below base w0 wr) (hbase : base ≤ wr.heap.size)
    (hK : ∀ v' w', w'.ownsRow base 3 1 v' (m + 1) (i64s (xs ++ [z])) → Below base w0 w' → K (a.put o.dst v') w') :
    if Region.wanted o (yielded ops a.tmps) = true then Oper.wp Try.prog o a W K Q else E := by
  subst hW
  have hal := (Below.refl wr.heap.size wr).alloc (Nat.le_refl _) (.cells #[.int .i64 z] 3)
  have hb2 : Below wr.heap.size wr (wr.alloc (.cells #[.int .i64 z] 3)).drew := hal.drew
  refine step_append_arg hgd s x ho base (wr.heap.size + 1) m 1 1 w0 v (some ⟨wr.heap.size, 0, none⟩) xs [z] hs hx (own_below hown hb2) ?_ hm (hb.trans (hb2.mono hbase)) (Nat.le_trans hbase hb2.size) fun v' w' h1 h2 _ => hK v' w' h1 h2
  refine ⟨(reads_new wr (.int .i64 z) 3).drew, by simp, by omega, Nat.le_refl _, fun y hy => ?_, fun e => by cases e⟩
  rw [List.mem_singleton] at hy
  subst hy
  exact hz

theorem own_cut {w : World} {B g n cap s : Nat} {e : TypeId} {xs : List Value} (h : w.ownsRow B e 1 (.slice (some ⟨g, 0, none⟩) n cap) n xs) (hs : s ≤ n) : w.ownsRow B e 1 (.slice (some ⟨g, 0, none⟩) s cap) s (xs.take s) := by
  have hl : xs.length = n := by simpa using h.1
  refine ⟨by rw [List.length_take]; omega, ?_⟩
  rcases h.2 with ⟨hv, _⟩ | ⟨g', cap', cur, hv, hb, hg, hnc, hc, hsz, ht⟩
  · cases hv
  · injection hv with h1 h2 h3
    injection h1 with h1
    injection h1 with h1
    subst h1; subst h3
    refine .inr ⟨g, cap, cur, rfl, hb, hg, by omega, hc, hsz, ?_⟩
    rw [← ht, Nat.mul_one, Nat.mul_one, List.take_take, Nat.min_eq_left hs]
theorem own_rest {w : World} {B g n cap s : Nat} {e : TypeId} {xs : List Value} (h : w.ownsRow B e 1 (.slice (some ⟨g, 0, none⟩) n cap) n xs) (hs : s ≤ n) : Reads w w.heap.size (some ⟨g, s, none⟩) (n - s) (xs.drop s) := by
  have hr := Reads.of_own_at h
  have hl := hr.1
  refine ⟨by rw [List.length_drop]; omega, fun h0 => ?_⟩
  obtain ⟨ad, he, hb, hc⟩ := hr.2 (by omega)
  injection he with he
  subst he
  refine ⟨_, rfl, hb, fun j u hu => ?_⟩
  rw [List.getElem?_drop] at hu
  have := hc (s + j) u hu
  rw [show (⟨g, 0, none⟩ : Addr).add (s + j) = ⟨g, s + j, none⟩ by unfold Addr.add; split <;> simp_all] at this
  rw [show (⟨g, s, none⟩ : Addr).add j = ⟨g, s + j, none⟩ by unfold Addr.add; split <;> simp_all]
  exact this
theorem own_first {w : World} {base n : Nat} {v : Value} {xs : List Value} {e : TypeId} (h : w.ownsRow base e 1 v n xs) (hn : 0 < n) : ∃ g c, v = .slice (some ⟨g, 0, none⟩) n c ∧ base ≤ g ∧ n ≤ c := by
  rcases h.2 with ⟨_, h0⟩ | ⟨g, cap, cur, rfl, hb, hg, hnc, _⟩
  · omega
  · exact ⟨g, cap, rfl, hb, hnc⟩
/-! the same for rows of rows: x reads as the values news -/
theorem rowsInfo1 : (Try.prog.info? 24).map (fun i => (i.zero, i.size, i.bytes)) = some (some (.slice none 0 0), 1, 24) := by kernel_rfl
theorem wp_append_rows {o : Oper} {a : Act} {W : World} {K : Act → World → Prop} {Q : Exit → Act → World → Prop} (s x : Operand)
    (ho : o.op = .call { callee := .builtin .append, args := #[s, x], argTypes := #[31, 31] })
    (base B m n c : Nat) (w0 : World) (v : Value) (A : Option Addr) (xs news : List Value) (hs : a.eval s = v) (hx : a.eval x = .slice A n c) (hown : W.ownsRow base 24 1 v m xs) (hr : Reads W B A n news) (hA : A = none → c = 0) (h1 : ∀ u ∈ news, u.oneCell' = true)
    (hm : m ≤ 1099511627776) (hn : n ≤ 1099511627776) (hb : Below base w0 W) (hbase : base ≤ W.heap.size)
    (hK : ∀ v' w', w'.ownsRow base 24 1 v' (m + n) (xs ++ news) → Below base w0 w' → W.grownBy w' v.ownBlock → (v' = .slice none 0 0 → v = .slice none 0 0) → K (a.put o.dst v') w') : o.wp Try.prog a W K Q := by
  obtain ⟨i0, hi, hz0, hz1, hz2⟩ := info_parts rowsInfo1
  cases A with
  | none =>
    obtain rfl : c = 0 := hA rfl
    obtain rfl : n = 0 := by
      by_cases h0 : 0 < n
      · obtain ⟨ad, he, _⟩ := hr.2 h0
        cases he
      · omega
    obtain rfl := List.eq_nil_of_length_eq_zero hr.1
    have hrun := run_append_owned_none (P := Try.prog) (w := W) base 31 o.type 24 i0 1 Try.underlying31 hi v m _ hown
    unfold Oper.wp execOp
    simp only [ho, resolve, invoke, builtin, Sem.run_bind, Sem.run_pure, Result.andThen_ok, List.map_toArray, List.map_cons, List.map_nil, hs, hx, hrun]
    exact hK v W (by rw [List.append_nil]; exact hown) hb (World.grownBy.refl W _) id
  | some ad =>
    refine wp_append_own W s x 31 ho base 24 i0 (.slice none 0 0) 1 24 Try.underlying31 hi hz0 hz1 hz2 rfl (by decide) v m _ hs hown ad n c news hx (by rw [hr.1]; omega) ?_ h1 (by unfold maxLen; omega) (by omega) hbase ?_
    · intro j u hu
      have hj : j < n := by have := (List.getElem?_eq_some_iff.1 hu).1; have := hr.1; omega
      obtain ⟨ad', he, _, hc⟩ := hr.2 (by omega)
      injection he with he
      subst he
      exact hc j u hu
    · intro v' w' h1 h2 h3
      exact hK v' w' h1 (hb.grown h2 hbase (fun k hk => (hown.lt k hk).1)) h2 (fun e => (h3.1 e).1)
theorem wpList_append_rows {ops : Array Oper} {rest : List Oper} {o : Oper} {a : Act} {W : World} {Q : Exit → Act → World → Prop} (hgd : o.guard = none) (s x : Operand)
    (ho : o.op = .call { callee := .builtin .append, args := #[s, x], argTypes := #[31, 31] })
    (base B m n c : Nat) (w0 : World) (v : Value) (A : Option Addr) (xs news : List Value) (hs : a.eval s = v) (hx : a.eval x = .slice A n c) (hown : W.ownsRow base 24 1 v m xs) (hr : Reads W B A n news) (hA : A = none → c = 0) (h1 : ∀ u ∈ news, u.oneCell' = true)
    (hm : m ≤ 1099511627776) (hn : n ≤ 1099511627776) (hb : Below base w0 W) (hbase : base ≤ W.heap.size)
    (K : ∀ v' w', w'.ownsRow base 24 1 v' (m + n) (xs ++ news) → Below base w0 w' → W.grownBy w' v.ownBlock → (v' = .slice none 0 0 → v = .slice none 0 0) → wpList Try.prog ops Q rest (a.put o.dst v') w') : wpList Try.prog ops Q (o :: rest) a W :=
  wpList_plain hgd fun _ hK => wp_append_rows s x ho base B m n c w0 v A xs news hs hx hown hr hA h1 hm hn hb hbase fun v' w' h1 h2 h3 h4 => hK _ _ (K v' w' h1 h2 h3 h4)
theorem step_append_rows {ops : Array Oper} {o : Oper} {a : Act} {W : World} {K : Act → World → Prop} {Q : Exit → Act → World → Prop} {E : Prop} (hgd : o.guard = none) (s x : Operand)
    (ho : o.op = .call { callee := .builtin .append, args := #[s, x], argTypes := #[31, 31] })
    (base B m n c : Nat) (w0 : World) (v : Value) (A : Option Addr) (xs news : List Value) (hs : a.eval s = v) (hx : a.eval x = .slice A n c) (hown : W.ownsRow base 24 1 v m xs) (hr : Reads W B A n news) (hA : A = none → c = 0) (h1 : ∀ u ∈ news, u.oneCell' = true)
    (hm : m ≤ 1099511627776) (hn : n ≤ 1099511627776) (hb : Below base w0 W) (hbase : base ≤ W.heap.size)
    (hK : ∀ v' w', w'.ownsRow base 24 1 v' (m + n) (xs ++ news) → Below base w0 w' → W.grownBy w' v.ownBlock → (v' = .slice none 0 0 → v = .slice none 0 0) → K (a.put o.dst v') w') :
    if Region.wanted o (yielded ops a.tmps) = true then Oper.wp Try.prog o a W K Q else E := by
  have hw : Region.wanted o (yielded ops a.tmps) = true := by simp [Region.wanted, hgd]
  rw [if_pos hw]
  exact wp_append_rows s x ho base B m n c w0 v A xs news hs hx hown hr hA h1 hm hn hb hbase hK
end Go.Proofs.Ytcnmnpbipencmaa
