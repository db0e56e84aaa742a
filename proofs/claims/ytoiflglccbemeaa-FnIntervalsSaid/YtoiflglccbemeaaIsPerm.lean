
/-
  impl.IsPerm, by its contract.
-/
import Derived.Test.YtoiflglccbemeaaProg
import Derived.Test.YtoiflglccbemeaaAsc
import Derived.Test.YtoiflglccbemeaaArrEq
import Derived.Deep.RegionHeld3
namespace Go.Proofs.Ytoiflglccbemeaa
set_option maxRecDepth 100000
open Go.RowKit

theorem sizeInt (w : World) : (sizeOf 3).run Try.prog w = .ok 1 w := by kernel_rfl
theorem permEq (w : World) (xs ys : List Int) (hx : xs.length = 8) (hy : ys.length = 8) : (Op.equalIn 10000 69 (.agg (arr xs)) (.agg (arr ys))).run Try.prog w = .ok (xs == ys) w :=
  run_equalIn_ints w 9998 69 3 8 Try.underlying69 Try.underlying3 sizeInt xs ys hx hy

theorem range_snoc {zs : List Int} {k : Nat} {z m : Int} (hz : zs[k]? = some z) (h1 : 1 ≤ z) (h2 : z ≤ m) (h : ∀ x ∈ zs.take k, 1 ≤ x ∧ x ≤ m) : ∀ x ∈ zs.take (k + 1), 1 ≤ x ∧ x ≤ m := by
  rw [take_snoc_i hz]
  intro x hx
  rcases List.mem_append.1 hx with hx | hx
  · exact h x hx
  · rw [List.mem_singleton] at hx
    subst hx
    exact ⟨h1, h2⟩

set_option maxHeartbeats 800000 in
theorem iisperm_any (A : Option Addr) (n c B : Nat) (zs : List Int) (b : Bool) (hb : isP zs = b) (w : World) (hr : Reads w B A n (i64s zs)) (hB : B ≤ w.heap.size) (hn : n ≤ 1048576) (hz : Small zs) :
    Calls Try.prog 44 #[.slice A n c] w fun e w' => e = .returned (.bool b) ∧ Below w.heap.size w w' := by
  have HB := hide hb
  clear hb
  have hl : zs.length = n := by have := hr.1; rwa [i64_length] at this
  by_cases h8 : n ≤ 8
  · have HL := hide hl
    clear hl
    have h8b : decide ((8 : Int) < (n : Int)) = false := by simp; omega
    go_enter Try.func44, Try.ntmps44
    go_wp2
    rw [zeros_asc]
    go_loopw [5, 11] (fun _ i wr => ∃ k : Nat, k ≤ n ∧ i = .int .i64 k ∧ Below w.heap.size w wr ∧ Whole wr w.heap.size 69 (arr (fnd (zs.take k))) ∧ Hid (∀ x ∈ zs.take k, 1 ≤ x ∧ x ≤ (n : Int))) (fun _ i _ => n - (intOf i).toNat)
    case atStart =>
      refine ⟨0, Nat.zero_le _, rfl, (Below.refl _ _).alloc (Nat.le_refl _) _, ?_, by exact (by simp : ∀ x ∈ zs.take 0, 1 ≤ x ∧ x ≤ (n : Int))⟩
      have h1 := Whole.new w 69 (arr (ascL 0))
      rw [ascL_zero] at h1 ⊢
      rw [List.take_zero, fnd_nil]
      exact h1
    case round =>
      obtain ⟨k, hk, rfl, hbw, hw0, hs⟩ := hrel
      by_cases hlt : k < n
      · obtain ⟨ad, u, rfl, had, hu, hcell⟩ := ((hr.more hB).below hbw).at_ hlt
        obtain ⟨z, hz, rfl⟩ := i64_at hu
        clear hu
        have hzs := ‹Small zs› z (List.mem_of_getElem? hz)
        obtain ⟨hzl, hzu⟩ := hzs
        have HZ := hide hz
        clear hz
        by_cases h1 : 1 ≤ z
        · by_cases h2 : z ≤ (n : Int)
          · have hz8 : z.toNat - 1 < 8 := by omega
            have h1' : ¬ z < 1 := by omega
            have h2' : ¬ (n : Int) < z := by omega
            obtain ⟨old, hold⟩ : ∃ old, wr.cell? ⟨w.heap.size, z.toNat - 1, none⟩ = some old := by
              rw [hw0.cell]
              exact ⟨_, Array.getElem?_eq_getElem (by rw [arr_size, fnd_length]; exact hz8)⟩
            have hfz := hw0.frozen (z.toNat - 1)
            have n0 := hw0.put (z.toNat - 1) (.int .i64 z)
            rw [arr_set, show z.toNat - 1 = (z - 1).toNat by omega, fnd_step h1 (by omega), ← take_snoc_i (unhide HZ), show (z - 1).toNat = z.toNat - 1 by omega] at n0
            have nb := hbw.setCell (p := ⟨w.heap.size, z.toNat - 1, none⟩) (Nat.le_refl _) (.int .i64 z)
            have hs' := hide (range_snoc (unhide HZ) h1 h2 (unhide hs))
            clear hw0 hbw hs
            go_wp2
            go_roundw
            case rel => exact ⟨k + 1, by omega, by go_num, nb, n0, hs'⟩
            case measure => simp [intOf]; omega
          · obtain rfl : b = false := (unhide HB).symm.trans (isP_no_range (unhide HZ) (by rw [unhide HL]; omega))
            have h1' : ¬ z < 1 := by omega
            have h2' : (n : Int) < z := by omega
            clear HB
            go_wp2
            go_ret
            exact ⟨rfl, hbw⟩
        · obtain rfl : b = false := (unhide HB).symm.trans (isP_no_range (unhide HZ) (by omega))
          have h1' : z < 1 := by omega
          clear HB
          go_wp2
          go_ret
          exact ⟨rfl, hbw⟩
      · obtain rfl : n = k := by omega
        have htk : zs.take n = zs := List.take_of_length_le (by rw [unhide HL]; exact Nat.le_refl _)
        rw [htk] at hw0 hs
        have heq := fun w => permEq w (fnd zs) (ascL n) (fnd_length _) (ascL_length _)
        have hfa := fnd_asc (l := zs) (by rw [unhide HL]; exact h8) (by rw [unhide HL]; exact unhide hs)
        rw [unhide HL] at hfa
        rw [hfa, unhide HB] at heq
        clear hfa htk hs HB HL h8b hk hlt hr
        obtain ⟨x0, x1, x2, x3, x4, x5, x6, x7, hx⟩ := list8 (fnd_length zs)
        rw [hx] at hw0 heq
        clear hx
        have k0 := hw0.cell 0
        have k1 := hw0.cell 1
        have k2 := hw0.cell 2
        have k3 := hw0.cell 3
        have k4 := hw0.cell 4
        have k5 := hw0.cell 5
        have k6 := hw0.cell 6
        have k7 := hw0.cell 7
        have hg := hw0.lt
        clear hw0
        have heq2 : ∀ w, (Op.equalIn 10000 69 (.agg #[.int .i64 x0, .int .i64 x1, .int .i64 x2, .int .i64 x3, .int .i64 x4, .int .i64 x5, .int .i64 x6, .int .i64 x7]) (.agg (arr (ascL n)))).run Try.prog w = .ok b w := heq
        clear heq
        simp only [arr, i64s, List.map_cons, List.map_nil] at k0 k1 k2 k3 k4 k5 k6 k7
        go_wp2
        go_region_held3 (fun w' => w'.cell? ⟨w.heap.size, 0, none⟩ = some (.int .i64 x0) ∧ w'.cell? ⟨w.heap.size, 1, none⟩ = some (.int .i64 x1) ∧ w'.cell? ⟨w.heap.size, 2, none⟩ = some (.int .i64 x2) ∧ w'.cell? ⟨w.heap.size, 3, none⟩ = some (.int .i64 x3) ∧
            w'.cell? ⟨w.heap.size, 4, none⟩ = some (.int .i64 x4) ∧ w'.cell? ⟨w.heap.size, 5, none⟩ = some (.int .i64 x5) ∧ w'.cell? ⟨w.heap.size, 6, none⟩ = some (.int .i64 x6) ∧ w'.cell? ⟨w.heap.size, 7, none⟩ = some (.int .i64 x7))
          (first
            | go_keep
            | exact ⟨(hb1.cell hg).trans k0, (hb1.cell hg).trans k1, (hb1.cell hg).trans k2, (hb1.cell hg).trans k3, (hb1.cell hg).trans k4, (hb1.cell hg).trans k5, (hb1.cell hg).trans k6, (hb1.cell hg).trans k7⟩)
          (first | (go_at_call 61; refine (asc_any n h8 _).mono ?_; rintro e w1 ⟨rfl, hb1⟩))
        go_wp2
        go_ret
        exact ⟨rfl, hbw.trans ((below_drew _ wr).trans (hb1.mono hbw.size))⟩
  · obtain rfl : b = false := (unhide HB).symm.trans (isP_long (by omega))
    clear HB hl
    have h8' : 8 < n := by omega
    go_enter Try.func44, Try.ntmps44
    go_wp2
    go_ret
    exact ⟨rfl, Below.refl _ _⟩
end Go.Proofs.Ytoiflglccbemeaa
