/-
  markText, markStringS, heldStringS, by their contracts: the marks that a law writes into a result, and finds again.
-/
import Derived.Test.YtlepfeffbpoobaaDoorStrs
import Derived.Test.YtlepfeffbpoobaaDoorFmt
import Derived.Deep.RegionHeld3
namespace Go.Proofs.YtlepfeffbpoobaaDoor
open Go.RowKit

/-- The mark of the number k. -/
def markOf (k : Nat) : ByteArray := ⟨(109 :: Lib.decDigits k).toArray⟩

set_option maxRecDepth 100000 in
set_option maxHeartbeats 800000 in
theorem mtext_any (n : Nat) (h0 : 0 < n) (h1 : n ≤ 4398046511104) (w : World) :
    Calls Tryd.prog 37 #[.int .i64 n] w fun e w' => e = .returned (.string (markOf n)) ∧ Below w.heap.size w w' := by
  have HN := hide h0
  go_enter Tryd.func37, Tryd.ntmps37
  go_wp2
  go_loopw [0, 3] (fun nv o wr => ∃ (m : Nat) (l : List UInt8), nv = .int .i64 m ∧ o = .string ⟨l.toArray⟩ ∧ m ≤ 4398046511104 ∧ Below w.heap.size w wr ∧ Hid (decR m l = Lib.decDigits n)) (fun nv _ _ => (intOf nv).toNat)
  case atStart => exact ⟨n, [], rfl, rfl, h1, Below.refl _ _, by unfold Hid decR; rw [if_neg (by have := unhide HN; omega), List.append_nil]⟩
  case round =>
    obtain ⟨m, l, rfl, rfl, hm1, hb, hd⟩ := hrel
    have hl : l.length ≤ 21 := left_short (m := (m : Int)) (n := (n : Int)) (by omega) (by omega) (by simpa using unhide hd)
    by_cases hmz : 0 < m
    · have hcv := cv_one (P := Tryd.prog) Tryd.underlying22 Tryd.underlying5 Tryd.underlying9 wr
      have hA : (0 : Int) ≤ (m : Int) % 10 := by omega
      have hB : (m : Int) % 10 < 10 := by omega
      have hst := hide (show decR (m / 10) (UInt8.ofNat (48 + m % 10) :: l) = Lib.decDigits n by rw [← unhide hd, decR_step (m := m) (by omega) l])
      clear hd
      go_wp2
      go_roundw
      case measure => simp [intOf]; omega
      case rel => exact ⟨m / 10, _, by go_num, one_app l (UInt8.ofNat_add 48 (m % 10)).symm, by omega, hb.alloc hb.size _, hst⟩
    · obtain rfl : m = 0 := by omega
      have HI := hide (show Lib.decDigits n = l by
        have h := unhide hd
        simp only [decR, if_true] at h
        exact h.symm)
      clear hd
      go_wp2
      go_ret
      exact ⟨by rw [markOf, unhide HI]; exact congrArg Ending.returned (one_app l rfl), hb⟩

/-- The marks from k on. -/
def marks (k n : Nat) : List ByteArray := (List.range n).map fun j => markOf (k + j)
theorem marks_length (k n : Nat) : (marks k n).length = n := by simp [marks]
theorem marks_at {k n j : Nat} (h : j < n) : (marks k n)[j]? = some (markOf (k + j)) := by simp [marks, h]

set_option maxHeartbeats 800000 in
/-- markStringS at a row of the call's own. -/
theorem mark_any (g n c base k : Nat) (xs : List Value) (w : World) (hown : w.ownsRow base 9 1 (.slice (some ⟨g, 0, none⟩) n c) n xs) (hk : 0 < k) (hkn : k + n ≤ 1099511627776) :
    Calls Tryd.prog 23 #[.slice (some ⟨g, 0, none⟩) n c, .int .i64 k] w fun e w' => e = .returned (.int .i64 ((k + n : Nat) : Int)) ∧
      w'.ownsRow base 9 1 (.slice (some ⟨g, 0, none⟩) n c) n ((marks k n).map Value.string) ∧ w.grownBy w' (some g) := by
  have hgb := hown.lt g rfl
  have HK := hide hk
  clear hk
  go_enter Tryd.func23, Tryd.ntmps23
  go_wp2
  go_loopw [1, 5] (fun kv i wr => ∃ (j : Nat) (ys : List Value), j ≤ n ∧ kv = .int .i64 ((k + j : Nat) : Int) ∧ i = .int .i64 j ∧ w.grownBy wr (some g) ∧ wr.ownsRow base 9 1 (.slice (some ⟨g, 0, none⟩) n c) n ys ∧ Hid (ys.take j = ((marks k n).map Value.string).take j)) (fun _ i _ => n - (intOf i).toNat)
  case atStart => exact ⟨0, xs, Nat.zero_le _, rfl, rfl, World.grownBy.refl w _, hown, rfl⟩
  case round =>
    obtain ⟨j, ys, hj, rfl, rfl, hgr, hown', hy⟩ := hrel
    clear hown
    by_cases hlt : j < n
    · have H := hide (mtext_any (k + j) (by have := unhide HK; omega) (by omega))
      go_wp2_with fail
      refine (unhide H _).mono ?_
      rintro e w1 ⟨rfl, hb⟩
      have hown1 := own_below hown' hb
      have hg1 := grown_then hgr (grown_of_below hb _)
      have hyl : ys.length = n := by simpa using hown'.1
      obtain ⟨old, hold⟩ : ∃ old, w1.cell? ⟨g, j, none⟩ = some old := ⟨_, by rw [hown1.cellAt j (by omega)]; exact List.getElem?_eq_getElem (by omega)⟩
      have hfz := hown1.frozenAt j
      have ho2 := (hown1.stored j (.string (markOf (k + j)))).1
      have hg2 := grown_then hg1 (hown1.stored j (.string (markOf (k + j)))).2
      have hnext := hide (take_set_eq (ys := (marks k n).map Value.string) (unhide hy) (by rw [List.getElem?_map, marks_at hlt]; rfl) (by omega))
      clear hown' hown1 hg1 hgr hy hb H hyl
      go_wp2
      go_roundw
      case rel => exact ⟨j + 1, _, by omega, by go_num, by go_num, hg2, ho2, hnext⟩
      case measure => simp [intOf]; omega
    · obtain rfl : n = j := by omega
      have hyl : ys.length = n := by simpa using hown'.1
      have hE : ys = (marks k n).map Value.string := by
        have h := unhide hy
        rwa [List.take_of_length_le (by omega), List.take_of_length_le (by rw [List.length_map, marks_length]; omega)] at h
      subst hE
      clear hy hyl
      go_wp2
      go_ret
      exact ⟨rfl, hown', hgr⟩

set_option maxHeartbeats 800000 in
/-- heldStringS where the marks stand. -/
theorem held_any (A : Option Addr) (n c B k : Nat) (w : World) (hr : Reads w B A n ((marks k n).map Value.string)) (hB : B ≤ w.heap.size) (hk : 0 < k) (hkn : k + n ≤ 1099511627776) :
    Calls Tryd.prog 24 #[.slice A n c, .int .i64 k] w fun e w' => e = .returned (.int .i64 ((k + n : Nat) : Int)) ∧ Below w.heap.size w w' := by
  have HK := hide hk
  clear hk
  go_enter Tryd.func24, Tryd.ntmps24
  go_wp2
  go_loopw [1, 5] (fun kv i wr => ∃ j : Nat, j ≤ n ∧ kv = .int .i64 ((k + j : Nat) : Int) ∧ i = .int .i64 j ∧ Below w.heap.size w wr) (fun _ i _ => n - (intOf i).toNat)
  case atStart => exact ⟨0, Nat.zero_le _, rfl, rfl, Below.refl _ _⟩
  case round =>
    obtain ⟨j, hj, rfl, rfl, hb⟩ := hrel
    by_cases hlt : j < n
    · have H := hide (mtext_any (k + j) (by have := unhide HK; omega) (by omega))
      obtain ⟨ad, u, rfl, had, hu, hc⟩ := ((hr.more hB).below hb).at_ hlt
      have hblk : (ad.add j).block < wr.heap.size := by rw [block_of_add]; have := hb.size; omega
      obtain ⟨s, hs, rfl⟩ := strs_at hu
      obtain rfl : markOf (k + j) = s := by rw [marks_at hlt] at hs; exact Option.some.inj hs
      clear hu hs
      have hb0 := Below.refl wr.heap.size wr
      go_wp2
      go_region_held3 (fun w' => w'.cell? (ad.add j) = some (.string (markOf (k + j))) ∧ Below wr.heap.size wr w') ((refine keep_cell hc hblk ?_; first | assumption | (apply Below.drew; assumption) | exact (Below.drew hb0).trans (by assumption)))
        ((go_at_call 37; refine (unhide H _).mono ?_; rintro e w' ⟨rfl, hb'⟩))
      go_wp2
      rename_i hS
      have hb3 := below_after hb hS.2
      clear hS
      go_roundw
      case rel => exact ⟨j + 1, by omega, by go_num, by go_num, hb3⟩
      case measure => simp [intOf]; omega
    · obtain rfl : n = j := by omega
      go_wp2
      go_ret
      exact ⟨rfl, hb⟩
end Go.Proofs.YtlepfeffbpoobaaDoor
