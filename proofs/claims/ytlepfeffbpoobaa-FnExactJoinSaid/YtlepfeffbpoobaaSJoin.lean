/-
  spec.Join, by its contract: the bytes of the elements, the separator between them.
-/
import Derived.Test.YtlepfeffbpoobaaStrs
import Derived.Lib.AppendStr
import Derived.Lib.UnsafeStr
import Derived.Lib.BufferRead
import Derived.Lib.Join
import Derived.Laws.IdiomStrings
namespace Go.Proofs.Ytlepfeffbpoobaa
open Go.RowKit

/-- The text behind k rounds. -/
def jn (sep : ByteArray) (ss : List ByteArray) : Nat → List UInt8
  | 0 => []
  | k + 1 => (jn sep ss k ++ (if 0 < k then sep.data.toList else [])) ++ (ss.getD k ByteArray.empty).data.toList

theorem join_snoc (sep x : List UInt8) (xs : List (List UInt8)) : Lib.join (xs ++ [x]) sep = (Lib.join xs sep ++ (if 0 < xs.length then sep else [])) ++ x := by
  cases xs with
  | nil => simp [Lib.join_nil, Lib.join_one]
  | cons y r => simp [Lib.join_cons, Lib.joinTail]

theorem jn_eq (sep : ByteArray) (ss : List ByteArray) : ∀ k, k ≤ ss.length → jn sep ss k = Lib.join ((ss.take k).map (·.data.toList)) sep.data.toList := by
  intro k
  induction k with
  | zero => intro _; simp [jn, Lib.join_nil]
  | succ k ih =>
    intro hk
    have hs : ss[k]? = some (ss.getD k ByteArray.empty) := by
      rw [List.getD_eq_getElem?_getD, List.getElem?_eq_getElem (by omega)]; rfl
    rw [jn, ih (by omega), List.take_add_one, hs]
    simp only [Option.toList_some, List.map_append, List.map_cons, List.map_nil, join_snoc]
    congr 3
    simp only [List.length_map, List.length_take, Nat.min_eq_left (show k ≤ ss.length by omega)]

theorem own_bytes_string {P : Program} {w : World} {base : Nat} {v : Value} {l : List UInt8} {src dst e : TypeId} (hs : P.underlying src = some (.slice e)) (he : P.underlying e = some (.int .u8)) (hd : P.underlying dst = some .string)
    (h : w.ownsRow base e 1 v l.length (Lib.byteCells l)) : (convert src dst v).run P w = .ok (.string ⟨l.toArray⟩) w := by
  rcases h.2 with ⟨rfl, h0⟩ | ⟨g, cap, cur, rfl, hb, hg, hnc, hcm, hsz, htake⟩
  · obtain rfl : l = [] := List.eq_nil_of_length_eq_zero h0
    exact Lib.run_convert_nil_bytes w src dst e 0 hs he hd
  · refine run_convert_bytes_back w src dst e _ cap l hs he hd fun j hj => ?_
    refine h.cells (g := g) rfl j _ ?_
    simp [Lib.byteCells, hj]

theorem byteInfo : (Try.prog.info? 5).map (fun i => (i.zero, i.size, i.bytes)) = some (some (.int .u8 0), 1, 1) := by kernel_rfl
theorem jn_length (sep : ByteArray) (ss : List ByteArray) (k : Nat) (s : ByteArray) (hs : ss[k]? = some s) : jn sep ss (k + 1) = (jn sep ss k ++ (if 0 < k then sep.data.toList else [])) ++ s.data.toList := by
  rw [jn, List.getD_eq_getElem?_getD, hs]; rfl
theorem size_list (s : ByteArray) : s.data.toList.length = s.size := by rw [Array.length_toList]; rfl

set_option maxHeartbeats 800000 in
theorem sjoin_any (A : Option Addr) (n c B : Nat) (ss : List ByteArray) (sep : ByteArray) (w : World) (hr : Reads w B A n (ss.map Value.string)) (hB : B ≤ w.heap.size) (hn : n ≤ 1099511627776)
    (hlen : ∀ k, k ≤ n → (jn sep ss k).length ≤ 4398046511104) :
    Calls Try.prog 5 #[.slice A n c, .string sep] w fun e w' => e = .returned (.string ⟨(jn sep ss n).toArray⟩) ∧ Below w.heap.size w w' := by
  obtain ⟨i0, hi, hz0, hz1, hz2⟩ := info_parts byteInfo
  have HL := hide hlen
  clear hlen
  have hst := World.ownsRow_made (base := w.heap.size) (e := 5) (size := 1) w #[] 0 (Nat.le_refl _) (by simp [maxLen]) rfl
  have hb1 : Below w.heap.size w (w.alloc (.cells #[] 5)) := (Below.refl _ _).alloc (Nat.le_refl _) _
  go_enter Try.func5, Try.ntmps5
  go_wp2
  go_loopw [5, 6] (fun v i wr => ∃ (k : Nat), k ≤ n ∧ i = .int .i64 k ∧ Below w.heap.size w wr ∧ wr.ownsRow w.heap.size 5 1 v (jn sep ss k).length (Lib.byteCells (jn sep ss k))) (fun _ i _ => n - (intOf i).toNat)
  case atStart => exact ⟨0, Nat.zero_le _, rfl, hb1, hst⟩
  case round =>
    obtain ⟨k, hk, rfl, hb, hown⟩ := hrel
    rename_i vv _ _
    clear hst hb1
    by_cases hlt : k < n
    · obtain ⟨ad, u, rfl, had, hu, hcw⟩ := (hr.more hB).at_ hlt
      obtain ⟨s, hs, rfl⟩ := strs_at hu
      have hblk : (ad.add k).block < w.heap.size := by rw [block_of_add]; exact had
      have HC := hide hcw
      clear hcw
      have hj := jn_length sep ss k s hs
      have h1 := unhide HL (k + 1) (by omega)
      have h2 := unhide HL k hk
      have hz := size_list s
      have hzs := size_list sep
      clear hu hs
      by_cases hk0 : 0 < k
      · rw [if_pos hk0] at hj
        have hjl : (jn sep ss (k + 1)).length = (jn sep ss k).length + sep.size + s.size := by rw [hj, List.length_append, List.length_append, hz, hzs]
        have HJ := hide hj
        have HJL := hide hjl
        have hb3 : (jn sep ss k).length + sep.size + s.size ≤ 4398046511104 := by omega
        clear hj hjl h1 hz hzs
        go_wp2_with (first
          | (at_builtin; refine Lib.wpList_append_own_string _ rfl (.tmp 16) (.tmp 17) 28 9 rfl w.heap.size 5 i0 Try.underlying28 Try.underlying9 hi hz0 hz1 hz2 _ _ _ rfl hown sep rfl (by simp only [maxLen]; omega) (by omega) hb.size ?_; intro v1 w1 hown1 hg1 hi1; clear hi1; have hb1 := hb.grown hg1 hb.size (fun g hg => (hown.lt g hg).1); have hc1 := (hb1.cell hblk).trans (unhide HC); have hsz1 := hb1.size)
          | (at_builtin; refine Lib.wpList_append_own_string _ rfl (.tmp 19) (.tmp 23) 28 9 rfl w.heap.size 5 i0 Try.underlying28 Try.underlying9 hi hz0 hz1 hz2 _ _ _ rfl hown1 s rfl (by simp only [maxLen]; omega) (by omega) hsz1 ?_; intro v2 w2 hown2 hg2 hi2; clear hi2))
        have hb2 := hb1.grown hg2 hsz1 (fun g hg => (hown1.lt g hg).1)
        have hown3 : w2.ownsRow w.heap.size 5 1 v2 (jn sep ss (k + 1)).length (Lib.byteCells (jn sep ss (k + 1))) := by
          rw [unhide HJL, unhide HJ, Lib.byteCells_append, Lib.byteCells_append, ← Lib.strCells_eq, ← Lib.strCells_eq]
          exact hown2
        clear hown2 hg2 hown1 hg1 hb1 hc1
        go_roundw
        case rel => exact ⟨k + 1, by omega, by go_num, hb2, hown3⟩
        case measure => simp [intOf]; omega
      · rw [if_neg hk0] at hj
        have hjl : (jn sep ss (k + 1)).length = (jn sep ss k).length + s.size := by rw [hj, List.append_nil, List.length_append, hz]
        have HJ := hide hj
        have HJL := hide hjl
        have hb3 : (jn sep ss k).length + s.size ≤ 4398046511104 := by omega
        have hc1 := (hb.cell hblk).trans (unhide HC)
        clear hj hjl h1 hz hzs
        go_wp2_with (first
          | (at_builtin; refine Lib.wpList_append_own_string _ rfl (.tmp 19) (.tmp 23) 28 9 rfl w.heap.size 5 i0 Try.underlying28 Try.underlying9 hi hz0 hz1 hz2 _ _ _ rfl hown s rfl (by simp only [maxLen]; omega) (by omega) hb.size ?_; intro v2 w2 hown2 hg2 hi2; clear hi2))
        have hb2 := hb.grown hg2 hb.size (fun g hg => (hown.lt g hg).1)
        have hown3 : w2.ownsRow w.heap.size 5 1 v2 (jn sep ss (k + 1)).length (Lib.byteCells (jn sep ss (k + 1))) := by
          rw [unhide HJL, unhide HJ, List.append_nil, Lib.byteCells_append, ← Lib.strCells_eq]
          exact hown2
        clear hown2 hg2 hc1
        go_roundw
        case rel => exact ⟨k + 1, by omega, by go_num, hb2, hown3⟩
        case measure => simp [intOf]; omega
    · obtain rfl : n = k := by omega
      have hcv := own_bytes_string Try.underlying28 Try.underlying5 Try.underlying9 hown
      clear hown
      go_wp2
      go_ret
      exact ⟨rfl, hb⟩
end Go.Proofs.Ytlepfeffbpoobaa
