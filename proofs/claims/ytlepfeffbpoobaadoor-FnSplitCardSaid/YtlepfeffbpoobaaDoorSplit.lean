/-
  impl.SplitByte and spec.SplitByte, by their contracts: a new row that holds the pieces.
-/
import Derived.Test.YtlepfeffbpoobaaDoorStrs
import Derived.Test.YtlepfeffbpoobaaDoorSplitM
import Derived.Test.YtlepfeffbpoobaaDoorFmt
import Derived.Test.YtlepfeffbpoobaaDoorShelfS
namespace Go.Proofs.YtlepfeffbpoobaaDoor
open Go.RowKit

/-- A new row that holds these strings. -/
def GivesStrs (w : World) (ss : List ByteArray) (e : Ending) (w' : World) : Prop :=
  ∃ v, e = .returned v ∧ w'.ownsRow w.heap.size 9 1 v ss.length (ss.map Value.string) ∧ Below w.heap.size w w'

/-- A byte's number as the byte. -/
def byteOf (b : Int) : UInt8 := UInt8.ofNat b.toNat

theorem isplit_any (s : ByteArray) (hs : s.size ≤ 1048576) (b : Int) (m : Int) (w : World) (hm : w.cell? ⟨3, 0, none⟩ = some (.int .i64 m)) :
    Calls Tryd.prog 18 #[.string s, .int .u8 b] w (GivesStrs w (pieces s (byteOf b))) := by
  have hcv := cv_one (P := Tryd.prog) Tryd.underlying22 Tryd.underlying5 Tryd.underlying9 w b
  have H := hide (Any.strings_Split { Tryd.laysM146 with } Tryd.laysM146.i9 s ⟨#[byteOf b]⟩ m (w.alloc (.cells #[.int .u8 b] 5)) (by omega) (by
    rw [World.cell?_alloc_lt]
    · exact hm
    · exact World.block_lt_of_cell? w _ hm) (Nat.le_refl 1))
  rw [splitB_pieces] at H
  clear hm
  go_enter Tryd.func18, Tryd.ntmps18
  go_wp2_with fail
  refine (unhide H).mono ?_
  rintro e w' ⟨rfl, rfl⟩
  clear H hcv
  go_wp2
  go_ret
  have hl := pieces_length s (byteOf b)
  refine ⟨_, rfl, ?_, ?_⟩
  · refine ⟨by simp, .inr ⟨w.heap.size + 1, Lib.countB s ⟨#[byteOf b]⟩ + 1, ((pieces s (byteOf b)).map Value.string).toArray, ?_, by omega, ?_, by omega, ?_, ?_, ?_⟩⟩
    · rw [hl]; simp
    · have h := heap_alloc_new (w.alloc (.cells #[.int .u8 b] 5)) (.cells ((pieces s (byteOf b)).map Value.string).toArray 9)
      rw [show w.heap.size + 1 = (w.alloc (.cells #[.int .u8 b] 5)).heap.size by simp]
      exact h
    · have := pieces_le s (byteOf b); unfold maxLen; omega
    · simp [hl]
    · rw [hl, Nat.mul_one]; exact List.take_of_length_le (by rw [List.length_map, hl]; exact Nat.le_refl _)
  · exact ((Below.refl _ _).alloc (Nat.le_refl _) _).alloc (by simp) _

theorem strInfo' : (Tryd.prog.info? 9).map (fun i => (i.zero, i.size, i.bytes)) = some (some (.string ByteArray.empty), 1, 16) := by kernel_rfl

/-- Where the loop of spec.SplitByte stands: at place k, the last piece begun at 'fr', 'done' laid. -/
def At (s : ByteArray) (c : UInt8) (k fr : Nat) (done : List ByteArray) : Prop :=
  (k ≤ s.size ∧ done.map (·.data.toList) ++ glue ((s.data.toList.take k).drop fr) (splitL c (s.data.toList.drop k)) = splitL c s.data.toList) ∨ (k = s.size + 1 ∧ done.map (·.data.toList) = splitL c s.data.toList)

theorem take_drop_snoc {s : ByteArray} {k fr : Nat} (h : k < s.size) (hf : fr ≤ k) : (s.data.toList.take (k + 1)).drop fr = (s.data.toList.take k).drop fr ++ [s[k]] := by
  have e : s.data.toList.length = s.size := size_list' s
  have hk : s.data.toList[k]? = some s[k] := by rw [List.getElem?_eq_getElem (by omega)]; rfl
  rw [List.take_add_one, hk, Option.toList_some, List.drop_append_of_le_length (by rw [List.length_take]; omega)]
theorem drop_at_byte {s : ByteArray} {k : Nat} (h : k < s.size) : s.data.toList.drop k = s[k] :: s.data.toList.drop (k + 1) := by
  have e : s.data.toList.length = s.size := size_list' s
  rw [List.drop_eq_getElem_cons (by omega)]; rfl
theorem extract_list (s : ByteArray) (fr k : Nat) : (s.extract fr k).data.toList = (s.data.toList.take k).drop fr := by
  rw [ByteArray.data_extract, Array.toList_extract, List.extract_eq_take_drop, List.drop_take]
theorem At.start (s : ByteArray) (c : UInt8) : At s c 0 0 [] := .inl ⟨Nat.zero_le _, by simp only [List.take_zero, List.drop_nil, List.drop_zero, List.map_nil, List.nil_append]; exact glue_nil (splitL_ne c _)⟩
theorem At.hit {s : ByteArray} {c : UInt8} {k fr : Nat} {done : List ByteArray} (h : At s c k fr done) (hk : k < s.size) (he : s[k] = c) : At s c (k + 1) (k + 1) (done ++ [s.extract fr k]) := by
  rcases h with ⟨_, h⟩ | ⟨h, _⟩
  · refine .inl ⟨hk, ?_⟩
    rw [← h, drop_at_byte hk, he, split_hit, List.map_append, List.append_assoc, List.map_singleton, extract_list]
    rw [show (s.data.toList.take (k + 1)).drop (k + 1) = [] from List.drop_of_length_le (by rw [List.length_take]; omega), glue_nil (splitL_ne c _)]
    rfl
  · omega
theorem At.miss {s : ByteArray} {c : UInt8} {k fr : Nat} {done : List ByteArray} (h : At s c k fr done) (hk : k < s.size) (hf : fr ≤ k) (he : s[k] ≠ c) : At s c (k + 1) fr done := by
  rcases h with ⟨_, h⟩ | ⟨h, _⟩
  · refine .inl ⟨hk, ?_⟩
    rw [← h, drop_at_byte hk, split_miss he, take_drop_snoc hk hf]
  · omega
theorem At.last {s : ByteArray} {c : UInt8} {fr : Nat} {done : List ByteArray} (h : At s c s.size fr done) (fr' : Nat) : At s c (s.size + 1) fr' (done ++ [s.extract fr s.size]) := by
  have e : s.data.toList.length = s.size := size_list' s
  rcases h with ⟨_, h⟩ | ⟨h, _⟩
  · refine .inr ⟨rfl, ?_⟩
    have hd : s.data.toList.drop s.size = [] := List.drop_of_length_le (by omega)
    rw [← h, List.map_append, List.map_singleton, extract_list, hd]
    simp [splitL, glue]
  · omega
theorem At.done {s : ByteArray} {c : UInt8} {fr : Nat} {done : List ByteArray} (h : At s c (s.size + 1) fr done) : done = pieces s c := by
  rcases h with ⟨h, _⟩ | ⟨_, h⟩
  · omega
  · exact bytes_inj_list (h.trans (pieces_data s c).symm)

set_option maxRecDepth 100000 in
set_option maxHeartbeats 1600000 in
theorem ssplit_any (s : ByteArray) (hs : s.size ≤ 1048576) (b : Int) (hb0 : 0 ≤ b) (hb1 : b ≤ 255) (w : World) :
    Calls Tryd.prog 20 #[.string s, .int .u8 b] w (GivesStrs w (pieces s (byteOf b))) := by
  obtain ⟨i0, hi, hz0, hz1, hz2⟩ := info_parts strInfo'
  have hst := World.ownsRow_made (base := w.heap.size) (e := 9) (size := 1) w #[] 0 (Nat.le_refl _) (by simp [maxLen]) rfl
  have hbel := (Below.refl w.heap.size w).alloc (Nat.le_refl _) (.cells #[] 9)
  have hbyte : ∀ x : UInt8, ((x.toNat : Int) == b) = decide (x = byteOf b) := fun x => by
    have hx : x.toNat < 256 := x.toNat_lt
    rw [Bool.eq_iff_iff, beq_iff_eq, decide_eq_true_eq, ← UInt8.toNat_inj, byteOf, UInt8.toNat_ofNat']
    omega
  have HB := hide hbyte
  clear hbyte
  obtain ⟨c, hc⟩ : ∃ c, c = byteOf b := ⟨_, rfl⟩
  rw [← hc] at HB ⊢
  clear hc
  go_enter Tryd.func20, Tryd.ntmps20
  go_wp2
  go_loopw [5, 6, 7] (fun v f i wr => ∃ (k fr : Nat) (done : List ByteArray), k ≤ s.size + 1 ∧ (k ≤ s.size → fr ≤ k) ∧ done.length ≤ k ∧ i = .int .i64 k ∧ f = .int .i64 fr ∧ Below w.heap.size w wr ∧ wr.ownsRow w.heap.size 9 1 v done.length (done.map Value.string) ∧ Hid (At s c k fr done)) (fun _ _ i _ => s.size + 1 - (intOf i).toNat)
  case atStart => exact ⟨0, 0, [], by omega, fun _ => Nat.le_refl _, Nat.le_refl _, rfl, rfl, hbel, hst, At.start s c⟩
  case round =>
    obtain ⟨k, fr, done, hk, hf, hdl, rfl, rfl, hbw, hown, hat⟩ := hrel
    clear hst hbel
    by_cases hlt : k < s.size
    · have hfr : fr ≤ k := hf (by omega)
      by_cases he : s[k] = c
      · have he' : ((s[k].toNat : Int) == b) = true := by rw [unhide HB]; simp [he]
        have hnext := hide (At.hit (unhide hat) hlt he)
        have hkn : ((k : Int) == (s.size : Int)) = false := by rw [beq_eq_false_iff_ne]; omega
        clear hf he hat
        go_wp2_with (first
          | (at_builtin; refine wpList_append_one rfl (.tmp 26) (.tmp 31) 31 rfl w.heap.size 9 i0 (.string ByteArray.empty) 16 Tryd.underlying31 hi hz0 hz1 hz2 rfl w wr _ _ _ rfl hown (.string (s.extract fr k)) rfl rfl rfl (by omega) (by simp only [maxLen]; omega) hbw hbw.size ?_; intro v2 w2 hown2 hb2 hg2; clear hg2))
        have hl2 : (done ++ [s.extract fr k]).length = done.length + 1 := by simp
        have hown3 : w2.ownsRow w.heap.size 9 1 v2 (done ++ [s.extract fr k]).length ((done ++ [s.extract fr k]).map Value.string) := by
          rw [hl2, List.map_append]; exact hown2
        clear hown2 hown
        go_roundw
        case rel => exact ⟨k + 1, k + 1, _, by omega, fun _ => by omega, by rw [hl2]; omega, by go_num, by go_num, hb2, hown3, hnext⟩
        case measure => simp [intOf]; omega
      · have he' : ((s[k].toNat : Int) == b) = false := by rw [unhide HB]; simp [he]
        have hnext := hide (At.miss (unhide hat) hlt hfr he)
        have hkn : ((k : Int) == (s.size : Int)) = false := by rw [beq_eq_false_iff_ne]; omega
        clear hf he hat
        go_wp2
        go_roundw
        case rel => exact ⟨k + 1, fr, _, by omega, fun _ => by omega, by omega, by go_num, rfl, hbw, hown, hnext⟩
        case measure => simp [intOf]; omega
    · by_cases hend : k = s.size
      · subst hend
        have hfr : fr ≤ s.size := hf (Nat.le_refl _)
        have hnext := hide (At.last (unhide hat) (s.size + 1))
        clear hf hat
        go_wp2_with (first
          | (at_builtin; refine wpList_append_one rfl (.tmp 26) (.tmp 31) 31 rfl w.heap.size 9 i0 (.string ByteArray.empty) 16 Tryd.underlying31 hi hz0 hz1 hz2 rfl w wr _ _ _ rfl hown (.string (s.extract fr s.size)) rfl rfl rfl (by omega) (by simp only [maxLen]; omega) hbw hbw.size ?_; intro v2 w2 hown2 hb2 hg2; clear hg2))
        have hl2 : (done ++ [s.extract fr s.size]).length = done.length + 1 := by simp
        have hown3 : w2.ownsRow w.heap.size 9 1 v2 (done ++ [s.extract fr s.size]).length ((done ++ [s.extract fr s.size]).map Value.string) := by
          rw [hl2, List.map_append]; exact hown2
        clear hown2 hown
        go_roundw
        case rel => exact ⟨s.size + 1, s.size + 1, _, by omega, fun _ => by omega, by rw [hl2]; omega, by go_num, by go_num, hb2, hown3, hnext⟩
        case measure => simp [intOf]
      · obtain rfl : k = s.size + 1 := by omega
        obtain rfl := At.done (unhide hat)
        clear hf hat hlt hend
        go_wp2
        go_ret
        exact ⟨_, rfl, hown, hbw⟩
end Go.Proofs.YtlepfeffbpoobaaDoor
