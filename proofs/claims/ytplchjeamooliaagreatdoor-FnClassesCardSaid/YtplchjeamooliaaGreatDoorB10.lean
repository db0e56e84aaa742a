/-
  Words and contracts that the laws lean on, bundled: ClassT, ClassR, Join, DrawC, DrawD, SplitM, SplitG, PPerm, ClassX.
-/
import Derived.Test.YtplchjeamooliaaGreatDoorB6
import Derived.Test.YtplchjeamooliaaGreatDoorB3
import Derived.Test.YtplchjeamooliaaGreatDoorB9
import Derived.Test.YtplchjeamooliaaGreatDoorB7
import Derived.Test.YtplchjeamooliaaGreatDoorB2
import Derived.Test.YtplchjeamooliaaGreatDoorB1
import Derived.Test.YtplchjeamooliaaGreatDoorB5
import Derived.Deep.RegionHeld3
import Derived.Test.YtplchjeamooliaaGreatDoorB4
import Derived.Lib.Split
import Derived.Lib.SplitLaws
import Derived.Lib.IndexBytes
import Derived.Lib.Join

/-
  spec.BasisText by its contract.
-/

namespace Go.Proofs.YtplchjeamooliaaGreatDoor
set_option maxRecDepth 100000
open Go.RowKit

theorem strInfoC : (Tryz.prog.info? 9).map (fun i => (i.zero, i.size, i.bytes)) = some (some (.string ByteArray.empty), 1, 16) := by kernel_rfl
theorem jn_small {ss : List ByteArray} (h : ∀ s ∈ ss, s.size ≤ 8) : ∀ k, k ≤ ss.length → (jn ⟨#[32]⟩ ss k).length ≤ 9 * k
  | 0, _ => by simp [jn]
  | k + 1, hk => by
    have ih := jn_small h k (by omega)
    have hs : ss[k]? = some ss[k] := List.getElem?_eq_getElem (by omega)
    have h1 := h _ (List.mem_of_getElem? hs)
    rw [jn_length _ _ _ _ hs, List.length_append, List.length_append, size_list]
    have h2 : (if 0 < k then (⟨#[32]⟩ : ByteArray).data.toList else []).length ≤ 1 := by split <;> simp
    omega
theorem ptext_le (p : List Int) : (ptext p).size ≤ 8 := by
  cases h : isP p with
  | false => rw [ptext_no h]; simp
  | true =>
    by_cases h0 : p.length = 0
    · rw [ptext_nil h h0]; decide
    · rw [ptext_yes h h0]
      have := isP_le h
      show (textL p).toArray.size ≤ 8
      rw [List.size_toArray]
      have h1 : (textL p).length = p.length := by unfold textL; simp
      omega
def btext (L : List (List Int)) : ByteArray := if basis L then ⟨(jn ⟨#[32]⟩ (L.map ptext) L.length).toArray⟩ else ByteArray.empty
theorem btext_yes {L : List (List Int)} (h : basis L = true) : btext L = ⟨(jn ⟨#[32]⟩ (L.map ptext) L.length).toArray⟩ := by unfold btext; rw [if_pos h]
theorem btext_no {L : List (List Int)} (h : basis L = false) : btext L = ByteArray.empty := by unfold btext; rw [if_neg (by simp [h])]
theorem basis_nil : basis [] = true := by decide
set_option maxHeartbeats 1600000 in
theorem sbtx_any (A : Option Addr) (n c B : Nat) (zss : List (List Int)) (w : World) (hS : IntsS w B (.slice A n c) zss) (hn : n ≤ 1048576) (hsm : ∀ z ∈ zss, z.length ≤ 1048576 ∧ Small z) :
    Calls Tryz.prog 25 #[.slice A n c] w (GivesS w (btext zss)) := by
  obtain ⟨i0, hi, hz0, hz1, hz2⟩ := info_parts strInfoC
  have hl := hS.len
  have hst : (w.alloc (.cells #[] 9)).ownsRow w.heap.size 9 1 (.slice (some ⟨w.heap.size, 0, none⟩) 0 0) 0 [] := World.ownsRow_made (base := w.heap.size) (e := 9) (size := 1) w #[] 0 (Nat.le_refl _) (by simp [maxLen]) rfl
  have hbel := (Below.refl w.heap.size w).alloc (Nat.le_refl _) (.cells #[] 9)
  obtain ⟨b, hb⟩ : ∃ b, basis zss = b := ⟨_, rfl⟩
  have H1 := hide (fun (w' : World) (d : Below w.heap.size w w') => by have h := sbas_any A n c B zss w' (hS.below d) hn hsm; rw [hb] at h; exact h)
  have HJ := hide (fun (w' : World) (A' : Option Addr) (m c' : Nat) (ss : List ByteArray) (hr : Reads w' w'.heap.size A' m (ss.map Value.string)) (hm : m ≤ 8) (h8 : ∀ s ∈ ss, s.size ≤ 8) (hml : ss.length = m) => sjoin_any A' m c' w'.heap.size ss ⟨#[32]⟩ w' hr (Nat.le_refl _) (by omega) (fun k hk => Nat.le_trans (jn_small h8 k (by omega)) (by omega)))
  cases b with
  | false =>
    have hne : ¬ n = 0 := fun e => by
      have h0 : zss = [] := List.eq_nil_of_length_eq_zero (by omega)
      rw [h0, basis_nil] at hb
      cases hb
    rw [btext_no hb]
    clear hS hsm hb hl
    go_enter Tryz.func25, Tryz.ntmps25
    go_wp2
    go_loopw [3, 4] (fun ov i wr => ov = .slice (some ⟨w.heap.size, 0, none⟩) 0 0 ∧ i = .int .i64 0 ∧ wr = w.alloc (.cells #[] 9)) (fun _ _ _ => 0)
    case atStart => exact ⟨rfl, rfl, rfl⟩
    case round =>
      obtain ⟨rfl, rfl, rfl⟩ := hrel
      have hn0 : (0 : Int) < (n : Int) := by omega
      have H2 := hide (unhide H1 _ hbel)
      clear H1
      go_wp2_with fail
      refine (unhide H2).mono ?_
      rintro e w2 ⟨rfl, d2⟩
      have hb2 := below_after hbel d2
      have hr0 : Reads w2 w2.heap.size (some ⟨w.heap.size, 0, none⟩) 0 (([] : List ByteArray).map Value.string) := ⟨rfl, fun h => absurd h (by omega)⟩
      have H3 := hide (unhide HJ w2 (some ⟨w.heap.size, 0, none⟩) 0 0 [] hr0 (by omega) (fun s hs => by cases hs) rfl)
      clear H2 d2 hbel hst HJ
      go_wp2_with fail
      refine (unhide H3).mono ?_
      rintro e w3 ⟨rfl, d3⟩
      have hb3 := below_after hb2 d3
      clear H3 d3 hb2
      go_wp2
      go_ret
      exact ⟨rfl, hb3⟩
  | true =>
    have hn8 : n ≤ 8 := by have := basis_le hb; omega
    rw [btext_yes hb, hl]
    have HA := hide (⟨hS, fun z hz => (basis_isP hb z hz).1⟩ : IntsS w B (.slice A n c) zss ∧ ∀ z ∈ zss, isP z = true)
    have HL := hide hl
    obtain ⟨T, hT⟩ : ∃ T, T = zss.map ptext := ⟨_, rfl⟩
    rw [← hT]
    have HT := hide (fun (k : Nat) (z : List Int) (hz : zss[k]? = some z) => show T[k]? = some (ptext z) by rw [hT, List.getElem?_map, hz]; rfl)
    have HTL := hide (show T.length = n by rw [hT, List.length_map, hl])
    have HT8 := hide (show ∀ s ∈ T, s.size ≤ 8 from fun s hs => by
      rw [hT] at hs
      obtain ⟨z, _, rfl⟩ := List.mem_map.1 hs
      exact ptext_le z)
    clear hS hsm hb hl hT
    go_enter Tryz.func25, Tryz.ntmps25
    go_wp2
    go_loopw [3, 4] (fun ov i wr => ∃ j : Nat, j ≤ n ∧ i = .int .i64 j ∧ Below w.heap.size w wr ∧ wr.ownsRow w.heap.size 9 1 ov j ((T.take j).map Value.string)) (fun _ i _ => n - (intOf i).toNat)
    case atStart => exact ⟨0, Nat.zero_le _, rfl, hbel, by rw [List.take_zero]; exact hst⟩
    case round =>
      obtain ⟨j, hj, rfl, hb, ho⟩ := hrel
      clear hst hbel
      by_cases hlt : j < n
      · have H2 := hide (unhide H1 wr hb)
        have HB := hide hb
        have HO := hide ho
        clear hb ho
        go_wp2_with fail
        refine (unhide H2).mono ?_
        rintro e w2 ⟨rfl, d2⟩
        have hb2 := below_after (unhide HB) d2
        have ho2 := own_below (unhide HO) d2
        obtain ⟨ad, A6, c6, z, rfl, hz, hcell, hI⟩ := ((unhide HA).1.below hb2).at_ hlt
        have hzp := (unhide HA).2 z (List.mem_of_getElem? hz)
        have H4 := hide (stext_any A6 z.length c6 _ z w2 (hI.argP hzp))
        have hTz := unhide HT j z hz
        have HE := hide (show (T.take j).map Value.string ++ [.string (ptext z)] = (T.take (j + 1)).map Value.string by rw [List.take_add_one, hTz]; simp)
        obtain ⟨lz, hlz⟩ : ∃ l, l = z.length := ⟨_, rfl⟩
        rw [← hlz] at hcell H4
        have HB2 := hide hb2
        have HO2 := hide ho2
        clear H2 HB HO d2 hz hzp hI hTz hlz hb2 ho2
        go_wp2_with fail
        refine (unhide H4).mono ?_
        rintro e w3 ⟨rfl, d3⟩
        have hb3 := below_after (unhide HB2) d3
        have ho3 := own_below (unhide HO2) d3
        clear H4 HB2 HO2 d3 hcell
        go_wp2_with (first
          | (at_builtin; refine wpList_append_one rfl (.tmp 16) (.tmp 22) 47 rfl w.heap.size 9 i0 (.string ByteArray.empty) 16 Tryz.underlying47 hi hz0 hz1 hz2 rfl w w3 _ _ _ rfl ho3 (.string (ptext z)) rfl rfl rfl (by omega) (by simp only [maxLen]; omega) hb3 hb3.size ?_; intro v4 w4 hown4 hb4 hg4; clear hg4))
        rw [unhide HE] at hown4
        clear ho3 hb3 HE
        go_roundw
        case rel => exact ⟨j + 1, by omega, by go_num, hb4, hown4⟩
        case measure => simp [intOf]; omega
      · obtain rfl : n = j := by omega
        rw [List.take_of_length_le (by rw [unhide HTL]; exact Nat.le_refl _)] at ho
        obtain ⟨Ao, co, rfl, hro⟩ := Reads.of_own ho
        have H3 := hide (unhide HJ wr Ao n co T hro hn8 (unhide HT8) (unhide HTL))
        clear H1 HJ ho hro
        go_wp2_with fail
        refine (unhide H3).mono ?_
        rintro e w3 ⟨rfl, d3⟩
        have hb3 := below_after hb d3
        clear H3 d3 hb
        go_wp2
        go_ret
        exact ⟨rfl, hb3⟩
end Go.Proofs.YtplchjeamooliaaGreatDoor


/-
  PLAIN: how large the results of chapter 12 are. Nothing here speaks of the program.
-/

namespace Go.Proofs.YtplchjeamooliaaGreatDoor
set_option maxRecDepth 100000

theorem clsO_rows (L : List (List Int)) (m : Int) : (clsO L m).length ≤ 720 ∧ tot (clsO L m) ≤ 5760 ∧ ∀ z ∈ clsO L m, isP z = true := by
  unfold clsO
  split
  · rename_i h
    have hk : m.toNat ≤ 6 := by omega
    have h1 : (clsN L m.toNat).length ≤ 720 := Nat.le_trans (List.length_filter_le _ _) (permL_small _ hk).1
    have h2 : ∀ z ∈ clsN L m.toNat, isP z = true := fun z hz => (permL_mem _ hk z (List.mem_filter.1 hz).1).1
    exact ⟨h1, by have := tot_room 8 _ (fun z hz => isP_le (h2 z hz)); omega, h2⟩
  · simp [tot]
theorem buR_rows (L : List (List Int)) (m : Int) : (buR L m).length ≤ 4320 ∧ tot (buR L m) ≤ 34560 ∧ ∀ z ∈ buR L m, isP z = true := by
  unfold buR
  split
  · rename_i h
    have hk : m.toNat ≤ 6 := by omega
    have h1 : (buK L m.toNat).length ≤ 4320 := Nat.le_trans (buK_le L _ hk) (by omega)
    have h2 : ∀ z ∈ buK L m.toNat, isP z = true := fun z hz => ((buK_mem hk).1 hz).1
    exact ⟨h1, by have := tot_room 8 _ (fun z hz => isP_le (h2 z hz)); omega, h2⟩
  · simp [tot]
theorem cntsR_rows (L : List (List Int)) (m : Int) : (cntsR L m).length ≤ 7 ∧ ∀ x ∈ cntsR L m, 0 ≤ x ∧ x ≤ 720 := by
  refine ⟨cntsR_le L m, fun x hx => ?_⟩
  unfold cntsR at hx
  split at hx
  · rename_i h
    unfold cntsN at hx
    obtain ⟨j, hj, rfl⟩ := List.mem_map.1 hx
    have hj := List.mem_range.1 hj
    have h1 : (clsN L j).length ≤ 720 := Nat.le_trans (List.length_filter_le _ _) (permL_small _ (by omega)).1
    omega
  · cases hx
end Go.Proofs.YtplchjeamooliaaGreatDoor


/-
  spec.l4Fit, spec.l4Join, spec.SumOf, spec.SkewSumOf, by their contracts.
-/

namespace Go.Proofs.YtplchjeamooliaaGreatDoor
set_option maxRecDepth 100000
open Go.RowKit

def bitI (b : Bool) : Int := if b then 1 else 0
theorem bit_any (b : Bool) (w : World) : Calls Tryz.prog 51 #[.bool b] w fun e w' => e = .returned (.int .i64 (bitI b)) ∧ w' = w := by
  cases b with
  | true => exact bit_true w
  | false => exact bit_false w
theorem joinL_at1 {s : Bool} {p q : List Int} {k : Nat} {z : Int} (h : p[k]? = some z) : (joinL s p q)[k]? = some (z + bitI s * (q.length : Int)) := by
  have hk : k < p.length := (List.getElem?_eq_some_iff.1 h).1
  cases s with
  | true =>
    simp only [joinL, if_true, bitI]
    rw [List.getElem?_append_left (by simpa using hk), List.getElem?_map, h, Int.one_mul]; rfl
  | false =>
    simp only [joinL, bitI, Bool.false_eq_true, if_false]
    rw [List.getElem?_append_left hk, h, Int.zero_mul, Int.add_zero]
theorem joinL_at2 {s : Bool} {p q : List Int} {k : Nat} {z : Int} (h : q[k]? = some z) : (joinL s p q)[p.length + k]? = some (z + bitI (!s) * (p.length : Int)) := by
  cases s with
  | true =>
    simp only [joinL, if_true, bitI, Bool.not_true, Bool.false_eq_true, if_false]
    rw [List.getElem?_append_right (by simp), List.length_map, Nat.add_sub_cancel_left, h, Int.zero_mul, Int.add_zero]
  | false =>
    simp only [joinL, bitI, Bool.not_false, if_true, Bool.false_eq_true, if_false]
    rw [List.getElem?_append_right (by omega), Nat.add_sub_cancel_left, List.getElem?_map, h, Int.one_mul]; rfl
theorem bit_le (s : Bool) (n : Nat) : 0 ≤ bitI s * (n : Int) ∧ bitI s * (n : Int) ≤ n := by
  cases s
  · simp [bitI]
  · simp [bitI]

theorem keep_low {B : Nat} {wr w : World} {p : Addr} {v : Value} (h : wr.cell? p = some v) (hp : p.block < B) (hb : Below B wr w) : w.cell? p = some v ∧ Below B wr w := ⟨(hb.cell hp).trans h, hb⟩
end Go.Proofs.YtplchjeamooliaaGreatDoor


/-
  DRAWS OF CHAPTER 12 (given side), by their contracts.
-/

namespace Go.Proofs.YtplchjeamooliaaGreatDoor
set_option maxRecDepth 100000
open Go.RowKit

theorem lite_P {p : List Int} (h : isP p = true) : Lite 9 p := ⟨by have := isP_le h; omega, isP_small h⟩
theorem lite_rows {L : List (List Int)} (h : ∀ z ∈ L, Lite 9 z) : ∀ z ∈ L, z.length ≤ 1048576 ∧ Small z := fun z hz => ⟨Nat.le_trans (h z hz).1 (by omega), (h z hz).2⟩
/-- A list of rows that was drawn. -/
def DrawnSN (B cb : Nat) (w : World) (L : Nat) (e : Ending) (w' : World) : Prop :=
  ∃ A c zss, e = .returned (.slice A zss.length c) ∧ zss.length ≤ L ∧ (∀ z ∈ zss, Lite 9 z) ∧ IntsS w' w.heap.size (.slice A zss.length c) zss ∧ Cur w' B cb ∧ w.grownBy w' (some cb)
theorem DrawnSN.mk {B cb L : Nat} {w w' : World} {v : Value} {zss : List (List Int)} (hI : IntsS w' w.heap.size v zss) (hn : zss.length ≤ L) (hl : ∀ z ∈ zss, Lite 9 z) (h : Side B cb w w') : DrawnSN B cb w L (.returned v) w' := by
  obtain ⟨A, c, rfl⟩ := hI.slice
  exact ⟨A, c, zss, rfl, hn, hl, hI, h.cur, h.gr⟩
def DrewSS (w : World) (L : Nat) (e : Ending) (w' : World) : Prop :=
  ∃ A c zss, e = .returned (.slice A zss.length c) ∧ zss.length ≤ L ∧ (∀ z ∈ zss, Lite 9 z) ∧ IntsS w' w.heap.size (.slice A zss.length c) zss ∧ Below w.heap.size w w'
theorem DrewSS.mk {L : Nat} {w w' : World} {v : Value} {zss : List (List Int)} (hI : IntsS w' w.heap.size v zss) (hn : zss.length ≤ L) (hl : ∀ z ∈ zss, Lite 9 z) (h : Below w.heap.size w w') : DrewSS w L (.returned v) w' := by
  obtain ⟨A, c, rfl⟩ := hI.slice
  exact ⟨A, c, zss, rfl, hn, hl, hI, h⟩
/-- A list of rows and a number. -/
def DrewSI (w : World) (L : Nat) (e : Ending) (w' : World) : Prop :=
  ∃ A c zss x, e = .returned (.tuple #[.slice A zss.length c, .int .i64 x]) ∧ zss.length ≤ L ∧ (∀ z ∈ zss, Lite 9 z) ∧ -2 ≤ x ∧ x ≤ 7 ∧ IntsS w' w.heap.size (.slice A zss.length c) zss ∧ Below w.heap.size w w'
theorem DrewSI.mk {L : Nat} {w w' : World} {v : Value} {zss : List (List Int)} {x : Int} (hI : IntsS w' w.heap.size v zss) (hn : zss.length ≤ L) (hl : ∀ z ∈ zss, Lite 9 z) (h0 : -2 ≤ x) (h1 : x ≤ 7) (h : Below w.heap.size w w') : DrewSI w L (.returned (.tuple #[v, .int .i64 x])) w' := by
  obtain ⟨A, c, rfl⟩ := hI.slice
  exact ⟨A, c, zss, x, rfl, hn, hl, h0, h1, hI, h⟩
/-- A list of rows and a row. -/
def DrewSR (w : World) (L : Nat) (e : Ending) (w' : World) : Prop :=
  ∃ A c zss A' c' q, e = .returned (.tuple #[.slice A zss.length c, .slice A' q.length c']) ∧ zss.length ≤ L ∧ (∀ z ∈ zss, Lite 9 z) ∧ Lite 9 q ∧ IntsS w' w.heap.size (.slice A zss.length c) zss ∧ Ints w' w.heap.size (.slice A' q.length c') q ∧ Below w.heap.size w w'
theorem DrewSR.mk {L : Nat} {w w' : World} {v u : Value} {zss : List (List Int)} {q : List Int} (hI : IntsS w' w.heap.size v zss) (hJ : Ints w' w.heap.size u q) (hn : zss.length ≤ L) (hl : ∀ z ∈ zss, Lite 9 z) (hq : Lite 9 q) (h : Below w.heap.size w w') : DrewSR w L (.returned (.tuple #[v, u])) w' := by
  obtain ⟨A, c, rfl⟩ := hI.slice
  obtain ⟨A', c', rfl⟩ := hJ.slice
  exact ⟨A, c, zss, A', c', q, rfl, hn, hl, hq, hI, hJ, h⟩
theorem btext_le (L : List (List Int)) : (btext L).size ≤ 72 := by
  cases h : basis L with
  | false => rw [btext_no h]; decide
  | true =>
    rw [btext_yes h]
    have h8 := basis_le h
    have h1 := jn_small (ss := L.map ptext) (fun s hs => by obtain ⟨z, _, rfl⟩ := List.mem_map.1 hs; exact ptext_le z) L.length (by rw [List.length_map]; exact Nat.le_refl _)
    show (jn ⟨#[32]⟩ (L.map ptext) L.length).toArray.size ≤ 72
    rw [List.size_toArray]
    omega
set_option maxHeartbeats 1600000 in
theorem l12draw_any (B cb : Nat) (w : World) (hc : Cur w B cb) : Calls Tryz.prog 32 #[.pointer (some ⟨cb, 0, none⟩)] w (DrawnSN B cb w 8) := by
  have hI0 := IntsS.made0 w w.heap.size (Nat.le_refl _)
  have hb1 := (Below.refl w.heap.size w).alloc (Nat.le_refl _) (.cells #[] 27)
  have hal := (Below.refl (w.alloc (.cells #[] 27)).heap.size (w.alloc (.cells #[] 27))).alloc (Nat.le_refl _) (.cells ([0, 1, 1, 2, 2, 3].map (Value.int .i64)).toArray 3)
  have hI1 := hI0.below hal
  have hS1 := ((Side.start hc).below hb1).below hal
  have hne : (w.alloc (.cells #[] 27)).heap.size ≠ cb := by have := hc.lt; simp; omega
  have H1 := hide (pickInt_any B cb (w.alloc (.cells #[] 27)).heap.size 6 6 [0, 1, 1, 2, 2, 3] _ hS1.cur (Blk.new (w.alloc (.cells #[] 27)) _ _) hne rfl (by omega) (by omega))
  clear hal hc hb1 hI0
  simp only [List.map_cons, List.map_nil, World.size_alloc] at hS1 hI1 H1
  go_enter Tryz.func32, Tryz.ntmps32
  go_wp2_with fail
  refine (unhide H1).mono ?_
  rintro e w1 ⟨v, rfl, ⟨x, hx, rfl⟩, hc1, hg1⟩
  have hx3 : 0 ≤ x ∧ x ≤ 3 := by
    simp only [List.mem_cons, List.not_mem_nil, or_false] at hx
    omega
  obtain ⟨n, rfl⟩ : ∃ n : Nat, x = n := ⟨x.toNat, by omega⟩
  have hn3 : n ≤ 3 := by omega
  have hS2 := hS1.drawn hc1 hg1
  have hI2 := hI1.drawn hg1 hS1.lt
  clear H1 hS1 hI1 hc1 hg1 hx hx3 hne
  go_wp2
  go_loopw [3, 5] (fun v i wr => ∃ (k : Nat) (zss : List (List Int)), k ≤ n ∧ i = .int .i64 k ∧ zss.length = k ∧ IntsS wr w.heap.size v zss ∧ Hid (∀ z ∈ zss, Lite 9 z) ∧ Side B cb w wr) (fun _ i _ => n - (intOf i).toNat)
  case atStart => exact ⟨0, [], Nat.zero_le _, rfl, rfl, hI2, fun z hz => by simp at hz, hS2⟩
  case round =>
    obtain ⟨k, zss, hk, rfl, hzl, hI, hL, hS⟩ := hrel
    clear hI2 hS2
    by_cases hlt : k < n
    · have hal := (Below.refl wr.heap.size wr).alloc (Nat.le_refl _) (.cells ([2, 3, 3, 3, 4].map (Value.int .i64)).toArray 3)
      have hSa := hS.below hal
      have hIa := hI.below hal
      have hne : wr.heap.size ≠ cb := by have := hS.cur.lt; omega
      have H2 := hide (pickInt_any B cb wr.heap.size 5 5 [2, 3, 3, 3, 4] _ hSa.cur (Blk.new wr _ _) hne rfl (by omega) (by omega))
      have HZL := hide hzl
      clear hzl hal hI hS
      simp only [List.map_cons, List.map_nil] at hSa hIa H2
      go_wp2_with fail
      refine (unhide H2).mono ?_
      rintro e w2 ⟨v, rfl, ⟨y, hy, rfl⟩, hc2, hg2⟩
      have hy4 : 0 ≤ y ∧ y ≤ 4 := by
        simp only [List.mem_cons, List.not_mem_nil, or_false] at hy
        omega
      obtain ⟨m, rfl⟩ : ∃ m : Nat, y = m := ⟨y.toNat, by omega⟩
      have hS2 := hSa.drawn hc2 hg2
      have hI2 := hIa.drawn hg2 hSa.lt
      have H3 := hide (l2draw_any B cb m (by omega) w2 hc2)
      have hm4 : m ≤ 4 := by omega
      clear H2 hSa hIa hc2 hg2 hy hy4 hne
      go_wp2_with fail
      refine (unhide H3).mono ?_
      rintro e w3 ⟨A3, c3, zs, rfl, hl, hown, hc3, hg3⟩
      have hu := Ints.of_own hown
      have hF := hI2.fresh hg3 hS2.lt hu
      have hS3 := hS2.drawn hc3 hg3
      have hu3 := hu.low hS2.size
      have hlen : zss.length ≤ 1048576 := by have := unhide HZL; omega
      have hL2 := hide (show ∀ z ∈ zss ++ [zs], Lite 9 z from fun z hz => by
        rcases List.mem_append.1 hz with hz | hz
        · exact unhide hL z hz
        · rw [List.mem_singleton] at hz; subst hz; exact hl.more (by omega))
      have hsz := hS3.size
      clear H3 hl hown hu hI2 hS2 hc3 hg3 hL
      go_wp2_with (first
        | (at_builtin; refine wpList_push_fresh rfl (.tmp 17) (.tmp 23) rfl w.heap.size w3 _ _ zss zs rfl rfl rfl hF hu3 hlen hsz ?_))
      intro v4 w4 hI4 hb4
      have hS4 := hS3.low hb4
      have hlen4 : (zss ++ [zs]).length = k + 1 := by rw [List.length_append, unhide HZL]; rfl
      clear hF hu3 hS3 hb4
      go_wp2
      go_roundw
      case rel => exact ⟨k + 1, zss ++ [zs], by omega, by go_num, hlen4, hI4, hL2, hS4⟩
      case measure => simp [intOf]; omega
    · obtain rfl : n = k := by omega
      subst hzl
      obtain ⟨A3, c3, rfl⟩ := hI.slice
      have H4 := hide (smkb_any A3 zss.length c3 _ zss wr hI (by omega) (lite_rows (unhide hL)))
      have hR := hide (mkR_rows zss)
      clear hI hL
      go_wp2_with fail
      refine (unhide H4).mono ?_
      rintro e w5 ⟨A5, c5, rfl, o5, d5⟩
      have hI5 := hide (o5.low hS.size)
      have HS := hide (hS.below d5)
      clear H4 o5 hS d5
      go_wp2
      go_ret
      exact DrawnSN.mk (unhide hI5) (unhide hR).1 (fun z hz => lite_P ((unhide hR).2.2 z hz)) (unhide HS)
set_option maxHeartbeats 1600000 in
theorem l12bent_any (B cb : Nat) (w : World) (hc : Cur w B cb) : Calls Tryz.prog 46 #[.pointer (some ⟨cb, 0, none⟩)] w (DrawnSN B cb w 9) := by
  have hS0 := Side.start hc
  have H1 := hide (l12draw_any B cb w hc)
  clear hc
  go_enter Tryz.func46, Tryz.ntmps46
  go_wp2_with fail
  refine (unhide H1).mono ?_
  rintro e w1 ⟨A1, c1, zss, rfl, hn, hl, hI, hc1, hg1⟩
  have hS1 := hS0.drawn hc1 hg1
  have H2 := hide (once_any B cb 10 (by omega) w1 hc1)
  have HL := hide hl
  have hsz1 := hS1.size
  clear H1 hS0 hc1 hg1 hl
  go_wp2_with fail
  refine (unhide H2).mono ?_
  rintro e w2 ⟨v, rfl, ⟨b, rfl⟩, hc2, hg2⟩
  have hS2 := hS1.drawn hc2 hg2
  have hI2 := hI.drawn hg2 hS1.lt
  clear H2 hS1 hI hg2
  cases b with
  | false =>
    have HS := hide hS2
    clear hS2 hc2
    go_wp2
    go_ret
    exact DrawnSN.mk hI2 (by omega) (unhide HL) (unhide HS)
  | true =>
    have H3 := hide (l2bent_any B cb w2 hc2)
    clear hc2
    go_wp2_with fail
    refine (unhide H3).mono ?_
    rintro e w3 ⟨A3, c3, zs, rfl, hlz, hu, hc3, hg3⟩
    have hF := hI2.fresh hg3 hS2.lt hu
    have hS3 := hS2.drawn hc3 hg3
    have hu3 := hu.low hS2.size
    have hlen : zss.length ≤ 1048576 := by omega
    have hL2 := hide (show ∀ z ∈ zss ++ [zs], Lite 9 z from fun z hz => by
      rcases List.mem_append.1 hz with hz | hz
      · exact unhide HL z hz
      · rw [List.mem_singleton] at hz; subst hz; exact hlz)
    have hsz := hS3.size
    clear H3 hlz hu hI2 hS2 hc3 hg3
    go_wp2_with (first
      | (at_builtin; refine wpList_push_fresh rfl (.tmp 8) (.tmp 11) rfl w.heap.size w3 _ _ zss zs rfl rfl rfl hF hu3 hlen hsz ?_))
    intro v4 w4 hI4 hb4
    have HS := hide (hS3.low hb4)
    have hlen4 := hide (show (zss ++ [zs]).length ≤ 9 by rw [List.length_append]; simp; omega)
    clear hF hu3 hS3 hb4
    go_wp2
    go_ret
    exact DrawnSN.mk hI4 (unhide hlen4) (unhide hL2) (unhide HS)
set_option maxHeartbeats 800000 in
theorem l12case_any (A : Option Addr) (n c B : Nat) (bs : List UInt8) (w : World) (hr : Reads w B A n (u8s bs)) (hn : n ≤ 1048576) (hB : B ≤ w.heap.size) :
    Calls Tryz.prog 28 #[.slice A n c] w (DrewSI w 9) := by
  have H1 := hide (new_any A n c B bs w hr hn hB)
  clear hr
  go_enter Tryz.func28, Tryz.ntmps28
  go_wp2_with fail
  refine (unhide H1).mono ?_
  rintro e w1 ⟨cb, rfl, hcb, hc1, hb1⟩
  have hS0 := Side.start hc1
  have hsz1 := hb1.size
  have H2 := hide (l12bent_any B cb w1 hc1)
  clear H1 hc1
  go_wp2_with fail
  refine (unhide H2).mono ?_
  rintro e w2 ⟨A2, c2, zss, rfl, hzn, hl, hI, hc2, hg2⟩
  have hS2 := hS0.drawn hc2 hg2
  have HL := hide hl
  have hal := (Below.refl w2.heap.size w2).alloc (Nat.le_refl _) (.cells ([0, 1, 2, 3, 4, 5, 4, 5, 7, -1].map (Value.int .i64)).toArray 3)
  have hSa := hS2.below hal
  have hIa := hI.below hal
  have hne : w2.heap.size ≠ cb := by have := hc2.lt; omega
  have H3 := hide (pickInt_any B cb w2.heap.size 10 10 [0, 1, 2, 3, 4, 5, 4, 5, 7, -1] _ hSa.cur (Blk.new w2 _ _) hne rfl (by omega) (by omega))
  clear H2 hS0 hl hg2 hI hS2 hal hc2
  simp only [List.map_cons, List.map_nil] at hSa hIa H3
  go_wp2_with fail
  refine (unhide H3).mono ?_
  rintro e w3 ⟨v, rfl, ⟨y, hy, rfl⟩, hc3, hg3⟩
  have hy7 : -2 ≤ y ∧ y ≤ 7 := by
    simp only [List.mem_cons, List.not_mem_nil, or_false] at hy
    omega
  have hb3 := (hSa.drawn hc3 hg3).under hb1 hcb
  have hI3 := (hIa.drawn hg3 hSa.lt).low hsz1
  clear H3 hSa hIa hc3 hg3 hy
  go_wp2
  go_ret2
  exact DrewSI.mk hI3 hzn (unhide HL) hy7.1 hy7.2 hb3
set_option maxHeartbeats 800000 in
theorem dccn_any (A : Option Addr) (n c B : Nat) (bs : List UInt8) (w : World) (hr : Reads w B A n (u8s bs)) (hn : n ≤ 1048576) (hB : B ≤ w.heap.size) :
    Calls Tryz.prog 5 #[.slice A n c] w (DrewSI w 9) := by
  have H1 := hide (l12case_any A n c B bs w hr hn hB)
  clear hr
  go_enter Tryz.func5, Tryz.ntmps5
  go_wp2_with fail
  refine (unhide H1).mono ?_
  rintro e w1 ⟨A1, c1, zss, x, rfl, hn1, hl, h0, h1, hI, hb⟩
  have HL := hide hl
  clear H1 hl
  go_wp2
  go_ret2
  exact DrewSI.mk hI hn1 (unhide HL) h0 h1 hb
def parts5 : List ByteArray := [⟨#[32]⟩, ⟨#[49]⟩, ⟨#[50]⟩, ⟨#[51]⟩, ⟨#[45]⟩]
theorem parts5_short : ∀ t ∈ parts5, t.size ≤ 100 := by
  intro t ht
  simp only [parts5, List.mem_cons, List.not_mem_nil, or_false] at ht
  rcases ht with rfl | rfl | rfl | rfl | rfl <;> decide
set_option maxHeartbeats 800000 in
theorem dpb_any (A : Option Addr) (n c B : Nat) (bs : List UInt8) (w : World) (hr : Reads w B A n (u8s bs)) (hn : n ≤ 1048576) (hB : B ≤ w.heap.size) :
    Calls Tryz.prog 7 #[.slice A n c] w fun e w' => ∃ r : ByteArray, e = .returned (.string r) ∧ r.size ≤ 300 ∧ Below w.heap.size w w' := by
  have H1 := hide (new_any A n c B bs w hr hn hB)
  clear hr
  go_enter Tryz.func7, Tryz.ntmps7
  go_wp2_with fail
  refine (unhide H1).mono ?_
  rintro e w1 ⟨cb, rfl, hcb, hc1, hb1⟩
  have hS0 := Side.start hc1
  have H2 := hide (l12draw_any B cb w1 hc1)
  clear H1 hc1
  go_wp2_with fail
  refine (unhide H2).mono ?_
  rintro e w2 ⟨A2, c2, zss, rfl, hzn, hl, hI, hc2, hg2⟩
  have hS2 := hS0.drawn hc2 hg2
  have H3 := hide (sbtx_any A2 zss.length c2 _ zss w2 hI (by omega) (lite_rows hl))
  clear H2 hS0 hl hI hc2 hg2
  go_wp2_with fail
  refine (unhide H3).mono ?_
  rintro e w3 ⟨rfl, hb3⟩
  have hS3 := hS2.below hb3
  have hps := btext_le zss
  obtain ⟨s, hs⟩ : ∃ s, s = btext zss := ⟨_, rfl⟩
  rw [← hs] at hps ⊢
  have hal := (Below.refl w3.heap.size w3).alloc (Nat.le_refl _) (.cells (parts5.map Value.string).toArray 9)
  have hS4 := hS3.below hal
  have hlt := hS3.cur.lt
  have H4 := hide (turned_any B cb w3.heap.size 5 5 parts5 s _ hS4.cur (Blk.new w3 _ _) (by omega) rfl (by omega) (by omega) (by omega) parts5_short)
  clear H3 hs hb3 hal hS3 hS2
  simp only [parts5, List.map_cons, List.map_nil] at hS4 H4
  go_wp2_with fail
  refine (unhide H4).mono ?_
  rintro e w5 ⟨v, rfl, ⟨r, rfl, hz⟩, hc5, hg5⟩
  have hb5 := (hS4.drawn hc5 hg5).under hb1 hcb
  clear H4 hS4 hc5 hg5
  go_wp2
  go_ret
  exact ⟨r, rfl, hz, hb5⟩
set_option maxHeartbeats 800000 in
theorem dmkb_any (A : Option Addr) (n c B : Nat) (bs : List UInt8) (w : World) (hr : Reads w B A n (u8s bs)) (hn : n ≤ 1048576) (hB : B ≤ w.heap.size) :
    Calls Tryz.prog 10 #[.slice A n c] w (DrewSS w 4) := by
  have H1 := hide (new_any A n c B bs w hr hn hB)
  clear hr
  go_enter Tryz.func10, Tryz.ntmps10
  go_wp2_with fail
  refine (unhide H1).mono ?_
  rintro e w1 ⟨cb, rfl, hcb, hc1, hb1⟩
  have hS0 := Side.start hc1
  have hsz1 := hb1.size
  have H2 := hide (l3list_any B cb w1 hc1)
  clear H1 hc1
  go_wp2_with fail
  refine (unhide H2).mono ?_
  rintro e w2 ⟨A2, c2, zss, rfl, hzn, hl, hI, hc2, hg2⟩
  have hb2 := (hS0.drawn hc2 hg2).under hb1 hcb
  have HI := hide (hI.low hsz1)
  have HL := hide hl
  clear H2 hS0 hl hI hc2 hg2
  go_wp2
  go_ret
  exact DrewSS.mk (unhide HI) hzn (unhide HL) hb2
set_option maxHeartbeats 800000 in
theorem dinc_any (A : Option Addr) (n c B : Nat) (bs : List UInt8) (w : World) (hr : Reads w B A n (u8s bs)) (hn : n ≤ 1048576) (hB : B ≤ w.heap.size) :
    Calls Tryz.prog 13 #[.slice A n c] w (DrewSR w 9) := by
  have H1 := hide (new_any A n c B bs w hr hn hB)
  clear hr
  go_enter Tryz.func13, Tryz.ntmps13
  go_wp2_with fail
  refine (unhide H1).mono ?_
  rintro e w1 ⟨cb, rfl, hcb, hc1, hb1⟩
  have hS0 := Side.start hc1
  have hsz1 := hb1.size
  have H2 := hide (l12bent_any B cb w1 hc1)
  clear H1 hc1
  go_wp2_with fail
  refine (unhide H2).mono ?_
  rintro e w2 ⟨A2, c2, zss, rfl, hzn, hl, hI, hc2, hg2⟩
  have hS2 := hS0.drawn hc2 hg2
  have HL := hide hl
  have H3 := hide (l2bent_any B cb w2 hc2)
  clear H2 hS0 hl hg2
  go_wp2_with fail
  refine (unhide H3).mono ?_
  rintro e w3 ⟨A3, c3, q, rfl, hlq, hq, hc3, hg3⟩
  have hb3 := (hS2.drawn hc3 hg3).under hb1 hcb
  have hI3 := (hI.drawn hg3 hS2.lt).low hsz1
  have hq3 := hq.low (Nat.le_trans hsz1 hS2.size)
  have HQ := hide hlq
  clear H3 hS2 hI hq hc3 hg3 hlq hc2
  go_wp2
  go_ret2
  exact DrewSR.mk hI3 hq3 hzn (unhide HL) (unhide HQ) hb3
end Go.Proofs.YtplchjeamooliaaGreatDoor


/-
  spec.DrawBasisUpTo by its contract; words for a list taken out of another one that stands before it.
-/

namespace Go.Proofs.YtplchjeamooliaaGreatDoor
set_option maxRecDepth 100000
open Go.RowKit

set_option maxHeartbeats 1600000 in
theorem dbu_any (A : Option Addr) (n c B : Nat) (bs : List UInt8) (w : World) (hr : Reads w B A n (u8s bs)) (hn : n ≤ 1048576) (hB : B ≤ w.heap.size) :
    Calls Tryz.prog 14 #[.slice A n c] w (DrewSI w 3601) := by
  have H1 := hide (new_any A n c B bs w hr hn hB)
  clear hr
  go_enter Tryz.func14, Tryz.ntmps14
  go_wp2_with fail
  refine (unhide H1).mono ?_
  rintro e w1 ⟨cb, rfl, hcb, hc1, hb1⟩
  have hS1 := Side.start hc1
  have hsz1 := hb1.size
  have hlt1 := hc1.lt
  have H2 := hide (below_any B cb 5 (by omega) w1 hc1)
  clear H1 hc1
  go_wp2_with fail
  refine (unhide H2).mono ?_
  rintro e w2 ⟨v, rfl, ⟨x, rfl, hx0, hx1⟩, hc2, hg2⟩
  rw [if_pos (by omega)] at hx1
  obtain ⟨n4, rfl⟩ : ∃ n : Nat, x = n := ⟨x.toNat, by omega⟩
  have hn4 : n4 ≤ 4 := by omega
  have hS2 := hS1.drawn hc2 hg2
  have hal := (Below.refl w2.heap.size w2).alloc (Nat.le_refl _) (.cells #[] 27)
  have hS3 := hS2.below hal
  have hI3 := IntsS.made0 w2 w1.heap.size hS2.size
  have H3 := hide (l12draw_any B cb _ hS3.cur)
  have hv0 : ∀ g, (Value.slice (some ⟨w2.heap.size, 0, none⟩) 0 0).ownBlock = some g → g < (w2.alloc (.cells #[] 27)).heap.size := fun g hg => by
    simp [Value.ownBlock] at hg
    simp
    omega
  clear H2 hS1 hc2 hg2 hx0 hx1 hal hS2
  go_wp2_with fail
  refine (unhide H3).mono ?_
  rintro e w4 ⟨A4, c4, R, rfl, hRn, hRl, hIR, hc4, hg4⟩
  have hS4 := hS3.drawn hc4 hg4
  have hI4 := hI3.drawn hg4 hlt1
  have hA4 := hIR.away hv0 hI4
  have hR4 := hIR.low hS3.size
  have HRL := hide (lite_rows hRl)
  clear H3 hS3 hI3 hRl hIR hc4 hg4 hv0
  go_wp2
  go_loopw [6, 8] (fun v i wr => ∃ (k : Nat) (U : List (List Int)), k ≤ n4 + 1 ∧ i = .int .i64 k ∧ IntsS wr w1.heap.size v U ∧ IntsS wr w1.heap.size (.slice A4 R.length c4) R ∧ Away (.slice A4 R.length c4) v ∧ Hid (U.length ≤ 720 * k ∧ ∀ z ∈ U, Lite 9 z) ∧ Side B cb w1 wr) (fun _ i _ => n4 + 1 - (intOf i).toNat)
  case atStart => exact ⟨0, [], Nat.zero_le _, rfl, hI4, hR4, hA4, ⟨by simp, fun z hz => by cases hz⟩, hS4⟩
  case round =>
    obtain ⟨k, U, hk, rfl, hI, hR, hA, hU, hS⟩ := hrel
    clear hI4 hR4 hA4 hS4
    by_cases hlt : k < n4 + 1
    · have hlt' : (k : Int) ≤ (n4 : Int) := by omega
      have H5 := hide (sclo_any A4 R.length c4 _ R (k : Int) (by omega) wr hR (by omega) (unhide HRL))
      have hrows := clsO_rows R (k : Int)
      have hU' := unhide hU
      have HU2 := hide (show (U ++ clsO R (k : Int)).length ≤ 720 * (k + 1) ∧ ∀ z ∈ U ++ clsO R (k : Int), Lite 9 z from ⟨by rw [List.length_append]; omega, fun z hz => by
        rcases List.mem_append.1 hz with hz | hz
        · exact hU'.2 z hz
        · exact lite_P (hrows.2.2 z hz)⟩)
      have hZn : (clsO R (k : Int)).length ≤ 1048576 := by omega
      have hUn : U.length ≤ 1048576 := by omega
      obtain ⟨Z, hZ⟩ : ∃ Z, Z = clsO R (k : Int) := ⟨_, rfl⟩
      rw [← hZ] at H5 HU2 hZn
      have hszk := hS.size
      clear hrows hU' hU hZ
      go_wp2_with fail
      refine (unhide H5).mono ?_
      rintro e w5 ⟨A5, c5, rfl, o5, d5⟩
      have hR5 := hR.below d5
      have hS5 := hS.below d5
      clear H5 hR hS
      go_wp2_with (first
        | (at_builtin; refine wpList_append_lists_at rfl (.tmp 21) (.tmp 24) rfl w1.heap.size w5 wr w5 _ A5 Z.length c5 U Z rfl rfl hI d5 o5 hUn hZn (Below.refl _ _) hszk ?_; intro v6 w6 hI6 hb6 hkeep hg6))
      obtain ⟨hR6, hA6⟩ := hkeep _ _ _ hR5 hA
      have hS6 := hS5.low hb6
      clear hI d5 o5 hR5 hA hS5 hkeep hg6 hb6 hUn hZn
      go_roundw
      case rel => exact ⟨k + 1, U ++ Z, by omega, by go_num, hI6, hR6, hA6, HU2, hS6⟩
      case measure => simp [intOf]; omega
    · obtain rfl : k = n4 + 1 := by omega
      have hlt' : ¬ ((n4 : Int) + 1 ≤ (n4 : Int)) := by omega
      have H6 := hide (once_any B cb 8 (by omega) wr hS.cur)
      have hU' := unhide hU
      have HU := hide hU'.2
      have hUl : U.length ≤ 3600 := by omega
      clear hR hA hU hU'
      go_wp2_with fail
      refine (unhide H6).mono ?_
      rintro e w7 ⟨v, rfl, ⟨b, rfl⟩, hc7, hg7⟩
      have hS7 := hS.drawn hc7 hg7
      have hI7 := hI.drawn hg7 hlt1
      clear H6 hS hI hg7
      cases b with
      | false =>
        have H8 := hide (once_any B cb 12 (by omega) w7 hc7)
        clear hc7
        go_wp2_with fail
        refine (unhide H8).mono ?_
        rintro e w8 ⟨v, rfl, ⟨b2, rfl⟩, hc8, hg8⟩
        have hb8 := (hS7.drawn hc8 hg8).under hb1 hcb
        have hI8 := (hI7.drawn hg8 hlt1).low hsz1
        clear H8 hS7 hI7 hc8 hg8
        go_wp2_with fail
        refine (bit_any _ _).mono ?_
        rintro e w9 ⟨rfl, rfl⟩
        obtain ⟨v1, hv1, hv10, hv11⟩ : ∃ v, bitI b2 = v ∧ 0 ≤ v ∧ v ≤ 1 := ⟨_, rfl, by cases b2 <;> decide, by cases b2 <;> decide⟩
        rw [hv1]
        clear hv1
        go_wp2
        go_ret2
        exact DrewSI.mk hI8 (by omega) (unhide HU) (by omega) (by omega) hb8
      | true =>
        have H7 := hide (l2bent_any B cb w7 hc7)
        clear hc7
        go_wp2_with fail
        refine (unhide H7).mono ?_
        rintro e w8 ⟨A8, c8, zs, rfl, hlz, hu, hc8, hg8⟩
        have hF := hI7.fresh hg8 hlt1 hu
        have hS8 := hS7.drawn hc8 hg8
        have hu8 := hu.low hS7.size
        have hlen : U.length ≤ 1048576 := by omega
        have HU2 := hide (show ∀ z ∈ U ++ [zs], Lite 9 z from fun z hz => by
          rcases List.mem_append.1 hz with hz | hz
          · exact unhide HU z hz
          · rw [List.mem_singleton] at hz; subst hz; exact hlz)
        have hsz := hS8.size
        clear H7 hlz hu hI7 hS7 hc8 hg8
        go_wp2_with (first
          | (at_builtin; refine wpList_push_fresh rfl (.tmp 28) (.tmp 31) rfl w1.heap.size w8 _ _ U zs rfl rfl rfl hF hu8 hlen hsz ?_))
        intro v9 w9 hI9 hb9
        have hS9 := hS8.low hb9
        have hlen9 : (U ++ [zs]).length ≤ 3601 := by rw [List.length_append]; simp; omega
        have H9 := hide (once_any B cb 12 (by omega) w9 hS9.cur)
        clear hF hu8 hS8 hb9
        go_wp2_with fail
        refine (unhide H9).mono ?_
        rintro e w10 ⟨v, rfl, ⟨b2, rfl⟩, hc10, hg10⟩
        have hb10 := (hS9.drawn hc10 hg10).under hb1 hcb
        have hI10 := (hI9.drawn hg10 hlt1).low hsz1
        clear H9 hS9 hI9 hc10 hg10
        go_wp2_with fail
        refine (bit_any _ _).mono ?_
        rintro e w11 ⟨rfl, rfl⟩
        obtain ⟨v1, hv1, hv10, hv11⟩ : ∃ v, bitI b2 = v ∧ 0 ≤ v ∧ v ≤ 1 := ⟨_, rfl, by cases b2 <;> decide, by cases b2 <;> decide⟩
        rw [hv1]
        clear hv1
        go_wp2
        go_ret2
        exact DrewSI.mk hI10 hlen9 (unhide HU2) (by omega) (by omega) hb10
/-- A new list behind the one that rows are taken from. -/
theorem Sib.late {w : World} {B n c : Nat} {A : Option Addr} {ov : Value} {Z : List (List Int)} (h : IntsS w B (.slice A n c) Z) (ho : w.ownsRow B 27 1 ov 0 []) (ha : Away (.slice A n c) ov) : ∃ vs, Sib w B B (.slice A n c) vs Z ov [] [] 0 := by
  obtain ⟨vs, h1, h2⟩ := h
  refine ⟨vs, h1, h2, ho, Inner.nil _ _, (fun x hx => by cases hx), fun x hx => ?_, ha⟩
  obtain ⟨z, hz⟩ := h2.mem hx
  exact hz.since
/-- Lists of rows that lie elsewhere stay where one row is taken over. -/
theorem wpList_sift_at {ops : Array Oper} {rest : List Oper} {o : Oper} {a : Act} {W : World} {Q : Exit → Act → World → Prop} (hgd : o.guard = none) (sl x : Operand)
    (ho : o.op = .call { callee := .builtin .append, args := #[sl, x], argTypes := #[24, 24] })
    (B C : Nat) (W0 wr : World) (lv v u : Value) (vs us : List Value) (Z U : List (List Int)) (k : Nat) (z : List Int) (hs : a.eval sl = v) (hx : a.eval x = .slice (some ⟨wr.heap.size, 0, none⟩) 1 1) (hW : W = wr.alloc (.cells #[u] 27))
    (h : Sib wr B C lv vs Z v us U k) (hu : vs[k]? = some u) (hz : Z[k]? = some z) (hn : U.length ≤ 1048576) (hb : Below B W0 wr) (hbase : B ≤ W0.heap.size)
    (K : ∀ v' w', Sib w' B C lv vs Z v' (us ++ [u]) (U ++ [z]) (k + 1) → Below B W0 w' → (∀ (B9 : Nat) (v9 : Value) (Z9 : List (List Int)), IntsS wr B9 v9 Z9 → Away v9 v → IntsS w' B9 v9 Z9 ∧ Away v9 v') → wpList Tryz.prog ops Q rest (a.put o.dst v') w') : wpList Tryz.prog ops Q (o :: rest) a W := by
  obtain ⟨i0, hi, hz0, hz1, hz2⟩ := info_parts rowsInfo
  have hal := (Below.refl wr.heap.size wr).alloc (Nat.le_refl _) (.cells #[u] 27)
  have h0 := h.below hal
  have hBw : B ≤ wr.heap.size := Nat.le_trans hbase hb.size
  have hr := h.alli.row k u z hu hz
  obtain ⟨A1, c1, rfl⟩ := hr.slice
  subst hW
  refine wpList_append_own_at _ hgd sl x 24 ho B 27 i0 (.slice none 0 0) 1 24 Tryz.underlying24 hi hz0 hz1 hz2 rfl (by decide) v _ _ hs h0.out ⟨wr.heap.size, 0, none⟩ 1 1 [.slice A1 z.length c1] hx rfl ?_ ?_ (by unfold maxLen; omega) (by omega) (by simp; omega) ?_
  · intro j y hj
    match j, hj with
    | 0, hj => simp at hj; subst hj; simp [Addr.add]
  · intro y hy
    obtain rfl := List.mem_singleton.1 hy
    rfl
  · intro v' w' h1 h2 _ h4
    have hk := KeepI.of_grown h0.out h2
    have far : ∀ (B9 n9 : Nat) (e9 : TypeId) (v9 : Value) (xs9 : List Value), wr.ownsRow B9 e9 1 v9 n9 xs9 → Away v9 v → Away v9 v' := fun B9 n9 e9 v9 xs9 q1 a9 => by
      rcases h4 with h4 | h4
      · rcases a9 with a9 | a9
        · exact .inl a9
        · exact .inr (by rw [h4]; exact a9)
      · cases hl9 : v9.ownBlock with
        | none => exact .inl hl9
        | some g =>
          refine .inr ?_
          rw [hl9, h4]
          intro e
          have h5 := (q1.lt g hl9).2
          simp at e
          omega
    refine K v' w' ⟨h0.all.kept h2 h0.apart, h0.alli.keepI hk, by rw [List.length_append]; exact h1, ?_, ?_, h.since, ?_⟩ ?_ ?_
    · refine (h0.outi.keepI hk).push ((h0.alli.row k _ z hu hz).keepI hk) fun y hy => ?_
      rcases h.sub y hy with h6 | h6
      · obtain ⟨i, hik, hy2⟩ := mem_take_at h6
        exact pair_at h.alli.away hik hy2 hu
      · exact apart h6 (h.since _ (List.mem_of_getElem? hu)) (Nat.le_refl _)
    · intro y hy
      rcases List.mem_append.1 hy with hy | hy
      · rcases h.sub y hy with h6 | h6
        · rw [List.take_add_one]
          exact .inl (List.mem_append_left _ h6)
        · exact .inr h6
      · obtain rfl := List.mem_singleton.1 hy
        rw [List.take_add_one, hu]
        exact .inl (by simp)
    · exact far _ _ _ _ _ h.all h.apart
    · exact (hb.trans (hal.mono hBw)).grown h2 (by simp; omega) (fun g hg => (h.out.lt g hg).1)
    · rintro B9 v9 Z9 ⟨us9, q1, q2⟩ a9
      exact ⟨⟨us9, (own_below q1 hal).kept h2 a9, (q2.keepI (KeepI.of_below hal)).keepI hk⟩, far _ _ _ _ _ q1 a9⟩
end Go.Proofs.YtplchjeamooliaaGreatDoor


/-
  PLAIN: splitting a list at a byte, round for round and by the first place. Nothing here speaks of the program.
-/

namespace Go.Proofs.YtplchjeamooliaaGreatDoor
set_option maxRecDepth 100000

def splitL (c : UInt8) : List UInt8 → List (List UInt8)
  | [] => [[]]
  | x :: r => if x = c then [] :: splitL c r else match splitL c r with
    | h :: t => (x :: h) :: t
    | [] => [[x]]
theorem splitL_ne (c : UInt8) : ∀ l, splitL c l ≠ []
  | [] => by simp [splitL]
  | x :: r => by
    unfold splitL
    split
    · simp
    · split <;> simp
/-- pre ahead of the first piece. -/
def glue (pre : List UInt8) : List (List UInt8) → List (List UInt8)
  | h :: t => (pre ++ h) :: t
  | [] => [pre]
theorem glue_nil {ps : List (List UInt8)} (h : ps ≠ []) : glue [] ps = ps := by cases ps with
  | nil => exact absurd rfl h
  | cons a b => rfl
theorem split_hit (c : UInt8) (pre r : List UInt8) : glue pre (splitL c (c :: r)) = pre :: splitL c r := by
  rw [splitL, if_pos rfl]; simp [glue]
theorem split_miss {c x : UInt8} (h : x ≠ c) (pre r : List UInt8) : glue pre (splitL c (x :: r)) = glue (pre ++ [x]) (splitL c r) := by
  rw [splitL, if_neg h]
  cases hs : splitL c r with
  | nil => exact absurd hs (splitL_ne c r)
  | cons a b => simp [glue]
theorem splitL_no {c : UInt8} : ∀ {l : List UInt8}, c ∉ l → splitL c l = [l]
  | [], _ => rfl
  | x :: r, h => by
    rw [splitL, if_neg (fun e => h (by simp [e])), splitL_no (fun e => h (by simp [e]))]
theorem splitL_at {c : UInt8} : ∀ {a b : List UInt8}, c ∉ a → splitL c (a ++ c :: b) = a :: splitL c b
  | [], b, _ => by rw [List.nil_append, splitL, if_pos rfl]
  | x :: r, b, h => by
    rw [List.cons_append, splitL, if_neg (fun e => h (by simp [e])), splitL_at (fun e => h (by simp [e]))]

theorem splitK_eq (c : UInt8) : ∀ (k : Nat) (l : List UInt8), l.count c = k → Lib.splitK [c] 0 k l = splitL c l
  | 0, l, h => by
    rw [splitL_no (List.count_eq_zero.1 h)]; rfl
  | k + 1, l, h => by
    have hm : c ∈ l := List.count_pos_iff.1 (by omega)
    have hge := Lib.indexByte_ge l c
    have hne : Lib.indexByte l c ≠ -1 := fun e => by
      obtain ⟨i, hi, he⟩ := List.getElem_of_mem hm
      exact Lib.indexByte_none e i (by rw [List.getElem?_eq_getElem hi, he])
    obtain ⟨i, hi⟩ : ∃ i : Nat, Lib.indexByte l c = i := ⟨(Lib.indexByte l c).toNat, by omega⟩
    obtain ⟨h1, h2⟩ := Lib.indexByte_some hi
    obtain ⟨hil, hic⟩ := List.getElem?_eq_some_iff.1 h1
    have hno : c ∉ l.take i := fun hmem => by
      obtain ⟨j, hj, he⟩ := List.getElem_of_mem hmem
      rw [List.length_take] at hj
      rw [List.getElem_take] at he
      exact h2 j (by omega) (by rw [List.getElem?_eq_getElem (by omega), he])
    have hsplit : l = l.take i ++ c :: l.drop (i + 1) := by
      conv => lhs; rw [← List.take_append_drop i l, List.drop_eq_getElem_cons hil, hic]
    have hcount : (l.drop (i + 1)).count c = k := by
      have e := congrArg (List.count c) hsplit
      rw [List.count_append, List.count_cons_self, List.count_eq_zero.2 hno, h] at e
      omega
    have e1 : (Lib.index l [c] == -1) = false := by rw [Lib.index_one, beq_eq_false_iff_ne]; exact hne
    have e2 : (Lib.index l [c]).toNat = i := by rw [Lib.index_one, hi]; rfl
    rw [Lib.splitK, e1, e2]
    simp only [Bool.false_eq_true, if_false, Nat.add_zero, List.length_singleton]
    rw [splitK_eq c k _ hcount]
    conv => rhs; rw [hsplit, splitL_at hno]
theorem splitB_eq (s : ByteArray) (c : UInt8) : (Lib.splitB ⟨#[c]⟩ 0 (Lib.countB s ⟨#[c]⟩) s).map (·.data.toList) = splitL c s.data.toList := by
  rw [Lib.splitB_data]
  have h : Lib.countB s ⟨#[c]⟩ = s.data.toList.count c := Lib.count_one c s.data.toList
  rw [h]
  exact splitK_eq c _ _ rfl
theorem bytes_inj_list : ∀ {xs ys : List ByteArray}, xs.map (·.data.toList) = ys.map (·.data.toList) → xs = ys
  | [], [], _ => rfl
  | [], _ :: _, h => by cases h
  | _ :: _, [], h => by cases h
  | x :: xs, y :: ys, h => by
    simp only [List.map_cons, List.cons.injEq] at h
    rw [bytes_inj_list h.2]
    congr 1
    cases x; cases y
    simpa using h.1
/-- The pieces of s at c. -/
def pieces (s : ByteArray) (c : UInt8) : List ByteArray := (splitL c s.data.toList).map fun l => ⟨l.toArray⟩
theorem pieces_data (s : ByteArray) (c : UInt8) : (pieces s c).map (·.data.toList) = splitL c s.data.toList := by
  unfold pieces
  rw [List.map_map]
  exact (List.map_congr_left (fun l _ => by simp)).trans (List.map_id _)
theorem splitB_pieces (s : ByteArray) (c : UInt8) : Lib.splitB ⟨#[c]⟩ 0 (Lib.countB s ⟨#[c]⟩) s = pieces s c :=
  bytes_inj_list ((splitB_eq s c).trans (pieces_data s c).symm)
theorem pieces_length (s : ByteArray) (c : UInt8) : (pieces s c).length = Lib.countB s ⟨#[c]⟩ + 1 := by
  rw [← splitB_pieces]
  exact Lib.splitB_all ⟨#[c]⟩ (Nat.le_refl 1) 0 _ s rfl
theorem splitL_length (c : UInt8) : ∀ l, (splitL c l).length = l.count c + 1
  | [] => rfl
  | x :: r => by
    have ih := splitL_length c r
    unfold splitL
    by_cases h : x = c
    · rw [if_pos h, List.length_cons, ih, h, List.count_cons_self]
    · rw [if_neg h]
      rw [List.count_cons_of_ne h]
      cases hs : splitL c r with
      | nil => exact absurd hs (splitL_ne c r)
      | cons a b => rw [hs] at ih; simpa using ih
theorem pieces_le (s : ByteArray) (c : UInt8) : (pieces s c).length ≤ s.size + 1 := by
  have h1 : (pieces s c).length = (splitL c s.data.toList).length := by unfold pieces; rw [List.length_map]
  have h2 := List.count_le_length (a := c) (l := s.data.toList)
  have h3 : s.data.toList.length = s.size := by rw [Array.length_toList]; rfl
  rw [h1, splitL_length]
  omega

theorem split_parts (c : UInt8) : ∀ (l : List UInt8), ∀ p ∈ splitL c l, c ∉ p ∧ p.length ≤ l.length
  | [], p, h => by
    obtain rfl := List.mem_singleton.1 h
    exact ⟨by simp, by simp⟩
  | x :: r, p, h => by
    have ih := split_parts c r
    rw [splitL] at h
    by_cases hx : x = c
    · rw [if_pos hx] at h
      rcases List.mem_cons.1 h with rfl | h
      · exact ⟨by simp, by simp⟩
      · have := ih p h; exact ⟨this.1, by rw [List.length_cons]; omega⟩
    · rw [if_neg hx] at h
      cases hs : splitL c r with
      | nil => exact absurd hs (splitL_ne c r)
      | cons a b =>
        rw [hs] at h ih
        rcases List.mem_cons.1 h with rfl | h
        · have := ih a (by simp)
          refine ⟨fun hm => ?_, by rw [List.length_cons, List.length_cons]; omega⟩
          rcases List.mem_cons.1 hm with rfl | hm
          · exact hx rfl
          · exact this.1 hm
        · have := ih p (by simp [h]); exact ⟨this.1, by rw [List.length_cons]; omega⟩
theorem pieces_parts {s : ByteArray} {c : UInt8} {p : ByteArray} (h : p ∈ pieces s c) : (pieces p c).length = 1 ∧ p.size ≤ s.size := by
  unfold pieces at h
  obtain ⟨l, hl, rfl⟩ := List.mem_map.1 h
  have hp := split_parts c _ l hl
  have e : s.data.toList.length = s.size := by rw [Array.length_toList]; rfl
  refine ⟨?_, ?_⟩
  · unfold pieces
    rw [List.length_map]
    show (splitL c l).length = 1
    rw [splitL_no hp.1]; rfl
  · show l.toArray.size ≤ s.size
    rw [List.size_toArray]; omega
theorem join_split (c : UInt8) : ∀ l, Lib.join (splitL c l) [c] = l
  | [] => Lib.join_one _ _
  | x :: r => by
    have ih := join_split c r
    rw [splitL]
    by_cases hx : x = c
    · rw [if_pos hx, Lib.join_cons, List.nil_append]
      cases hs : splitL c r with
      | nil => exact absurd hs (splitL_ne c r)
      | cons a b =>
        rw [hs, Lib.join_cons] at ih
        simp only [Lib.joinTail, List.map_cons, List.flatten_cons] at ih ⊢
        rw [List.append_assoc, ih, hx]; rfl
    · rw [if_neg hx]
      cases hs : splitL c r with
      | nil => exact absurd hs (splitL_ne c r)
      | cons a b =>
        rw [hs, Lib.join_cons] at ih
        show Lib.join ((x :: a) :: b) [c] = x :: r
        rw [Lib.join_cons, List.cons_append, ih]
theorem join_pieces (s : ByteArray) (c : UInt8) : Lib.join ((pieces s c).map (·.data.toList)) [c] = s.data.toList := by rw [pieces_data]; exact join_split c _
end Go.Proofs.YtplchjeamooliaaGreatDoor


/-
  spec.SplitByte, by its contract: a new row that holds the pieces.
-/

namespace Go.Proofs.YtplchjeamooliaaGreatDoor
set_option maxRecDepth 100000
open Go.RowKit

/-- A new row that holds these strings. -/
def GivesStrs (w : World) (ss : List ByteArray) (e : Ending) (w' : World) : Prop :=
  ∃ v, e = .returned v ∧ w'.ownsRow w.heap.size 9 1 v ss.length (ss.map Value.string) ∧ Below w.heap.size w w'

/-- A byte's number as the byte. -/
def byteOf (b : Int) : UInt8 := UInt8.ofNat b.toNat

theorem strInfo' : (Tryz.prog.info? 9).map (fun i => (i.zero, i.size, i.bytes)) = some (some (.string ByteArray.empty), 1, 16) := by kernel_rfl

/-- Where the loop of spec.SplitByte stands: at place k, the last piece begun at 'fr', 'done' laid. -/
def At (s : ByteArray) (c : UInt8) (k fr : Nat) (done : List ByteArray) : Prop :=
  (k ≤ s.size ∧ done.map (·.data.toList) ++ glue ((s.data.toList.take k).drop fr) (splitL c (s.data.toList.drop k)) = splitL c s.data.toList) ∨ (k = s.size + 1 ∧ done.map (·.data.toList) = splitL c s.data.toList)

theorem take_drop_snoc {s : ByteArray} {k fr : Nat} (h : k < s.size) (hf : fr ≤ k) : (s.data.toList.take (k + 1)).drop fr = (s.data.toList.take k).drop fr ++ [s[k]] := by
  have e : s.data.toList.length = s.size := size_list' s
  have hk : s.data.toList[k]? = some s[k] := by rw [List.getElem?_eq_getElem (by omega)]; rfl
  rw [List.take_add_one, hk, Option.toList_some, List.drop_append_of_le_length (by rw [List.length_take]; omega)]
theorem drop_at_byte {s : ByteArray} {k : Nat} (h : k < s.size) : s.data.toList.drop k = s[k] :: s.data.toList.drop (k + 1) := by
  have e : s.data.toList.length = s.size := size_list' s
  rw [List.drop_eq_getElem_cons (by omega)]; rfl
theorem extract_list (s : ByteArray) (fr k : Nat) : (s.extract fr k).data.toList = (s.data.toList.take k).drop fr := by
  rw [ByteArray.data_extract, Array.toList_extract, List.extract_eq_take_drop, List.drop_take]
theorem At.start (s : ByteArray) (c : UInt8) : At s c 0 0 [] := .inl ⟨Nat.zero_le _, by simp only [List.take_zero, List.drop_nil, List.drop_zero, List.map_nil, List.nil_append]; exact glue_nil (splitL_ne c _)⟩
theorem At.hit {s : ByteArray} {c : UInt8} {k fr : Nat} {done : List ByteArray} (h : At s c k fr done) (hk : k < s.size) (he : s[k] = c) : At s c (k + 1) (k + 1) (done ++ [s.extract fr k]) := by
  rcases h with ⟨_, h⟩ | ⟨h, _⟩
  · refine .inl ⟨hk, ?_⟩
    rw [← h, drop_at_byte hk, he, split_hit, List.map_append, List.append_assoc, List.map_singleton, extract_list]
    rw [show (s.data.toList.take (k + 1)).drop (k + 1) = [] from List.drop_of_length_le (by rw [List.length_take]; omega), glue_nil (splitL_ne c _)]
    rfl
  · omega
theorem At.miss {s : ByteArray} {c : UInt8} {k fr : Nat} {done : List ByteArray} (h : At s c k fr done) (hk : k < s.size) (hf : fr ≤ k) (he : s[k] ≠ c) : At s c (k + 1) fr done := by
  rcases h with ⟨_, h⟩ | ⟨h, _⟩
  · refine .inl ⟨hk, ?_⟩
    rw [← h, drop_at_byte hk, split_miss he, take_drop_snoc hk hf]
  · omega
theorem At.last {s : ByteArray} {c : UInt8} {fr : Nat} {done : List ByteArray} (h : At s c s.size fr done) (fr' : Nat) : At s c (s.size + 1) fr' (done ++ [s.extract fr s.size]) := by
  have e : s.data.toList.length = s.size := size_list' s
  rcases h with ⟨_, h⟩ | ⟨h, _⟩
  · refine .inr ⟨rfl, ?_⟩
    have hd : s.data.toList.drop s.size = [] := List.drop_of_length_le (by omega)
    rw [← h, List.map_append, List.map_singleton, extract_list, hd]
    simp [splitL, glue]
  · omega
theorem At.done {s : ByteArray} {c : UInt8} {fr : Nat} {done : List ByteArray} (h : At s c (s.size + 1) fr done) : done = pieces s c := by
  rcases h with ⟨h, _⟩ | ⟨_, h⟩
  · omega
  · exact bytes_inj_list (h.trans (pieces_data s c).symm)

set_option maxRecDepth 100000 in
set_option maxHeartbeats 1600000 in
theorem ssplit_any (s : ByteArray) (hs : s.size ≤ 1048576) (b : Int) (hb0 : 0 ≤ b) (hb1 : b ≤ 255) (w : World) :
    Calls Tryz.prog 35 #[.string s, .int .u8 b] w (GivesStrs w (pieces s (byteOf b))) := by
  obtain ⟨i0, hi, hz0, hz1, hz2⟩ := info_parts strInfo'
  have hst := World.ownsRow_made (base := w.heap.size) (e := 9) (size := 1) w #[] 0 (Nat.le_refl _) (by simp [maxLen]) rfl
  have hbel := (Below.refl w.heap.size w).alloc (Nat.le_refl _) (.cells #[] 9)
  have hbyte : ∀ x : UInt8, ((x.toNat : Int) == b) = decide (x = byteOf b) := fun x => by
    have hx : x.toNat < 256 := x.toNat_lt
    rw [Bool.eq_iff_iff, beq_iff_eq, decide_eq_true_eq, ← UInt8.toNat_inj, byteOf, UInt8.toNat_ofNat']
    omega
  have HB := hide hbyte
  clear hbyte
  obtain ⟨c, hc⟩ : ∃ c, c = byteOf b := ⟨_, rfl⟩
  rw [← hc] at HB ⊢
  clear hc
  go_enter Tryz.func35, Tryz.ntmps35
  go_wp2
  go_loopw [5, 6, 7] (fun v f i wr => ∃ (k fr : Nat) (done : List ByteArray), k ≤ s.size + 1 ∧ (k ≤ s.size → fr ≤ k) ∧ done.length ≤ k ∧ i = .int .i64 k ∧ f = .int .i64 fr ∧ Below w.heap.size w wr ∧ wr.ownsRow w.heap.size 9 1 v done.length (done.map Value.string) ∧ Hid (At s c k fr done)) (fun _ _ i _ => s.size + 1 - (intOf i).toNat)
  case atStart => exact ⟨0, 0, [], by omega, fun _ => Nat.le_refl _, Nat.le_refl _, rfl, rfl, hbel, hst, At.start s c⟩
  case round =>
    obtain ⟨k, fr, done, hk, hf, hdl, rfl, rfl, hbw, hown, hat⟩ := hrel
    clear hst hbel
    by_cases hlt : k < s.size
    · have hfr : fr ≤ k := hf (by omega)
      by_cases he : s[k] = c
      · have he' : ((s[k].toNat : Int) == b) = true := by rw [unhide HB]; simp [he]
        have hnext := hide (At.hit (unhide hat) hlt he)
        have hkn : ((k : Int) == (s.size : Int)) = false := by rw [beq_eq_false_iff_ne]; omega
        clear hf he hat
        go_wp2_with (first
          | (at_builtin; refine wpList_append_one rfl (.tmp 26) (.tmp 31) 47 rfl w.heap.size 9 i0 (.string ByteArray.empty) 16 Tryz.underlying47 hi hz0 hz1 hz2 rfl w wr _ _ _ rfl hown (.string (s.extract fr k)) rfl rfl rfl (by omega) (by simp only [maxLen]; omega) hbw hbw.size ?_; intro v2 w2 hown2 hb2 hg2; clear hg2))
        have hl2 : (done ++ [s.extract fr k]).length = done.length + 1 := by simp
        have hown3 : w2.ownsRow w.heap.size 9 1 v2 (done ++ [s.extract fr k]).length ((done ++ [s.extract fr k]).map Value.string) := by
          rw [hl2, List.map_append]; exact hown2
        clear hown2 hown
        go_roundw
        case rel => exact ⟨k + 1, k + 1, _, by omega, fun _ => by omega, by rw [hl2]; omega, by go_num, by go_num, hb2, hown3, hnext⟩
        case measure => simp [intOf]; omega
      · have he' : ((s[k].toNat : Int) == b) = false := by rw [unhide HB]; simp [he]
        have hnext := hide (At.miss (unhide hat) hlt hfr he)
        have hkn : ((k : Int) == (s.size : Int)) = false := by rw [beq_eq_false_iff_ne]; omega
        clear hf he hat
        go_wp2
        go_roundw
        case rel => exact ⟨k + 1, fr, _, by omega, fun _ => by omega, by omega, by go_num, rfl, hbw, hown, hnext⟩
        case measure => simp [intOf]; omega
    · by_cases hend : k = s.size
      · subst hend
        have hfr : fr ≤ s.size := hf (Nat.le_refl _)
        have hnext := hide (At.last (unhide hat) (s.size + 1))
        clear hf hat
        go_wp2_with (first
          | (at_builtin; refine wpList_append_one rfl (.tmp 26) (.tmp 31) 47 rfl w.heap.size 9 i0 (.string ByteArray.empty) 16 Tryz.underlying47 hi hz0 hz1 hz2 rfl w wr _ _ _ rfl hown (.string (s.extract fr s.size)) rfl rfl rfl (by omega) (by simp only [maxLen]; omega) hbw hbw.size ?_; intro v2 w2 hown2 hb2 hg2; clear hg2))
        have hl2 : (done ++ [s.extract fr s.size]).length = done.length + 1 := by simp
        have hown3 : w2.ownsRow w.heap.size 9 1 v2 (done ++ [s.extract fr s.size]).length ((done ++ [s.extract fr s.size]).map Value.string) := by
          rw [hl2, List.map_append]; exact hown2
        clear hown2 hown
        go_roundw
        case rel => exact ⟨s.size + 1, s.size + 1, _, by omega, fun _ => by omega, by rw [hl2]; omega, by go_num, by go_num, hb2, hown3, hnext⟩
        case measure => simp [intOf]
      · obtain rfl : k = s.size + 1 := by omega
        obtain rfl := At.done (unhide hat)
        clear hf hat hlt hend
        go_wp2
        go_ret
        exact ⟨_, rfl, hown, hbw⟩
end Go.Proofs.YtplchjeamooliaaGreatDoor


/-
  spec.ParsePerm and impl.ParsePerm, by their contracts.
-/

namespace Go.Proofs.YtplchjeamooliaaGreatDoor
set_option maxRecDepth 100000
open Go.RowKit

theorem tnums_take {s : ByteArray} {k : Nat} (h : k < s.size) : (tnums s).take (k + 1) = (tnums s).take k ++ [(s[k].toNat : Int) - 48] := take_snoc_i (tnums_at h)
theorem own_capP {w : World} {base n c g : Nat} {xs : List Value} {e : TypeId} (h : w.ownsRow base e 1 (.slice (some ⟨g, 0, none⟩) n c) n xs) : n ≤ c := by
  rcases h.2 with ⟨h0, _⟩ | ⟨g', cap, cur, hv, _, _, hnc, _⟩
  · cases h0
  · injection hv with _ _ h3
    omega
theorem own_form {w : World} {base n : Nat} {v : Value} {xs : List Value} {e : TypeId} (h : w.ownsRow base e 1 v n xs) : ∃ A c, v = .slice A n c ∧ n ≤ c := by
  rcases h.2 with ⟨rfl, rfl⟩ | ⟨g, cap, cur, rfl, _, _, hnc, _⟩
  · exact ⟨none, 0, rfl, Nat.le_refl _⟩
  · exact ⟨_, _, rfl, hnc⟩

theorem not_dash {s : ByteArray} (h : s ≠ ⟨#[45]⟩) : (s.toList == [45]) = false := by
  rw [beq_eq_false_iff_ne]
  intro e
  rw [ByteArray.toList_eq] at e
  refine h (ByteArray.ext (Array.ext' ?_))
  exact e
theorem empty_list {s : ByteArray} (h : s.size = 0) : s.toList.isEmpty = true := by
  rw [ByteArray.toList_eq, List.isEmpty_iff_length_eq_zero, Array.length_toList]
  exact h
theorem nonempty_list {s : ByteArray} (h : ¬ s.size = 0) : s.toList.isEmpty = false := by
  rw [Bool.eq_false_iff]
  intro e
  rw [ByteArray.toList_eq, List.isEmpty_iff_length_eq_zero, Array.length_toList] at e
  exact h e

set_option maxHeartbeats 800000 in
theorem spp_any (s : ByteArray) (hs : s.size ≤ 1048576) (b : Bool) (hb : ppOK s = b) (w : World) :
    Calls Tryz.prog 36 #[.string s] w (GivesIB w (ppR s) b) := by
  obtain ⟨i0, hi, hz0, hz1, hz2⟩ := info_parts intInfo
  have hst := own0 w w.heap.size (Nat.le_refl _)
  have hst2 := Ints.made0 w w.heap.size (Nat.le_refl _)
  have hbel := (Below.refl w.heap.size w).alloc (Nat.le_refl _) (.cells #[] 3)
  by_cases hd : s = ⟨#[45]⟩
  · subst hd
    obtain rfl : b = true := hb.symm.trans ppOK_dash
    rw [ppR_dash]
    clear hb hs hst
    go_enter Tryz.func36, Tryz.ntmps36
    go_wp2
    go_ret2
    exact GivesIB.mk true hst2 hbel
  · have hd' := not_dash hd
    by_cases h0 : s.size = 0
    · have hno := ppOK_none hd h0
      obtain rfl : b = false := hb.symm.trans hno
      have HR := hide (ppR_no hd hno)
      have he := empty_list h0
      have HZ := hide h0
      clear hb hs hst hd hno h0
      have hz0 : s.size ≤ 0 := by rw [unhide HZ]; exact Nat.le_refl _
      go_enter Tryz.func36, Tryz.ntmps36
      go_wp2
      go_loopw [4, 5] (fun v i wr => i = .int .i64 0 ∧ wr = w.alloc (.cells #[] 3)) (fun _ _ _ => 0)
      case atStart => exact ⟨rfl, rfl⟩
      case round =>
        obtain ⟨rfl, rfl⟩ := hrel
        have hst3 := Ints.made0 (w.alloc (.cells #[] 3)) w.heap.size (by simp)
        rw [show (w.alloc (.cells #[] 3)).heap.size = w.heap.size + 1 by simp] at hst3
        have hbel2 := hbel.alloc hbel.size (.cells #[] 3)
        have hz : ¬ 0 < s.size := by omega
        go_wp2
        go_ret2
        exact GivesIB.mk false (by rw [unhide HR]; exact hst3) hbel2
    · have hp := ppOK_else hd (by omega)
      have he := nonempty_list h0
      have he2 : ¬ s.toList = [] := fun e => by rw [e] at he; cases he
      have hlen := tnums_length s
      have HB := hide (hp.symm.trans hb)
      have HY := hide (fun (h : ppOK s = true) => ppR_yes hd h)
      have HN := hide (fun (h : ppOK s = false) => ppR_no hd h)
      have HL := hide hlen
      have HO := hide hb
      clear hb hd hp hlen hst2
      go_enter Tryz.func36, Tryz.ntmps36
      go_wp2
      go_loopw [4, 5] (fun v i wr => ∃ k : Nat, k ≤ s.size ∧ i = .int .i64 k ∧ Below w.heap.size w wr ∧ wr.ownsRow w.heap.size 3 1 v k (i64s ((tnums s).take k))) (fun _ i _ => s.size - (intOf i).toNat)
      case atStart => exact ⟨0, Nat.zero_le _, rfl, hbel, hst⟩
      case round =>
        obtain ⟨k, hk, rfl, hbw, hown⟩ := hrel
        clear hst hbel
        by_cases hlt : k < s.size
        · have e : i64s ((tnums s).take k) ++ [.int .i64 ((s[k].toNat : Int) - 48)] = i64s ((tnums s).take (k + 1)) := by rw [tnums_take hlt]; unfold i64s; simp
          have HE := hide e
          have hby := s[k].toNat_lt
          clear e
          go_wp2_with (first
            | (at_builtin; refine wpList_append_one rfl (.tmp 16) (.tmp 22) 27 rfl w.heap.size 3 i0 (.int .i64 0) 8 Tryz.underlying27 hi hz0 hz1 hz2 rfl w wr _ _ _ rfl hown (.int .i64 ((s[k].toNat : Int) - 48)) rfl rfl rfl (by omega) (by simp only [maxLen]; omega) hbw hbw.size ?_; intro v2 w2 hown2 hb2 hg2; clear hg2))
          rw [unhide HE] at hown2
          clear hown hbw HE
          go_roundw
          case rel => exact ⟨k + 1, by omega, by go_num, hb2, hown2⟩
          case measure => simp [intOf]; omega
        · obtain rfl : k = s.size := by omega
          have e : (tnums s).take s.size = tnums s := List.take_of_length_le (by rw [unhide HL]; exact Nat.le_refl _)
          rw [e] at hown
          obtain ⟨A, c, rfl, hc⟩ := own_form hown
          have hI : Ints wr w.heap.size (.slice A s.size c) (tnums s) := Ints.of_own hown
          have H1 := hide (sisperm_any A s.size c _ (tnums s) b (unhide HB) wr hI.reads hs hc)
          clear hown e
          cases b with
          | true =>
            have HR := hide (unhide HY (unhide HO))
            go_wp2_with fail
            refine (unhide H1).mono ?_
            rintro e w2 ⟨rfl, hd⟩
            have hb2 := below_after hbw (hd.below _)
            have hI2 := hI.below (hd.below _)
            rw [← unhide HR] at hI2
            clear hd H1 hI
            go_wp2
            go_ret2
            exact GivesIB.mk true hI2 hb2
          | false =>
            have HR := hide (unhide HN (unhide HO))
            go_wp2_with fail
            refine (unhide H1).mono ?_
            rintro e w2 ⟨rfl, hd⟩
            have hb2 := below_after hbw (hd.below _)
            have hst3 := Ints.made0 w2 w.heap.size hb2.size
            have hbel2 := hb2.alloc hb2.size (.cells #[] 3)
            clear hd H1 hI
            go_wp2
            go_ret2
            exact GivesIB.mk false (by rw [unhide HR]; exact hst3) hbel2

set_option maxHeartbeats 800000 in
theorem ipp_any (s : ByteArray) (hs : s.size ≤ 1048576) (b : Bool) (hb : ppOK s = b) (w : World) :
    Calls Tryz.prog 34 #[.string s] w (GivesIB w (ppR s) b) := by
  obtain ⟨i0, hi, hz0, hz1, hz2⟩ := info_parts intInfo
  have hst2 := Ints.made0 w w.heap.size (Nat.le_refl _)
  have hbel := (Below.refl w.heap.size w).alloc (Nat.le_refl _) (.cells #[] 3)
  by_cases hd : s = ⟨#[45]⟩
  · subst hd
    obtain rfl : b = true := hb.symm.trans ppOK_dash
    rw [ppR_dash]
    clear hb hs
    go_enter Tryz.func34, Tryz.ntmps34
    go_wp2
    go_ret2
    exact GivesIB.mk true hst2 hbel
  · have hd' := not_dash hd
    by_cases h0 : s.size = 0
    · have hno := ppOK_none hd h0
      obtain rfl : b = false := hb.symm.trans hno
      rw [ppR_no hd hno]
      have he := empty_list h0
      clear hb hs hd hno h0 hst2
      go_enter Tryz.func34, Tryz.ntmps34
      go_wp2
      go_ret2
      exact GivesIB.mk (v := .slice none 0 0) false (Ints.nil _ _) (Below.refl _ _)
    · have hp := ppOK_else hd (by omega)
      have he := nonempty_list h0
      have he2 : ¬ s.toList = [] := fun e => by rw [e] at he; cases he
      have hlen := tnums_length s
      by_cases h8 : s.size ≤ 8
      · have h8b : decide ((8 : Int) < (s.size : Int)) = false := by simp; omega
        have HB := hide (hp.symm.trans hb)
        have HY := hide (fun (h : ppOK s = true) => ppR_yes hd h)
        have HN := hide (fun (h : ppOK s = false) => ppR_no hd h)
        have HL := hide hlen
        have HO := hide hb
        clear hb hd hp hlen hst2 hbel
        go_enter Tryz.func34, Tryz.ntmps34
        go_wp2_with (first
          | (at_make; refine wpList_make_full _ rfl (.tmp 17) (.tmp 17) 27 rfl w.heap.size 3 i0 (.int .i64 0) 1 Tryz.underlying27 hi hz0 hz1 _ _ _ _ s.size rfl rfl (by first | rfl | omega) (by first | rfl | omega) (by rw [hz2]; omega) (by unfold maxLen; omega) (Nat.le_refl _) ?_; intro w1 hown hg))
        have hb1 := (Below.refl w.heap.size w).grown hg (Nat.le_refl _) (by simp)
        clear hg
        go_loopw [5, 21] (fun _ i wr => ∃ (k : Nat) (xs : List Value), k ≤ s.size ∧ i = .int .i64 k ∧ Below w.heap.size w wr ∧ wr.ownsRow w.heap.size 3 1 (.slice (some ⟨w.heap.size, 0, none⟩) s.size s.size) s.size xs ∧ Hid (xs.take k = (i64s (tnums s)).take k)) (fun _ i _ => s.size - (intOf i).toNat)
        case atStart => exact ⟨0, _, Nat.zero_le _, rfl, hb1, hown, by exact rfl⟩
        case round =>
          obtain ⟨k, xs, hk, rfl, hb, hown', hx⟩ := hrel
          clear hown hb1
          have hlx : xs.length = s.size := by simpa using hown'.1
          by_cases hlt : k < s.size
          · obtain ⟨old, hold⟩ : ∃ old, wr.cell? ⟨w.heap.size, k, none⟩ = some old := ⟨_, by rw [hown'.cellAt k (by omega)]; exact List.getElem?_eq_getElem (by omega)⟩
            have hfz := hown'.frozenAt k
            have hst := hide (take_set_i (unhide hx) (i64_get (tnums_at hlt)) (by omega))
            have ho2 := (hown'.stored k (.int .i64 ((s[k].toNat : Int) - 48))).1
            have hb2 := below_set_i hb hown' k (.int .i64 ((s[k].toNat : Int) - 48))
            have hby := s[k].toNat_lt
            clear hx hlx hown' hb
            go_wp2
            go_roundw
            case rel => exact ⟨k + 1, _, by omega, by go_num, hb2, ho2, hst⟩
            case measure => simp [intOf]; omega
          · obtain rfl : k = s.size := by omega
            have : xs = i64s (tnums s) := by
              have h := unhide hx
              rwa [List.take_of_length_le (by omega), List.take_of_length_le (by rw [i64_length, unhide HL]; exact Nat.le_refl _)] at h
            subst this
            have hI : Ints wr w.heap.size (.slice (some ⟨w.heap.size, 0, none⟩) s.size s.size) (tnums s) := Ints.of_own hown'
            have hsm : Small (tnums s) := fun x hx => by
              have := tnums_small x hx
              omega
            have H4 := hide (iisperm_any _ s.size s.size _ (tnums s) b (unhide HB) wr hI.reads (Nat.le_refl _) (by omega) hsm)
            clear hx hlx hown' hsm
            cases b with
            | true =>
              have HR := hide (unhide HY (unhide HO))
              go_wp2_with fail
              refine (unhide H4).mono ?_
              rintro e w2 ⟨rfl, hb2⟩
              have hI2 := hI.below hb2
              rw [← unhide HR] at hI2
              clear H4
              go_wp2
              go_ret2
              exact GivesIB.mk true hI2 (below_after hb hb2)
            | false =>
              have HR := hide (unhide HN (unhide HO))
              go_wp2_with fail
              refine (unhide H4).mono ?_
              rintro e w2 ⟨rfl, hb2⟩
              clear H4
              go_wp2
              go_ret2
              exact GivesIB.mk (v := .slice none 0 0) false (by rw [unhide HR]; exact Ints.nil _ _) (below_after hb hb2)
      · have hno : ppOK s = false := by rw [hp]; exact isP_long (by omega)
        obtain rfl : b = false := hb.symm.trans hno
        rw [ppR_no hd hno]
        have h8b : decide ((8 : Int) < (s.size : Int)) = true := by simp; omega
        have h8' : 8 < s.size := by omega
        clear hb hd hp hlen hno hst2
        go_enter Tryz.func34, Tryz.ntmps34
        go_wp2
        go_ret2
        exact GivesIB.mk (v := .slice none 0 0) false (Ints.nil _ _) (Below.refl _ _)
end Go.Proofs.YtplchjeamooliaaGreatDoor


/-
  spec.ParseBasis, by its contract.
-/

namespace Go.Proofs.YtplchjeamooliaaGreatDoor
set_option maxRecDepth 100000
open Go.RowKit

theorem own_keepStr {w w' : World} {B n : Nat} {v : Value} {xs : List Value} (h : w.ownsRow B 9 1 v n xs) (hk : KeepI w w') : w'.ownsRow B 9 1 v n xs := by
  refine ⟨h.1, ?_⟩
  rcases h.2 with hn | ⟨g, cap, cur, rfl, hb, hgg, hr⟩
  · exact .inl hn
  · exact .inr ⟨g, cap, cur, rfl, hb, (hk.block g cur _ _ hgg (by decide)).trans hgg, hr⟩
/-- 'out = append(out, p)' of a new row, with what it keeps of other blocks. -/
theorem wpList_push_row_keep {ops : Array Oper} {rest : List Oper} {o : Oper} {a : Act} {W : World} {Q : Exit → Act → World → Prop} (hgd : o.guard = none) (sl x : Operand)
    (ho : o.op = .call { callee := .builtin .append, args := #[sl, x], argTypes := #[24, 24] })
    (base : Nat) (W0 w0 wr : World) (v u : Value) (zss : List (List Int)) (zs : List Int) (hs : a.eval sl = v) (hx : a.eval x = .slice (some ⟨wr.heap.size, 0, none⟩) 1 1) (hW : W = wr.alloc (.cells #[u] 27))
    (hS : IntsS w0 base v zss) (hb0 : Below w0.heap.size w0 wr) (hu : Ints wr w0.heap.size u zs) (hn : zss.length ≤ 1048576) (hb : Below base W0 wr) (hbase : base ≤ w0.heap.size)
    (K : ∀ v' w', IntsS w' base v' (zss ++ [zs]) → Below base W0 w' → KeepI wr w' → wpList Tryz.prog ops Q rest (a.put o.dst v') w') : wpList Tryz.prog ops Q (o :: rest) a W := by
  obtain ⟨i0, hi, hz0, hz1, hz2⟩ := info_parts rowsInfo
  obtain ⟨vs, hown, hin⟩ := hS
  have hown1 := own_below hown hb0
  have hal := (Below.refl wr.heap.size wr).alloc (Nat.le_refl _) (.cells #[u] 27)
  have hown2 := own_below hown1 hal
  obtain ⟨A1, c1, rfl⟩ := hu.slice
  subst hW
  refine wpList_append_own_at _ hgd sl x 24 ho base 27 i0 (.slice none 0 0) 1 24 Tryz.underlying24 hi hz0 hz1 hz2 rfl (by decide) v _ _ hs hown2 ⟨wr.heap.size, 0, none⟩ 1 1 [.slice A1 zs.length c1] hx rfl ?_ ?_ (by unfold maxLen; omega) (by omega) (by simp; have := hb0.size; omega) ?_
  · intro j u hj
    match j, hj with
    | 0, hj => simp at hj; subst hj; simp [Addr.add]
  · intro y hy
    obtain rfl := List.mem_singleton.1 hy
    rfl
  · intro v' w' h1 h2 _ h4
    have hk := (KeepI.of_below hal).trans (KeepI.of_grown hown2 h2)
    refine K v' w' ⟨vs ++ [.slice A1 zs.length c1], by rw [List.length_append]; exact h1, ?_⟩ ?_ hk
    · exact ((hin.keepI (KeepI.of_below hb0)).keepI hk).push ((hu.low hbase).keepI hk) (hin.away_new hu.since (Nat.le_refl _))
    · exact (hb.trans (hal.mono (Nat.le_trans hbase hb0.size))).grown h2 (by simp; have := hb0.size; omega) (fun k hk => (hown.lt k hk).1)

theorem ppR_smallX (s : ByteArray) : Small (ppR s) := fun z hz => by
  unfold ppR at hz
  split at hz
  · simp at hz
  · split at hz
    · have := tnums_small z hz; omega
    · simp at hz
/-- What ParseBasis gives. -/
def pbOK (s : ByteArray) : Bool := if s.size = 0 then true else (pieces s (byteOf 32)).all ppOK && basis ((pieces s (byteOf 32)).map ppR)
def pbR (s : ByteArray) : List (List Int) := if s.size = 0 then [] else if pbOK s then (pieces s (byteOf 32)).map ppR else []
theorem pbOK_none {s : ByteArray} (h : s.size = 0) : pbOK s = true := by unfold pbOK; rw [if_pos h]
theorem pbR_none {s : ByteArray} (h : s.size = 0) : pbR s = [] := by unfold pbR; rw [if_pos h]
theorem pb_no {s : ByteArray} {P : List ByteArray} (h : ¬ s.size = 0) (hP : P = pieces s (byteOf 32)) (hk : (P.all ppOK && basis (P.map ppR)) = false) : pbOK s = false ∧ pbR s = [] := by
  subst hP
  have e : pbOK s = false := by unfold pbOK; rw [if_neg h]; exact hk
  exact ⟨e, by unfold pbR; rw [if_neg h, e]; rfl⟩
theorem pb_yes {s : ByteArray} {P : List ByteArray} (h : ¬ s.size = 0) (hP : P = pieces s (byteOf 32)) (hk : (P.all ppOK && basis (P.map ppR)) = true) : pbOK s = true ∧ pbR s = P.map ppR := by
  subst hP
  have e : pbOK s = true := by unfold pbOK; rw [if_neg h]; exact hk
  exact ⟨e, by unfold pbR; rw [if_neg h, e]; rfl⟩
theorem all_no {P : List ByteArray} {k : Nat} {p : ByteArray} (hp : P[k]? = some p) (h : ppOK p = false) : P.all ppOK = false := by
  rw [List.all_eq_false]
  exact ⟨p, List.mem_of_getElem? hp, by rw [h]; simp⟩
theorem all_take {P : List ByteArray} {k : Nat} {p : ByteArray} (hp : P[k]? = some p) (h : ppOK p = true) (hk : (P.take k).all ppOK = true) : (P.take (k + 1)).all ppOK = true := by
  rw [List.take_add_one, hp, Option.toList_some, List.all_append, hk]
  simp [h]
theorem map_takeX {P : List ByteArray} {k : Nat} {p : ByteArray} (hp : P[k]? = some p) : (P.take (k + 1)).map ppR = (P.take k).map ppR ++ [ppR p] := by
  rw [List.take_add_one, hp, Option.toList_some, List.map_append]; rfl
set_option maxHeartbeats 1600000 in
theorem spb_any (s : ByteArray) (hs : s.size ≤ 1048576) (w : World) :
    Calls Tryz.prog 9 #[.string s] w (GivesSSB w (pbR s) (pbOK s)) := by
  have hst := IntsS.made0 w w.heap.size (Nat.le_refl _)
  have hbel := (Below.refl w.heap.size w).alloc (Nat.le_refl _) (.cells #[] 27)
  by_cases h0 : s.size = 0
  · rw [pbR_none h0, pbOK_none h0]
    have he := empty_list h0
    clear hs h0
    go_enter Tryz.func9, Tryz.ntmps9
    go_wp2
    go_ret2
    exact GivesSSB.mk true hst hbel
  · have he := nonempty_list h0
    have H1 := hide (fun w' => ssplit_any s hs 32 (by omega) (by omega) w')
    have HP := hide (⟨pieces_le s (byteOf 32), fun p (hp : p ∈ pieces s (byteOf 32)) => (pieces_parts hp).2⟩ : (pieces s (byteOf 32)).length ≤ s.size + 1 ∧ ∀ p ∈ pieces s (byteOf 32), p.size ≤ s.size)
    obtain ⟨P, hP⟩ : ∃ P, P = pieces s (byteOf 32) := ⟨_, rfl⟩
    have HNO := hide (fun (h : (P.all ppOK && basis (P.map ppR)) = false) => pb_no h0 hP h)
    have HYES := hide (fun (h : (P.all ppOK && basis (P.map ppR)) = true) => pb_yes h0 hP h)
    rw [← hP] at H1 HP
    obtain ⟨N, hN⟩ : ∃ N, N = P.length := ⟨_, rfl⟩
    rw [← hN] at HP
    have hN1 : N ≤ 1048577 := by have := (unhide HP).1; omega
    have HN := hide hN
    have HZ := hide hs
    clear h0 hP hs
    go_enter Tryz.func9, Tryz.ntmps9
    go_wp2_with fail
    refine (unhide H1 _).mono ?_
    rintro e w2 ⟨v2, rfl, o2, d2⟩
    rw [← hN] at o2
    obtain ⟨A2, c2, rfl, _⟩ := Reads.of_own o2
    have hI2 := hst.below d2
    have hb2 := below_after hbel d2
    obtain ⟨B2, hB2⟩ : ∃ b, b = (w.alloc (.cells #[] 27)).heap.size := ⟨_, rfl⟩
    rw [← hB2] at o2
    clear H1 hst hbel d2 hN hB2
    go_wp2
    go_loopw [4, 6, 7, 8] (fun ov kv _ _ wr => ∃ k : Nat, k ≤ N ∧ kv = .int .i64 k ∧ Below w.heap.size w wr ∧ IntsS wr w.heap.size ov ((P.take k).map ppR) ∧ wr.ownsRow B2 9 1 (.slice A2 N c2) N (P.map Value.string) ∧ Hid ((P.take k).all ppOK = true)) (fun _ kv _ _ _ => N - (intOf kv).toNat)
    case atStart => exact ⟨0, Nat.zero_le _, rfl, hb2, hI2, o2, by exact (by simp : (P.take 0).all ppOK = true)⟩
    case round =>
      obtain ⟨k, hk, rfl, hb, hI, ho, hall⟩ := hrel
      clear hb2 hI2 o2
      by_cases hlt : k < N
      · obtain ⟨ad, u, rfl, _, hu, hc⟩ := (Reads.of_own_at ho).at_ hlt
        obtain ⟨p, hp, rfl⟩ := strs_at hu
        have hps : p.size ≤ 1048576 := by have h1 := (unhide HP).2 p (List.mem_of_getElem? hp); have h2 := unhide HZ; omega
        obtain ⟨b, hbb⟩ : ∃ b, ppOK p = b := ⟨_, rfl⟩
        have H3 := hide (spp_any p hps b hbb wr)
        have HPP := hide (⟨hp, hbb⟩ : P[k]? = some p ∧ ppOK p = b)
        have hml : ((P.take k).map ppR).length = k := by rw [List.length_map, List.length_take, ← unhide HN]; omega
        have hsz := hb.size
        clear hu hp hps hbb
        go_wp2_with fail
        refine (unhide H3).mono ?_
        rintro e w3 ⟨A3, c3, rfl, o3, d3⟩
        have hb3 := below_after hb d3
        clear H3
        cases b with
        | false =>
          obtain ⟨e1, e2⟩ := unhide HNO (by rw [all_no (unhide HPP).1 (unhide HPP).2]; rfl)
          have hst3 := IntsS.made0 w3 w.heap.size hb3.size
          have hbe3 := hb3.alloc hb3.size (.cells #[] 27)
          clear hI ho hb hml d3 o3 hc
          go_wp2
          go_ret2
          rw [e1, e2]; exact GivesSSB.mk false hst3 hbe3
        | true =>
          have ho3 := own_below ho d3
          have HA := hide (all_take (unhide HPP).1 (unhide HPP).2 (unhide hall))
          have HM := hide (map_takeX (unhide HPP).1)
          have hlen : ((P.take k).map ppR).length ≤ 1048576 := by rw [hml]; omega
          clear ho hc hml
          go_wp2_with (first
            | (at_builtin; refine wpList_push_row_keep rfl (.tmp 32) (.tmp 34) rfl w.heap.size w wr w3 _ _ ((P.take k).map ppR) (ppR p) rfl rfl rfl hI d3 o3 hlen hb3 hsz ?_; intro v4 w4 hI4 hb4 hk4))
          have ho4 := own_keepStr ho3 hk4
          rw [← unhide HM] at hI4
          clear hI hb ho3 hk4 hb3 o3 d3 hlen
          go_wp2
          go_roundw
          case rel => exact ⟨k + 1, by omega, by go_num, hb4, hI4, ho4, HA⟩
          case measure => simp [intOf]; omega
      · obtain rfl : k = N := by omega
        have ht : P.take k = P := List.take_of_length_le (by rw [← unhide HN]; exact Nat.le_refl _)
        rw [ht] at hI hall
        obtain ⟨Ao, co, rfl⟩ := hI.slice
        have hml : (P.map ppR).length = k := by rw [List.length_map, ← unhide HN]
        rw [hml] at hI ⊢
        obtain ⟨b, hbb⟩ : ∃ b, basis (P.map ppR) = b := ⟨_, rfl⟩
        have H5 := hide (by have h5 := sbas2_any Ao k co w.heap.size (P.map ppR) wr hI (by omega) (fun z hz => by obtain ⟨q, _, rfl⟩ := List.mem_map.1 hz; exact ⟨Nat.le_trans (ppR_le q) (by omega), ppR_smallX q⟩); rw [hbb] at h5; exact h5)
        have hE : (P.all ppOK && basis (P.map ppR)) = b := by rw [unhide hall, hbb]; rfl
        have HE := hide hE
        clear hml ht hE hbb ho
        go_wp2_with fail
        refine (unhide H5).mono ?_
        rintro e w6 ⟨rfl, d6⟩
        have hb6 := below_after hb d6
        have hI6 := hI.below d6
        clear H5 hI hb d6
        cases b with
        | false =>
          obtain ⟨e1, e2⟩ := unhide HNO (unhide HE)
          have hst3 := IntsS.made0 w6 w.heap.size hb6.size
          have hbe3 := hb6.alloc hb6.size (.cells #[] 27)
          go_wp2
          go_ret2
          rw [e1, e2]; exact GivesSSB.mk false hst3 hbe3
        | true =>
          obtain ⟨e1, e2⟩ := unhide HYES (unhide HE)
          go_wp2
          go_ret2
          rw [e1, e2]; exact GivesSSB.mk true hI6 hb6
end Go.Proofs.YtplchjeamooliaaGreatDoor
