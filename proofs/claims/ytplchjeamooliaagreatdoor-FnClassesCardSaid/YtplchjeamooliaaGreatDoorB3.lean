/-
  Words and contracts that the laws lean on, bundled: IsPerm, PermT, FmtS, Text, PermB, SymM, PermP, SumM, SumL.
-/
import Derived.Test.YtplchjeamooliaaGreatDoorProg
import Derived.Test.YtplchjeamooliaaGreatDoorB2
import Derived.Deep.RegionHeld3
import Derived.Test.YtplchjeamooliaaGreatDoorB1
import Derived.Lib.ItoaNum
import Derived.Lib.ItoaLen
import Derived.Laws.IdiomStrings
import Derived.WalkSpells
import Derived.WalkLawsBesides
import Derived.Laws.BytesString

/-
  impl.IsPerm, by its contract.
-/

namespace Go.Proofs.YtplchjeamooliaaGreatDoor
set_option maxRecDepth 100000
open Go.RowKit

theorem sizeInt (w : World) : (sizeOf 3).run Tryz.prog w = .ok 1 w := by kernel_rfl
theorem permEq (w : World) (xs ys : List Int) (hx : xs.length = 8) (hy : ys.length = 8) : (Op.equalIn 10000 87 (.agg (arr xs)) (.agg (arr ys))).run Tryz.prog w = .ok (xs == ys) w :=
  run_equalIn_ints w 9998 87 3 8 Tryz.underlying87 Tryz.underlying3 sizeInt xs ys hx hy

theorem range_snoc {zs : List Int} {k : Nat} {z m : Int} (hz : zs[k]? = some z) (h1 : 1 ≤ z) (h2 : z ≤ m) (h : ∀ x ∈ zs.take k, 1 ≤ x ∧ x ≤ m) : ∀ x ∈ zs.take (k + 1), 1 ≤ x ∧ x ≤ m := by
  rw [take_snoc_i hz]
  intro x hx
  rcases List.mem_append.1 hx with hx | hx
  · exact h x hx
  · rw [List.mem_singleton] at hx
    subst hx
    exact ⟨h1, h2⟩

set_option maxHeartbeats 800000 in
theorem iisperm_any (A : Option Addr) (n c B : Nat) (zs : List Int) (b : Bool) (hb : isP zs = b) (w : World) (hr : Reads w B A n (i64s zs)) (hB : B ≤ w.heap.size) (hn : n ≤ 1048576) (hz : Small zs) :
    Calls Tryz.prog 54 #[.slice A n c] w fun e w' => e = .returned (.bool b) ∧ Below w.heap.size w w' := by
  have HB := hide hb
  clear hb
  have hl : zs.length = n := by have := hr.1; rwa [i64_length] at this
  by_cases h8 : n ≤ 8
  · have HL := hide hl
    clear hl
    have h8b : decide ((8 : Int) < (n : Int)) = false := by simp; omega
    go_enter Tryz.func54, Tryz.ntmps54
    go_wp2
    rw [zeros_asc]
    go_loopw [5, 11] (fun _ i wr => ∃ k : Nat, k ≤ n ∧ i = .int .i64 k ∧ Below w.heap.size w wr ∧ Whole wr w.heap.size 87 (arr (fnd (zs.take k))) ∧ Hid (∀ x ∈ zs.take k, 1 ≤ x ∧ x ≤ (n : Int))) (fun _ i _ => n - (intOf i).toNat)
    case atStart =>
      refine ⟨0, Nat.zero_le _, rfl, (Below.refl _ _).alloc (Nat.le_refl _) _, ?_, by exact (by simp : ∀ x ∈ zs.take 0, 1 ≤ x ∧ x ≤ (n : Int))⟩
      have h1 := Whole.new w 87 (arr (ascL 0))
      rw [ascL_zero] at h1 ⊢
      rw [List.take_zero, fnd_nil]
      exact h1
    case round =>
      obtain ⟨k, hk, rfl, hbw, hw0, hs⟩ := hrel
      by_cases hlt : k < n
      · obtain ⟨ad, u, rfl, had, hu, hcell⟩ := ((hr.more hB).below hbw).at_ hlt
        obtain ⟨z, hz, rfl⟩ := i64_at hu
        clear hu
        have hzs := ‹Small zs› z (List.mem_of_getElem? hz)
        obtain ⟨hzl, hzu⟩ := hzs
        have HZ := hide hz
        clear hz
        by_cases h1 : 1 ≤ z
        · by_cases h2 : z ≤ (n : Int)
          · have hz8 : z.toNat - 1 < 8 := by omega
            have h1' : ¬ z < 1 := by omega
            have h2' : ¬ (n : Int) < z := by omega
            obtain ⟨old, hold⟩ : ∃ old, wr.cell? ⟨w.heap.size, z.toNat - 1, none⟩ = some old := by
              rw [hw0.cell]
              exact ⟨_, Array.getElem?_eq_getElem (by rw [arr_size, fnd_length]; exact hz8)⟩
            have hfz := hw0.frozen (z.toNat - 1)
            have n0 := hw0.put (z.toNat - 1) (.int .i64 z)
            rw [arr_set, show z.toNat - 1 = (z - 1).toNat by omega, fnd_step h1 (by omega), ← take_snoc_i (unhide HZ), show (z - 1).toNat = z.toNat - 1 by omega] at n0
            have nb := hbw.setCell (p := ⟨w.heap.size, z.toNat - 1, none⟩) (Nat.le_refl _) (.int .i64 z)
            have hs' := hide (range_snoc (unhide HZ) h1 h2 (unhide hs))
            clear hw0 hbw hs
            go_wp2
            go_roundw
            case rel => exact ⟨k + 1, by omega, by go_num, nb, n0, hs'⟩
            case measure => simp [intOf]; omega
          · obtain rfl : b = false := (unhide HB).symm.trans (isP_no_range (unhide HZ) (by rw [unhide HL]; omega))
            have h1' : ¬ z < 1 := by omega
            have h2' : (n : Int) < z := by omega
            clear HB
            go_wp2
            go_ret
            exact ⟨rfl, hbw⟩
        · obtain rfl : b = false := (unhide HB).symm.trans (isP_no_range (unhide HZ) (by omega))
          have h1' : z < 1 := by omega
          clear HB
          go_wp2
          go_ret
          exact ⟨rfl, hbw⟩
      · obtain rfl : n = k := by omega
        have htk : zs.take n = zs := List.take_of_length_le (by rw [unhide HL]; exact Nat.le_refl _)
        rw [htk] at hw0 hs
        have heq := fun w => permEq w (fnd zs) (ascL n) (fnd_length _) (ascL_length _)
        have hfa := fnd_asc (l := zs) (by rw [unhide HL]; exact h8) (by rw [unhide HL]; exact unhide hs)
        rw [unhide HL] at hfa
        rw [hfa, unhide HB] at heq
        clear hfa htk hs HB HL h8b hk hlt hr
        obtain ⟨x0, x1, x2, x3, x4, x5, x6, x7, hx⟩ := list8 (fnd_length zs)
        rw [hx] at hw0 heq
        clear hx
        have k0 := hw0.cell 0
        have k1 := hw0.cell 1
        have k2 := hw0.cell 2
        have k3 := hw0.cell 3
        have k4 := hw0.cell 4
        have k5 := hw0.cell 5
        have k6 := hw0.cell 6
        have k7 := hw0.cell 7
        have hg := hw0.lt
        clear hw0
        have heq2 : ∀ w, (Op.equalIn 10000 87 (.agg #[.int .i64 x0, .int .i64 x1, .int .i64 x2, .int .i64 x3, .int .i64 x4, .int .i64 x5, .int .i64 x6, .int .i64 x7]) (.agg (arr (ascL n)))).run Tryz.prog w = .ok b w := heq
        clear heq
        simp only [arr, i64s, List.map_cons, List.map_nil] at k0 k1 k2 k3 k4 k5 k6 k7
        go_wp2
        go_region_held3 (fun w' => w'.cell? ⟨w.heap.size, 0, none⟩ = some (.int .i64 x0) ∧ w'.cell? ⟨w.heap.size, 1, none⟩ = some (.int .i64 x1) ∧ w'.cell? ⟨w.heap.size, 2, none⟩ = some (.int .i64 x2) ∧ w'.cell? ⟨w.heap.size, 3, none⟩ = some (.int .i64 x3) ∧
            w'.cell? ⟨w.heap.size, 4, none⟩ = some (.int .i64 x4) ∧ w'.cell? ⟨w.heap.size, 5, none⟩ = some (.int .i64 x5) ∧ w'.cell? ⟨w.heap.size, 6, none⟩ = some (.int .i64 x6) ∧ w'.cell? ⟨w.heap.size, 7, none⟩ = some (.int .i64 x7))
          (first
            | go_keep
            | exact ⟨(hb1.cell hg).trans k0, (hb1.cell hg).trans k1, (hb1.cell hg).trans k2, (hb1.cell hg).trans k3, (hb1.cell hg).trans k4, (hb1.cell hg).trans k5, (hb1.cell hg).trans k6, (hb1.cell hg).trans k7⟩)
          (first | (go_at_call 90; refine (asc_any n h8 _).mono ?_; rintro e w1 ⟨rfl, hb1⟩))
        go_wp2
        go_ret
        exact ⟨rfl, hbw.trans ((below_drew _ wr).trans (hb1.mono hbw.size))⟩
  · obtain rfl : b = false := (unhide HB).symm.trans (isP_long (by omega))
    clear HB hl
    have h8' : 8 < n := by omega
    go_enter Tryz.func54, Tryz.ntmps54
    go_wp2
    go_ret
    exact ⟨rfl, Below.refl _ _⟩
end Go.Proofs.YtplchjeamooliaaGreatDoor


/-
  PLAIN: a permutation's text, and back. Nothing here speaks of the program.
-/

namespace Go.Proofs.YtplchjeamooliaaGreatDoor
set_option maxRecDepth 100000

def dgt (z : Int) : UInt8 := UInt8.ofNat (48 + z.toNat)
def textL (l : List Int) : List UInt8 := l.map dgt
theorem textL_length (l : List Int) : (textL l).length = l.length := by simp [textL]
theorem textL_nil : textL [] = [] := rfl
theorem textL_step {l : List Int} {k : Nat} {z : Int} (h : l[k]? = some z) : textL (l.take (k + 1)) = textL (l.take k) ++ [dgt z] := by unfold textL; rw [take_snoc_i h, List.map_append, List.map_singleton]
theorem itoa_one {z : Int} (h0 : 1 ≤ z) (h1 : z ≤ 8) : Lib.itoa z = [dgt z] := by
  rw [Lib.itoa, if_neg (by omega)]
  exact Lib.decDigits_one (by omega)
/-- The text's numbers as integers. -/
def textI (l : List Int) : List Int := l.map (48 + ·)
theorem textI_length (l : List Int) : (textI l).length = l.length := by simp [textI]
theorem textI_at {l : List Int} {k : Nat} {z : Int} (h : l[k]? = some z) : (textI l)[k]? = some (48 + z) := by unfold textI; rw [List.getElem?_map, h]; rfl
theorem push_list : ∀ (ns : List Int) (s : ByteArray), (ns.foldl (fun r n => r.push (UInt8.ofNat n.toNat)) s) = ⟨s.data ++ (ns.map fun n => UInt8.ofNat n.toNat).toArray⟩
  | [], s => by simp
  | n :: ns, s => by
    rw [List.foldl_cons, push_list ns]
    simp [ByteArray.push]
theorem textI_bytes {l : List Int} (h : ∀ z ∈ l, 0 ≤ z) : (textI l).map (fun n => UInt8.ofNat n.toNat) = textL l := by
  unfold textI textL
  rw [List.map_map]
  refine List.map_congr_left fun z hz => ?_
  have := h z hz
  simp only [Function.comp, dgt]
  congr 1
  omega

def ptext (l : List Int) : ByteArray := if isP l then (if l = [] then ⟨#[45]⟩ else ⟨(textL l).toArray⟩) else ByteArray.empty
theorem ptext_no {l : List Int} (h : isP l = false) : ptext l = ByteArray.empty := by unfold ptext; rw [if_neg (by simp [h])]
theorem ptext_nil {l : List Int} (h : isP l = true) (h0 : l.length = 0) : ptext l = ⟨#[45]⟩ := by unfold ptext; rw [if_pos h, if_pos (List.eq_nil_of_length_eq_zero h0)]
theorem ptext_yes {l : List Int} (h : isP l = true) (h0 : l.length ≠ 0) : ptext l = ⟨(textL l).toArray⟩ := by
  unfold ptext
  rw [if_pos h, if_neg (fun e => h0 (by rw [e]; rfl))]

/-- A text's numbers. -/
def tnums (s : ByteArray) : List Int := s.data.toList.map fun b => (b.toNat : Int) - 48
theorem tnums_length (s : ByteArray) : (tnums s).length = s.size := by
  unfold tnums
  rw [List.length_map, Array.length_toList]; rfl
theorem tnums_at {s : ByteArray} {k : Nat} (h : k < s.size) : (tnums s)[k]? = some ((s[k].toNat : Int) - 48) := by
  have hl : s.data.toList.length = s.size := by rw [Array.length_toList]; rfl
  unfold tnums
  rw [List.getElem?_map, List.getElem?_eq_getElem (by omega)]
  rfl
theorem tnums_small {s : ByteArray} : ∀ z ∈ tnums s, -48 ≤ z ∧ z ≤ 207 := by
  intro z hz
  unfold tnums at hz
  obtain ⟨b, _, rfl⟩ := List.mem_map.1 hz
  have := b.toNat_lt
  omega
def ppOK (s : ByteArray) : Bool := decide (s = ⟨#[45]⟩) || (decide (0 < s.size) && isP (tnums s))
def ppR (s : ByteArray) : List Int := if s = ⟨#[45]⟩ then [] else if ppOK s then tnums s else []
theorem ppOK_dash : ppOK ⟨#[45]⟩ = true := by simp [ppOK]
theorem ppR_dash : ppR ⟨#[45]⟩ = [] := by simp [ppR]
theorem ppOK_else {s : ByteArray} (h : s ≠ ⟨#[45]⟩) (h0 : 0 < s.size) : ppOK s = isP (tnums s) := by simp [ppOK, h, h0]
theorem ppOK_none {s : ByteArray} (h : s ≠ ⟨#[45]⟩) (h0 : s.size = 0) : ppOK s = false := by simp [ppOK, h, h0]
theorem ppR_yes {s : ByteArray} (h : s ≠ ⟨#[45]⟩) (hk : ppOK s = true) : ppR s = tnums s := by unfold ppR; rw [if_neg h, if_pos hk]
theorem ppR_no {s : ByteArray} (h : s ≠ ⟨#[45]⟩) (hk : ppOK s = false) : ppR s = [] := by unfold ppR; rw [if_neg h, if_neg (by simp [hk])]
theorem ppR_le (s : ByteArray) : (ppR s).length ≤ 8 := by
  by_cases h : s = ⟨#[45]⟩
  · subst h; rw [ppR_dash]; simp
  · cases hk : ppOK s with
    | false => rw [ppR_no h hk]; simp
    | true =>
      rw [ppR_yes h hk]
      by_cases h0 : 0 < s.size
      · rw [ppOK_else h h0] at hk
        exact isP_le hk
      · rw [tnums_length]; omega
end Go.Proofs.YtplchjeamooliaaGreatDoor


/-
  spec.FormatInt, by its contract: the decimal numeral.
-/

namespace Go.Proofs.YtplchjeamooliaaGreatDoor
set_option maxRecDepth 100000
open Go.RowKit

/-- What is still to be written of m, ahead of l. -/
def decR (m : Nat) (l : List UInt8) : List UInt8 := if m = 0 then l else Lib.decDigits m ++ l
theorem decR_step {m : Nat} (h : m ≠ 0) (l : List UInt8) : decR m l = decR (m / 10) (UInt8.ofNat (48 + m % 10) :: l) := by
  unfold decR
  rw [if_neg h]
  by_cases h10 : m < 10
  · rw [if_pos (by omega), Lib.decDigits_one h10, Nat.mod_eq_of_lt h10]; rfl
  · rw [if_neg (by omega)]
    rw [Lib.decDigits, dif_neg h10, List.append_assoc]; rfl

theorem cv_one {P : Program} {src dst e : TypeId} (hs : P.underlying src = some (.slice e)) (he : P.underlying e = some (.int .u8)) (hd : P.underlying dst = some .string) (W : World) (x : Int) :
    (convert src dst (.slice (some ⟨W.heap.size, 0, none⟩) 1 1)).run P (W.alloc (.cells #[.int .u8 x] e)) = .ok (.string ⟨#[UInt8.ofNat x.toNat]⟩) (W.alloc (.cells #[.int .u8 x] e)) := by
  rw [run_convert_bytes_string _ src dst e _ 1 1 hs he hd]
  have h := run_bytesToString (P := P) (W.alloc (.cells #[.int .u8 x] e)) ⟨W.heap.size, 0, none⟩ 1 1 [x] (by rw [show (1 : Nat) = ([Value.int .u8 x] : List Value).length from rfl]; exact run_loadCells_list (P := P) _ _ [Value.int .u8 x] (fun j v hj => by
    match j, hj with
    | 0, hj => simp at hj; subst hj; simp [Addr.add]))
  exact h

theorem one_app {b b' : UInt8} (l : List UInt8) (h : b = b') : Value.string (⟨#[b]⟩ ++ ⟨l.toArray⟩) = .string ⟨(b' :: l).toArray⟩ := by
  subst h
  congr 1
theorem neg_rem {m : Int} (h : m ≤ 0) : m.tmod 10 = -((m.natAbs % 10 : Nat) : Int) := by
  obtain ⟨u, rfl⟩ : ∃ u : Nat, m = -(u : Int) := ⟨m.natAbs, by omega⟩
  rw [Int.neg_tmod, Int.natAbs_neg, Int.natAbs_natCast]; rfl
theorem neg_quo {m : Int} (h : m ≤ 0) : m.tdiv 10 = -((m.natAbs / 10 : Nat) : Int) := by
  obtain ⟨u, rfl⟩ : ∃ u : Nat, m = -(u : Int) := ⟨m.natAbs, by omega⟩
  rw [Int.neg_tdiv, Int.natAbs_neg, Int.natAbs_natCast]; rfl
theorem left_short {m n : Int} {l : List UInt8} (h0 : -9223372036854775808 ≤ n) (h1 : n ≤ 9223372036854775807) (h : decR m.natAbs l = Lib.decDigits n.natAbs) : l.length ≤ 21 := by
  have h2 := Lib.itoa_length_le n h0 h1
  have h3 : (Lib.decDigits n.natAbs).length ≤ (Lib.itoa n).length := by
    unfold Lib.itoa
    by_cases hn : n < 0
    · rw [if_pos hn]; simp
    · rw [if_neg hn, show n.natAbs = n.toNat from by omega]; exact Nat.le_refl _
  have h4 : l.length ≤ (decR m.natAbs l).length := by
    unfold decR
    split <;> simp
  rw [h] at h4
  omega

set_option maxRecDepth 100000 in
set_option maxHeartbeats 1600000 in
theorem sfmt_any (n : Int) (h0 : -9223372036854775808 ≤ n) (h1 : n ≤ 9223372036854775807) (w : World) :
    Calls Tryz.prog 98 #[.int .i64 n] w fun e w' => e = .returned (.string ⟨(Lib.itoa n).toArray⟩) ∧ Below w.heap.size w w' := by
  by_cases hz : n = 0
  · subst hz
    go_enter Tryz.func98, Tryz.ntmps98
    go_wp2
    go_ret
    exact ⟨ret_str (by rw [show Lib.itoa 0 = [48] from by rw [Lib.itoa, if_neg (by omega)]; exact Lib.decDigits_one (by omega)]), Below.refl _ _⟩
  · by_cases hneg : n < 0
    · go_enter Tryz.func98, Tryz.ntmps98
      go_wp2
      go_loopw [0, 4] (fun nv o wr => ∃ (m : Int) (l : List UInt8), nv = .int .i64 m ∧ o = .string ⟨l.toArray⟩ ∧ m ≤ 0 ∧ -9223372036854775808 ≤ m ∧ Below w.heap.size w wr ∧ Hid (decR m.natAbs l = Lib.decDigits n.natAbs)) (fun nv _ _ => (intOf nv).natAbs)
      case atStart => exact ⟨n, [], rfl, rfl, by omega, h0, Below.refl _ _, by unfold Hid decR; rw [if_neg (by omega), List.append_nil]⟩
      case round =>
        obtain ⟨m, l, rfl, rfl, hm0, hm1, hb, hd⟩ := hrel
        by_cases hmz : m = 0
        · subst hmz
          have hl := left_short h0 h1 (unhide hd)
          have HI := hide (show Lib.itoa n = 45 :: l by
            have h := unhide hd
            simp only [decR, Int.natAbs_zero, if_true] at h
            rw [Lib.itoa, if_pos hneg, ← h])
          clear hd h0 h1
          go_wp2
          go_ret
          exact ⟨by rw [unhide HI]; exact congrArg Ending.returned (one_app l rfl), hb⟩
        · have hR := neg_rem hm0
          have hA : -10 < m.tmod 10 := by omega
          have hB : m.tmod 10 ≤ 0 := by omega
          have hl := left_short h0 h1 (unhide hd)
          have HM := hide hR
          have HQ := hide (neg_quo hm0)
          have hq0 : m.tdiv 10 ≤ 0 := by rw [unhide HQ]; omega
          have hq1 : -9223372036854775808 ≤ m.tdiv 10 := by rw [unhide HQ]; omega
          have hst := hide (show decR (m.tdiv 10).natAbs (UInt8.ofNat (48 + m.natAbs % 10) :: l) = Lib.decDigits n.natAbs by
            rw [← unhide hd, decR_step (m := m.natAbs) (by omega) l, neg_quo hm0, Int.natAbs_neg, Int.natAbs_natCast])
          have hms := hide (show (m.tdiv 10).natAbs < m.natAbs by rw [neg_quo hm0]; omega)
          clear hR h0 h1
          have hcv := cv_one (P := Tryz.prog) Tryz.underlying22 Tryz.underlying5 Tryz.underlying9 wr
          go_wp2
          all_goals go_roundw
          case measure => exact unhide hms
          case measure => exact unhide hms
          case rel => exact ⟨_, _, rfl, one_app l (congrArg UInt8.ofNat (by have := unhide HM; omega)), hq0, hq1, hb.alloc hb.size _, hst⟩
          case rel => exact ⟨_, _, rfl, one_app l (congrArg UInt8.ofNat (by have := unhide HM; omega)), hq0, hq1, hb.alloc hb.size _, hst⟩
    · go_enter Tryz.func98, Tryz.ntmps98
      go_wp2
      go_loopw [0, 4] (fun nv o wr => ∃ (m : Int) (l : List UInt8), nv = .int .i64 m ∧ o = .string ⟨l.toArray⟩ ∧ 0 ≤ m ∧ m ≤ 9223372036854775807 ∧ Below w.heap.size w wr ∧ Hid (decR m.natAbs l = Lib.decDigits n.natAbs)) (fun nv _ _ => (intOf nv).natAbs)
      case atStart => exact ⟨n, [], rfl, rfl, by omega, h1, Below.refl _ _, by unfold Hid decR; rw [if_neg (by omega), List.append_nil]⟩
      case round =>
        obtain ⟨m, l, rfl, rfl, hm0, hm1, hb, hd⟩ := hrel
        by_cases hmz : m = 0
        · subst hmz
          have hl := left_short h0 h1 (unhide hd)
          have HI := hide (show Lib.itoa n = l by
            have h := unhide hd
            simp only [decR, Int.natAbs_zero, if_true] at h
            rw [Lib.itoa, if_neg (by omega), show n.toNat = n.natAbs from by omega, ← h])
          clear hd h0 h1
          go_wp2
          go_ret
          exact ⟨by rw [unhide HI]; rfl, hb⟩
        · have hA : 0 ≤ m % 10 := by omega
          have hB : m % 10 < 10 := by omega
          have hl := left_short h0 h1 (unhide hd)
          have HM := hide (show m % 10 = ((m.natAbs % 10 : Nat) : Int) by omega)
          have hq0 : 0 ≤ m / 10 := by omega
          have hq1 : m / 10 ≤ 9223372036854775807 := by omega
          have hst := hide (show decR (m / 10).natAbs (UInt8.ofNat (48 + m.natAbs % 10) :: l) = Lib.decDigits n.natAbs by
            rw [← unhide hd, decR_step (m := m.natAbs) (by omega) l]; congr 1; omega)
          have hms := hide (show (m / 10).natAbs < m.natAbs by omega)
          clear h0 h1
          have hcv := cv_one (P := Tryz.prog) Tryz.underlying22 Tryz.underlying5 Tryz.underlying9 wr
          go_wp2
          go_roundw
          case measure => exact unhide hms
          case rel => exact ⟨_, _, rfl, one_app l (congrArg UInt8.ofNat (by have := unhide HM; omega)), hq0, hq1, hb.alloc hb.size _, hst⟩

end Go.Proofs.YtplchjeamooliaaGreatDoor


/-
  spec.PermText and impl.PermText, by their contracts.
-/

namespace Go.Proofs.YtplchjeamooliaaGreatDoor
set_option maxRecDepth 100000
open Go.RowKit

theorem cat_list (a b : List UInt8) : (⟨a.toArray⟩ ++ ⟨b.toArray⟩ : ByteArray) = ⟨(a ++ b).toArray⟩ := by
  refine ByteArray.ext ?_
  simp
theorem fmt1_any (z : Int) (h0 : 1 ≤ z) (h1 : z ≤ 8) (w : World) :
    Calls Tryz.prog 98 #[.int .i64 z] w fun e w' => e = .returned (.string ⟨[dgt z].toArray⟩) ∧ Below w.heap.size w w' := by
  have h := sfmt_any z (by omega) (by omega) w
  rw [itoa_one h0 h1] at h
  exact h
theorem str_eq {a b : ByteArray} (h : a = b) : Value.string a = .string b := by rw [h]

set_option maxHeartbeats 800000 in
theorem stext_any (A : Option Addr) (n c B : Nat) (zs : List Int) (w : World) (h : Arg w B A n c zs) :
    Calls Tryz.prog 71 #[.slice A n c] w (GivesS w (ptext zs)) := by
  obtain ⟨bp, hp⟩ : ∃ b, isP zs = b := ⟨_, rfl⟩
  have H1 := hide (sisperm_any A n c B zs bp hp w h.reads h.le h.cap)
  have hl := h.len
  cases bp with
  | false =>
    rw [ptext_no hp]
    clear hp h hl
    go_enter Tryz.func71, Tryz.ntmps71
    go_wp2_with fail
    refine (unhide H1).mono ?_
    rintro e w1 ⟨rfl, hd⟩
    have hb := hd.below w.heap.size
    clear hd H1
    go_wp2
    go_ret
    exact ⟨rfl, hb⟩
  | true =>
    by_cases h0 : n = 0
    · subst h0
      rw [ptext_nil hp hl]
      clear hp h hl
      go_enter Tryz.func71, Tryz.ntmps71
      go_wp2_with fail
      refine (unhide H1).mono ?_
      rintro e w1 ⟨rfl, hd⟩
      have hb := hd.below w.heap.size
      clear hd H1
      go_wp2
      go_ret
      exact ⟨rfl, hb⟩
    · rw [ptext_yes hp (by omega)]
      have hr := h.reads
      have hB := h.under
      have hn8 : n ≤ 8 := by have := isP_le hp; omega
      have HP := hide (fun k z hz => isP_range hp (k := k) (z := z) hz)
      have HL := hide hl
      have h0' : ((n : Int) == 0) = false := by simp; omega
      clear hp h hl
      go_enter Tryz.func71, Tryz.ntmps71
      go_wp2_with fail
      refine (unhide H1).mono ?_
      rintro e w1 ⟨rfl, hd⟩
      have hb1 := hd.below w.heap.size
      clear hd H1
      go_wp2
      go_loopw [3, 4] (fun o i wr => ∃ k : Nat, k ≤ n ∧ i = .int .i64 k ∧ o = .string ⟨(textL (zs.take k)).toArray⟩ ∧ Below w.heap.size w wr) (fun _ i _ => n - (intOf i).toNat)
      case atStart => exact ⟨0, Nat.zero_le _, rfl, rfl, hb1⟩
      case round =>
        obtain ⟨k, hk, rfl, rfl, hb⟩ := hrel
        clear hb1
        have htl : (textL (zs.take k)).length ≤ 8 := by rw [textL_length]; have := List.length_take_le k zs; omega
        by_cases hlt : k < n
        · obtain ⟨ad, u, rfl, had, hu, hc⟩ := ((hr.more hB).below hb).at_ hlt
          obtain ⟨z, hz, rfl⟩ := i64_at hu
          obtain ⟨hz1, hz2⟩ := unhide HP k z hz
          rw [unhide HL] at hz2
          have H2 := hide (fmt1_any z hz1 (by omega) wr)
          have hstep := hide (textL_step hz)
          clear hu hz
          go_wp2_with fail
          refine (unhide H2).mono ?_
          rintro e w2 ⟨rfl, hb2⟩
          have hb3 := below_after hb hb2
          clear H2 hb2 hb
          go_wp2
          go_roundw
          case rel => exact ⟨k + 1, by omega, by go_num, str_eq (by rw [unhide hstep, ← cat_list]), hb3⟩
          case measure => simp [intOf]; omega
        · obtain rfl : n = k := by omega
          have e : zs.take n = zs := List.take_of_length_le (by rw [unhide HL]; exact Nat.le_refl _)
          rw [e] at htl ⊢
          clear e
          go_wp2
          go_ret
          exact ⟨rfl, hb⟩

theorem byteInfo : (Tryz.prog.info? 5).map (fun i => (i.zero, i.size, i.bytes)) = some (some (.int .u8 0), 1, 1) := by kernel_rfl
def u8c (ns : List Int) : List Value := ns.map (Value.int .u8)
theorem cv_row {P : Program} {src dst e : TypeId} (hs : P.underlying src = some (.slice e)) (he : P.underlying e = some (.int .u8)) (hd : P.underlying dst = some .string) (w : World) (B g n c : Nat) (t : TypeId) (ns : List Int)
    (hown : w.ownsRow B t 1 (.slice (some ⟨g, 0, none⟩) n c) n (u8c ns)) :
    (convert src dst (.slice (some ⟨g, 0, none⟩) n c)).run P w = .ok (.string ⟨(ns.map fun n => UInt8.ofNat n.toNat).toArray⟩) w := by
  rw [run_convert_bytes_string _ src dst e _ n c hs he hd]
  have hn : n = (u8c ns).length := by have := hown.1; omega
  have h := run_bytesToString (P := P) w ⟨g, 0, none⟩ n c ns (by
    have := run_loadCells_list (P := P) (w := w) ⟨g, 0, none⟩ (u8c ns) (fun j v hj => hown.cells (g := g) rfl j v hj)
    rwa [← hn] at this)
  rw [push_list] at h
  simpa using h

set_option maxHeartbeats 800000 in
theorem itext_any (A : Option Addr) (n c B : Nat) (zs : List Int) (w : World) (h : Arg w B A n c zs) :
    Calls Tryz.prog 69 #[.slice A n c] w (GivesS w (ptext zs)) := by
  obtain ⟨bp, hp⟩ : ∃ b, isP zs = b := ⟨_, rfl⟩
  have H1 := hide (iisperm_any A n c B zs bp hp w h.reads h.under h.le h.small)
  have hl := h.len
  cases bp with
  | false =>
    rw [ptext_no hp]
    clear hp h hl
    go_enter Tryz.func69, Tryz.ntmps69
    go_wp2_with fail
    refine (unhide H1).mono ?_
    rintro e w1 ⟨rfl, hb⟩
    clear H1
    go_wp2
    go_ret
    exact ⟨rfl, hb⟩
  | true =>
    by_cases h0 : n = 0
    · subst h0
      rw [ptext_nil hp hl]
      clear hp h hl
      go_enter Tryz.func69, Tryz.ntmps69
      go_wp2_with fail
      refine (unhide H1).mono ?_
      rintro e w1 ⟨rfl, hb⟩
      clear H1
      go_wp2
      go_ret
      exact ⟨rfl, hb⟩
    · rw [ptext_yes hp (by omega)]
      obtain ⟨i0, hi, hz0, hz1, hz2⟩ := info_parts byteInfo
      have hr := h.reads
      have hB := h.under
      have hn8 : n ≤ 8 := by have := isP_le hp; omega
      have HP := hide (fun k z hz => isP_range hp (k := k) (z := z) hz)
      have HT := hide (textI_bytes (l := zs) (fun z hz => by have := (isP_true.1 hp).2.1 z hz; omega))
      have HL := hide hl
      have h0' : ((n : Int) == 0) = false := by simp; omega
      clear hp h hl
      go_enter Tryz.func69, Tryz.ntmps69
      go_wp2_with fail
      refine (unhide H1).mono ?_
      rintro e w0 ⟨rfl, hb0⟩
      have hs0 := hb0.size
      clear H1
      go_wp2_with (first
        | (at_make; refine wpList_make_full _ rfl (.tmp 13) (.tmp 13) 22 rfl w.heap.size 5 i0 (.int .u8 0) 1 Tryz.underlying22 hi hz0 hz1 _ _ _ _ n rfl rfl (by first | rfl | omega) (by first | rfl | omega) (by rw [hz2]; omega) (by unfold maxLen; omega) hs0 ?_; intro w1 hown hg))
      have hb1 := hb0.grown hg hs0 (by simp)
      clear hg hb0
      obtain ⟨g, hg⟩ : ∃ g, g = w0.heap.size := ⟨_, rfl⟩
      rw [← hg] at hown ⊢
      clear hg hs0
      go_loopw [4, 5, 17] (fun _ _ i wr => ∃ (k : Nat) (xs : List Value), k ≤ n ∧ i = .int .i64 k ∧ Below w.heap.size w wr ∧ wr.ownsRow w.heap.size 5 1 (.slice (some ⟨g, 0, none⟩) n n) n xs ∧ Hid (xs.take k = (u8c (textI zs)).take k)) (fun _ _ i _ => n - (intOf i).toNat)
      case atStart => exact ⟨0, _, Nat.zero_le _, rfl, hb1, hown, by exact rfl⟩
      case round =>
        obtain ⟨k, xs, hk, rfl, hb, hown', hx⟩ := hrel
        clear hown hb1
        have hlx : xs.length = n := by simpa using hown'.1
        by_cases hlt : k < n
        · obtain ⟨ad, u, rfl, had, hu, hc⟩ := ((hr.more hB).below hb).at_ hlt
          obtain ⟨z, hz, rfl⟩ := i64_at hu
          obtain ⟨hz1', hz2'⟩ := unhide HP k z hz
          rw [unhide HL] at hz2'
          have hz8 : z ≤ 8 := by omega
          obtain ⟨old, hold⟩ : ∃ old, wr.cell? ⟨g, k, none⟩ = some old := ⟨_, by rw [hown'.cellAt k (by omega)]; exact List.getElem?_eq_getElem (by omega)⟩
          have hfz := hown'.frozenAt k
          have hst := hide (take_set_i (u := .int .u8 (48 + z)) (unhide hx) (by unfold u8c; rw [List.getElem?_map, textI_at hz]; rfl) (by omega))
          have ho2 := (hown'.stored k (.int .u8 (48 + z))).1
          have hb2 := below_set_i hb hown' k (.int .u8 (48 + z))
          clear hx hlx hu hz hown' hb
          go_wp2
          go_roundw
          case rel => exact ⟨k + 1, _, by omega, by go_num, hb2, ho2, hst⟩
          case measure => simp [intOf]; omega
        · obtain rfl : n = k := by omega
          have : xs = u8c (textI zs) := by
            have h := unhide hx
            have h2 : (u8c (textI zs)).length = n := by unfold u8c; rw [List.length_map, textI_length, unhide HL]
            rwa [List.take_of_length_le (by omega), List.take_of_length_le (by omega)] at h
          subst this
          have hcv := cv_row (P := Tryz.prog) Tryz.underlying22 Tryz.underlying5 Tryz.underlying9 wr w.heap.size g n n 5 (textI zs) hown'
          rw [unhide HT] at hcv
          clear hx hlx hown'
          go_wp2
          go_ret
          exact ⟨rfl, hb⟩
end Go.Proofs.YtplchjeamooliaaGreatDoor


/-
  PLAIN: the order of lists. Nothing here speaks of the program.
-/

namespace Go.Proofs.YtplchjeamooliaaGreatDoor
set_option maxRecDepth 100000

/-- At the first place where they differ the first is less. -/
def lexL : List Int → List Int → Bool
  | x :: xs, y :: ys => if x = y then lexL xs ys else decide (x < y)
  | _, _ => false
theorem lexL_same : ∀ p : List Int, lexL p p = false
  | [] => rfl
  | x :: xs => by rw [lexL, if_pos rfl]; exact lexL_same xs
theorem lexL_at : ∀ {p q : List Int} {k : Nat} {x y : Int}, p.take k = q.take k → p[k]? = some x → q[k]? = some y → x ≠ y → lexL p q = decide (x < y)
  | a :: p, b :: q, 0, x, y, _, hx, hy, hne => by
    simp at hx hy
    subst hx; subst hy
    rw [lexL, if_neg hne]
  | a :: p, b :: q, k + 1, x, y, h, hx, hy, hne => by
    simp at h
    obtain ⟨rfl, h⟩ := h
    rw [lexL, if_pos rfl]
    exact lexL_at h (by simpa using hx) (by simpa using hy) hne
  | [], _, k, _, _, _, hx, _, _ => by simp at hx
  | _ :: _, [], k, _, _, _, _, hy, _ => by simp at hy
theorem take_same_step {p q : List Int} {k : Nat} {x : Int} (h : p.take k = q.take k) (hx : p[k]? = some x) (hy : q[k]? = some x) : p.take (k + 1) = q.take (k + 1) := by
  rw [List.take_add_one, List.take_add_one, h, hx, hy]
theorem lexL_end {p q : List Int} {n : Nat} (h : p.take n = q.take n) (hp : p.length = n) (hq : q.length = n) : lexL p q = false := by
  rw [List.take_of_length_le (by omega), List.take_of_length_le (by omega)] at h
  rw [h]; exact lexL_same q
def befL (p q : List Int) : Bool := if p.length = q.length then lexL p q else decide (p.length < q.length)
theorem befL_eq {p q : List Int} (h : p.length = q.length) : befL p q = lexL p q := by unfold befL; rw [if_pos h]
theorem befL_ne {p q : List Int} (h : p.length ≠ q.length) : befL p q = decide (p.length < q.length) := by unfold befL; rw [if_neg h]
def bef (p q : List Int) : Bool := isP p && isP q && befL p q
theorem bef_no1 {p q : List Int} (h : isP p = false) : bef p q = false := by simp [bef, h]
theorem bef_no2 {p q : List Int} (h : isP q = false) : bef p q = false := by simp [bef, h]
theorem bef_yes {p q : List Int} (h : isP p = true) (h' : isP q = true) : bef p q = befL p q := by simp [bef, h, h']
end Go.Proofs.YtplchjeamooliaaGreatDoor


/-
  PLAIN: lists of lists in order, each once; the symmetries of a permutation. Nothing here speaks of the program.
-/

namespace Go.Proofs.YtplchjeamooliaaGreatDoor
set_option maxRecDepth 100000

/-! the order -/
theorem lexL_trans : ∀ {p q r : List Int}, lexL p q = true → lexL q r = true → lexL p r = true
  | [], _, _, h, _ => by simp [lexL] at h
  | _ :: _, [], _, h, _ => by simp [lexL] at h
  | _ :: _, _ :: _, [], _, h => by simp [lexL] at h
  | x :: p, y :: q, z :: r, h1, h2 => by
    rw [lexL] at h1 h2 ⊢
    by_cases e1 : x = y
    · subst e1
      rw [if_pos rfl] at h1
      by_cases e2 : x = z
      · subst e2
        rw [if_pos rfl] at h2 ⊢
        exact lexL_trans h1 h2
      · rw [if_neg e2] at h2 ⊢
        exact h2
    · rw [if_neg e1] at h1
      by_cases e2 : y = z
      · subst e2
        rw [if_neg e1]
        exact h1
      · rw [if_neg e2] at h2
        simp only [decide_eq_true_eq] at h1 h2
        rw [if_neg (by omega)]
        simp only [decide_eq_true_eq]
        omega
theorem lexL_total : ∀ {p q : List Int}, p.length = q.length → lexL p q = false → lexL q p = false → p = q
  | [], [], _, _, _ => rfl
  | [], _ :: _, h, _, _ => by simp at h
  | _ :: _, [], h, _, _ => by simp at h
  | x :: p, y :: q, h, h1, h2 => by
    rw [lexL] at h1 h2
    by_cases e : x = y
    · subst e
      rw [if_pos rfl] at h1 h2
      rw [lexL_total (by simpa using h) h1 h2]
    · rw [if_neg e] at h1
      rw [if_neg (fun h => e h.symm)] at h2
      simp only [decide_eq_false_iff_not] at h1 h2
      omega
theorem befL_irrefl (p : List Int) : befL p p = false := by rw [befL_eq rfl]; exact lexL_same p
theorem befL_trans {p q r : List Int} (h1 : befL p q = true) (h2 : befL q r = true) : befL p r = true := by
  unfold befL at h1 h2 ⊢
  by_cases e1 : p.length = q.length
  · rw [if_pos e1] at h1
    by_cases e2 : q.length = r.length
    · rw [if_pos e2] at h2
      rw [if_pos (by omega)]
      exact lexL_trans h1 h2
    · rw [if_neg e2] at h2
      rw [if_neg (by omega)]
      simp only [decide_eq_true_eq] at h2 ⊢
      omega
  · rw [if_neg e1] at h1
    simp only [decide_eq_true_eq] at h1
    by_cases e2 : q.length = r.length
    · rw [if_neg (by omega)]
      simp only [decide_eq_true_eq]
      omega
    · rw [if_neg e2] at h2
      simp only [decide_eq_true_eq] at h2
      rw [if_neg (by omega)]
      simp only [decide_eq_true_eq]
      omega
theorem befL_total {p q : List Int} (h1 : befL p q = false) (h2 : befL q p = false) : p = q := by
  unfold befL at h1 h2
  by_cases e : p.length = q.length
  · rw [if_pos e] at h1
    rw [if_pos e.symm] at h2
    exact lexL_total e h1 h2
  · rw [if_neg e] at h1
    rw [if_neg (fun h => e h.symm)] at h2
    simp only [decide_eq_false_iff_not] at h1 h2
    omega
theorem befL_asymm {p q : List Int} (h : befL p q = true) : befL q p = false := by
  cases h2 : befL q p with
  | false => rfl
  | true => have := befL_trans h h2; rw [befL_irrefl] at this; cases this
theorem befL_of_ne {p q : List Int} (h : befL q p = false) (hne : p ≠ q) : befL p q = true := by
  cases h2 : befL p q with
  | true => rfl
  | false => exact absurd (befL_total h2 h) hne
/-- p is not behind q, q before r. -/
theorem befL_le_lt {p q r : List Int} (h1 : befL q p = false) (h2 : befL q r = true) : befL p r = true := by
  by_cases e : p = q
  · subst e; exact h2
  · exact befL_trans (befL_of_ne h1 e) h2

/-! in order, each once -/
def Asc (l : List (List Int)) : Prop := l.Pairwise fun a b => befL a b = true
theorem asc_unique : ∀ {a b : List (List Int)}, Asc a → Asc b → (∀ x, x ∈ a ↔ x ∈ b) → a = b
  | [], [], _, _, _ => rfl
  | [], y :: b, _, _, h => by have := (h y).2 (by simp); simp at this
  | x :: a, [], _, _, h => by have := (h x).1 (by simp); simp at this
  | x :: a, y :: b, ha, hb, h => by
    have ha' := List.pairwise_cons.1 ha
    have hb' := List.pairwise_cons.1 hb
    have e : x = y := by
      rcases List.mem_cons.1 ((h x).1 (by simp)) with e | hx
      · exact e
      · rcases List.mem_cons.1 ((h y).2 (by simp)) with e | hy
        · exact e.symm
        · have h1 := hb'.1 x hx
          have h2 := ha'.1 y hy
          rw [befL_asymm h1] at h2
          cases h2
    subst e
    have : a = b := asc_unique ha'.2 hb'.2 fun z => by
      have hz := h z
      constructor
      · intro hin
        rcases List.mem_cons.1 (hz.1 (by simp [hin])) with e | h2
        · subst e
          have := ha'.1 z hin
          rw [befL_irrefl] at this
          cases this
        · exact h2
      · intro hin
        rcases List.mem_cons.1 (hz.2 (by simp [hin])) with e | h2
        · subst e
          have := hb'.1 z hin
          rw [befL_irrefl] at this
          cases this
        · exact h2
    rw [this]

/-- Where spec.l3Put stands. -/
def scanL (l : List (List Int)) (p : List Int) : Nat → Nat
  | 0 => 0
  | k + 1 => if befL p (l.getD k []) then scanL l p k else k + 1
theorem getD_of {α : Type} {l : List α} {k : Nat} {z d : α} (h : l[k]? = some z) : l.getD k d = z := by rw [List.getD_eq_getElem?_getD, h]; rfl
theorem scanL_yes {l : List (List Int)} {p z : List Int} {k : Nat} (hz : l[k]? = some z) (h : befL p z = true) : scanL l p (k + 1) = scanL l p k := by rw [scanL, getD_of hz, if_pos h]
theorem scanL_no {l : List (List Int)} {p z : List Int} {k : Nat} (hz : l[k]? = some z) (h : befL p z = false) : scanL l p (k + 1) = k + 1 := by rw [scanL, getD_of hz, if_neg (by simp [h])]
theorem scanL_le (l : List (List Int)) (p : List Int) : ∀ k, scanL l p k ≤ k
  | 0 => Nat.le_refl _
  | k + 1 => by
    rw [scanL]
    by_cases h : befL p (l.getD k []) = true
    · rw [if_pos h]; have := scanL_le l p k; omega
    · rw [if_neg h]; exact Nat.le_refl _
theorem scanL_above (l : List (List Int)) (p : List Int) : ∀ k j, scanL l p k ≤ j → j < k → befL p (l.getD j []) = true
  | 0, j, _, h => by omega
  | k + 1, j, h1, h2 => by
    rw [scanL] at h1
    by_cases h : befL p (l.getD k []) = true
    · rw [if_pos h] at h1
      by_cases e : j = k
      · subst e; exact h
      · exact scanL_above l p k j h1 (by omega)
    · rw [if_neg h] at h1; omega
theorem scanL_at (l : List (List Int)) (p : List Int) : ∀ k m, scanL l p k = m + 1 → befL p (l.getD m []) = false
  | 0, m, h => by simp [scanL] at h
  | k + 1, m, h => by
    rw [scanL] at h
    by_cases hb : befL p (l.getD k []) = true
    · rw [if_pos hb] at h; exact scanL_at l p k m h
    · rw [if_neg hb] at h
      obtain rfl : k = m := by omega
      simpa using hb
def putL (l : List (List Int)) (p : List Int) : List (List Int) :=
  if 0 < scanL l p l.length ∧ l.getD (scanL l p l.length - 1) [] = p then l else l.take (scanL l p l.length) ++ [p] ++ l.drop (scanL l p l.length)
theorem putL_len (l : List (List Int)) (p : List Int) : l.length ≤ (putL l p).length ∧ (putL l p).length ≤ l.length + 1 := by
  unfold putL
  have := scanL_le l p l.length
  split
  · omega
  · simp; omega
theorem mem_putL {l : List (List Int)} {p x : List Int} : x ∈ putL l p ↔ x ∈ l ∨ x = p := by
  unfold putL
  split
  · next h =>
    constructor
    · exact .inl
    · rintro (h1 | rfl)
      · exact h1
      · have hlt : scanL l x l.length - 1 < l.length := by have := scanL_le l x l.length; omega
        have := h.2
        rw [List.getD_eq_getElem?_getD, List.getElem?_eq_getElem hlt] at this
        exact this ▸ List.getElem_mem hlt
  · have := List.take_append_drop (scanL l p l.length) l
    constructor
    · intro h
      simp only [List.mem_append, List.mem_singleton] at h
      rcases h with (h | h) | h
      · exact .inl (List.mem_of_mem_take h)
      · exact .inr h
      · exact .inl (List.mem_of_mem_drop h)
    · rintro (h | rfl)
      · rw [← this, List.mem_append] at h
        simp only [List.mem_append, List.mem_singleton]
        rcases h with h | h
        · exact .inl (.inl h)
        · exact .inr h
      · simp
theorem asc_putL {l : List (List Int)} {p : List Int} (h : Asc l) : Asc (putL l p) := by
  unfold putL
  split
  · exact h
  · next hno =>
    have hle := scanL_le l p l.length
    have hab := scanL_above l p l.length
    have hat := scanL_at l p l.length
    generalize scanL l p l.length = s at *
    have hlow : ∀ a ∈ l.take s, befL a p = true := by
      intro a ha
      obtain ⟨i, hi, rfl⟩ := List.getElem_of_mem ha
      rw [List.length_take] at hi
      rw [List.getElem_take]
      have h1 := hat (s - 1) (by omega)
      have h2 : l.getD (s - 1) [] ≠ p := fun e => hno ⟨by omega, e⟩
      rw [List.getD_eq_getElem?_getD, List.getElem?_eq_getElem (by omega : s - 1 < l.length)] at h1 h2
      have h3 := befL_of_ne h1 h2
      by_cases e : i = s - 1
      · subst e; exact h3
      · exact befL_trans (List.pairwise_iff_getElem.1 h i (s - 1) (by omega) (by omega) (by omega)) h3
    have hup : ∀ b ∈ l.drop s, befL p b = true := by
      intro b hb
      obtain ⟨i, hi, rfl⟩ := List.getElem_of_mem hb
      rw [List.length_drop] at hi
      rw [List.getElem_drop]
      have := hab (s + i) (by omega) (by omega)
      rwa [List.getD_eq_getElem?_getD, List.getElem?_eq_getElem (by omega : s + i < l.length)] at this
    unfold Asc
    rw [List.append_assoc, List.pairwise_append]
    refine ⟨h.sublist (List.take_sublist _ _), ?_, ?_⟩
    · rw [List.singleton_append, List.pairwise_cons]
      exact ⟨hup, h.sublist (List.drop_sublist _ _)⟩
    · intro a ha b hb
      rw [List.singleton_append, List.mem_cons] at hb
      rcases hb with rfl | hb
      · exact hlow a ha
      · exact befL_trans (hlow a ha) (hup b hb)
def ordL (l : List (List Int)) (k : Nat) : List (List Int) := (l.take k).foldl putL []
theorem ordL_zero (l : List (List Int)) : ordL l 0 = [] := by simp [ordL]
theorem ordL_step {l : List (List Int)} {k : Nat} {z : List Int} (h : l[k]? = some z) : ordL l (k + 1) = putL (ordL l k) z := by
  unfold ordL
  rw [List.take_add_one, h]
  simp
theorem foldl_put : ∀ (l : List (List Int)) (a : List (List Int)), Asc a → Asc (l.foldl putL a) ∧ (∀ x, x ∈ l.foldl putL a ↔ x ∈ a ∨ x ∈ l) ∧ (l.foldl putL a).length ≤ a.length + l.length
  | [], a, h => ⟨h, fun x => by simp, by simp⟩
  | p :: l, a, h => by
    obtain ⟨h1, h2, h3⟩ := foldl_put l (putL a p) (asc_putL h)
    refine ⟨h1, fun x => ?_, ?_⟩
    · rw [List.foldl_cons, h2 x, mem_putL, List.mem_cons, or_assoc]
    · have := (putL_len a p).2
      rw [List.foldl_cons, List.length_cons]
      omega
theorem ordL_asc (l : List (List Int)) (k : Nat) : Asc (ordL l k) := (foldl_put _ [] List.Pairwise.nil).1
theorem ordL_mem {l : List (List Int)} {k : Nat} {x : List Int} : x ∈ ordL l k ↔ x ∈ l.take k := by
  unfold ordL
  rw [(foldl_put _ [] List.Pairwise.nil).2.1 x]
  simp
theorem ordL_len (l : List (List Int)) (k : Nat) : (ordL l k).length ≤ l.length := by
  have := (foldl_put (l.take k) [] List.Pairwise.nil).2.2
  unfold ordL
  rw [List.length_take] at this
  simp only [List.length_nil] at this
  omega
def allP (l : List (List Int)) : Bool := l.all isP
theorem allP_no {l : List (List Int)} {z : List Int} (h : z ∈ l) (hz : isP z = false) : allP l = false := by
  unfold allP
  rw [List.all_eq_false]
  exact ⟨z, h, by simp [hz]⟩
theorem allP_at {l : List (List Int)} {z : List Int} (h : allP l = true) (hz : z ∈ l) : isP z = true := by
  unfold allP at h
  rw [List.all_eq_true] at h
  exact h z hz
theorem allP_yes {l : List (List Int)} (h : ∀ z ∈ l, isP z = true) : allP l = true := by
  unfold allP
  rw [List.all_eq_true]
  exact h
def ordR (l : List (List Int)) : List (List Int) := if allP l then ordL l l.length else []
theorem ordR_yes {l : List (List Int)} (h : allP l = true) : ordR l = ordL l l.length := by unfold ordR; rw [if_pos h]
theorem ordR_no {l : List (List Int)} (h : allP l = false) : ordR l = [] := by unfold ordR; rw [if_neg (by simp [h])]
theorem ordR_len (l : List (List Int)) : (ordR l).length ≤ l.length := by
  cases h : allP l with
  | true => rw [ordR_yes h]; exact ordL_len _ _
  | false => rw [ordR_no h]; exact Nat.zero_le _
theorem ordR_mem {l : List (List Int)} {x : List Int} (h : x ∈ ordR l) : isP x = true := by
  cases hp : allP l with
  | true =>
    rw [ordR_yes hp, ordL_mem, List.take_length] at h
    exact allP_at hp h
  | false => rw [ordR_no hp] at h; simp at h

/-! neighbors that are equal, left out -/
section
variable {α : Type} (f : α → List Int)
/-- Of the first k the ones that differ from the one before. -/
def keepN (xs : List α) : Nat → List α
  | 0 => []
  | k + 1 => match xs[k]? with
    | none => keepN xs k
    | some x => if 0 < k ∧ (xs[k - 1]?).map f = some (f x) then keepN xs k else keepN xs k ++ [x]
variable {f}
theorem keepN_same {xs : List α} {k : Nat} {x y : α} (h : xs[k]? = some x) (hk : 0 < k) (hy : xs[k - 1]? = some y) (he : f y = f x) : keepN f xs (k + 1) = keepN f xs k := by
  rw [keepN, h]
  simp only
  rw [if_pos ⟨hk, by rw [hy, Option.map_some, he]⟩]
theorem keepN_new {xs : List α} {k : Nat} {x y : α} (h : xs[k]? = some x) (hy : xs[k - 1]? = some y) (he : f y ≠ f x) : keepN f xs (k + 1) = keepN f xs k ++ [x] := by
  rw [keepN, h]
  simp only
  rw [if_neg]
  rintro ⟨_, e⟩
  rw [hy, Option.map_some] at e
  exact he (Option.some.inj e)
theorem keepN_one {xs : List α} {x : α} (h : xs[0]? = some x) : keepN f xs 1 = [x] := by
  rw [keepN, h]
  simp only
  rw [if_neg (by omega), keepN]
  rfl
theorem keepN_sub (xs : List α) : ∀ k, (keepN f xs k).Sublist (xs.take k)
  | 0 => by simp [keepN]
  | k + 1 => by
    rw [keepN]
    cases h : xs[k]? with
    | none =>
      simp only
      refine (keepN_sub xs k).trans ?_
      rw [List.take_add_one, h]
      simp
    | some x =>
      simp only
      rw [List.take_add_one, h]
      split
      · exact (keepN_sub xs k).trans (List.sublist_append_left _ _)
      · exact (keepN_sub xs k).append (List.Sublist.refl _)
theorem keepN_sorted {xs : List α} (hs : ∀ (i j : Nat) (x y : α), i < j → xs[i]? = some x → xs[j]? = some y → befL (f y) (f x) = false) :
    ∀ k, k ≤ xs.length → Asc ((keepN f xs k).map f) ∧ ∀ z, z ∈ (keepN f xs k).map f ↔ z ∈ (xs.take k).map f
  | 0, _ => ⟨by simp [keepN, Asc], fun z => by simp [keepN]⟩
  | k + 1, hk => by
    obtain ⟨h1, h2⟩ := keepN_sorted hs k (by omega)
    have hx : xs[k]? = some xs[k] := List.getElem?_eq_getElem (by omega)
    have ht : xs.take (k + 1) = xs.take k ++ [xs[k]] := by rw [List.take_add_one, hx]; rfl
    generalize xs[k] = x at hx ht
    cases k with
    | zero =>
      rw [keepN_one hx, ht]
      simp [Asc]
    | succ k =>
      have hy : xs[k]? = some xs[k] := List.getElem?_eq_getElem (by omega)
      generalize xs[k] = y at hy
      by_cases e : f y = f x
      · rw [keepN_same hx (by omega) (by simpa using hy) e, ht]
        refine ⟨h1, fun z => ?_⟩
        rw [h2 z, List.map_append, List.mem_append]
        simp only [List.map_cons, List.map_nil, List.mem_singleton]
        constructor
        · exact .inl
        · rintro (h | h)
          · exact h
          · subst h
            rw [← e]
            refine List.mem_map.2 ⟨y, ?_, rfl⟩
            rw [List.take_add_one, hy]
            simp
      · rw [keepN_new hx (by simpa using hy) e, ht]
        refine ⟨?_, fun z => ?_⟩
        · unfold Asc
          rw [List.map_append, List.pairwise_append]
          refine ⟨h1, by simp, fun a ha b hb => ?_⟩
          simp only [List.map_cons, List.map_nil, List.mem_singleton] at hb
          subst hb
          obtain ⟨a', ha', rfl⟩ := List.mem_map.1 ((h2 a).1 ha)
          obtain ⟨i, hi, rfl⟩ := List.getElem_of_mem ha'
          rw [List.length_take] at hi
          rw [List.getElem_take]
          have hyx : befL (f y) (f x) = true := befL_of_ne (hs k (k + 1) y x (by omega) hy hx) e
          by_cases ei : i = k
          · subst ei
            have : xs[i] = y := by
              rw [List.getElem?_eq_getElem (by omega)] at hy
              exact Option.some.inj hy
            rw [this]; exact hyx
          · exact befL_le_lt (hs i k _ y (by omega) (List.getElem?_eq_getElem (by omega)) hy) hyx
        · rw [List.map_append, List.map_append, List.mem_append, List.mem_append, h2 z]
end

/-! the symmetries -/
/-- n + 1 - v for each v. -/
def cplL (p : List Int) : List Int := p.map fun v => (p.length : Int) + 1 - v
theorem cplL_length (p : List Int) : (cplL p).length = p.length := by simp [cplL]
theorem cplL_at {p : List Int} {k : Nat} {z : Int} (h : p[k]? = some z) : (cplL p)[k]? = some ((p.length : Int) + 1 - z) := by
  unfold cplL
  rw [List.getElem?_map, h]; rfl
theorem isP_cpl {p : List Int} (h : isP p = true) : isP (cplL p) = true := by
  rw [isP_true] at h ⊢
  obtain ⟨h1, h2, h3⟩ := h
  refine ⟨by rw [cplL_length]; exact h1, fun x hx => ?_, ?_⟩
  · unfold cplL at hx
    obtain ⟨v, hv, rfl⟩ := List.mem_map.1 hx
    have := h2 v hv
    rw [cplL_length]
    omega
  · unfold cplL
    rw [List.nodup_iff_pairwise_ne, List.pairwise_map]
    exact h3.imp fun hne e => hne (by omega)
theorem isP_rev {p : List Int} (h : isP p = true) : isP p.reverse = true := by
  rw [isP_true] at h ⊢
  obtain ⟨h1, h2, h3⟩ := h
  refine ⟨by rw [List.length_reverse]; exact h1, fun x hx => by rw [List.length_reverse]; exact h2 x (List.mem_reverse.1 hx), ?_⟩
  rw [List.nodup_iff_pairwise_ne, List.pairwise_reverse]
  exact (List.nodup_iff_pairwise_ne.1 h3).imp fun h e => h e.symm
theorem invFill_at {l : List Int} (hr : ∀ x ∈ l, 1 ≤ x ∧ x ≤ (l.length : Int)) (hn : l.Nodup) : ∀ k i z, i < k → k ≤ l.length → l[i]? = some z → (invFill l k)[z.toNat - 1]? = some ((i : Int) + 1)
  | 0, i, z, h, _, _ => by omega
  | k + 1, i, z, h, hk, hz => by
    have hy : l[k]? = some l[k] := List.getElem?_eq_getElem (by omega)
    generalize l[k] = y at hy
    rw [← invFill_step hy]
    have hzr := hr z (List.mem_of_getElem? hz)
    have hyr := hr y (List.mem_of_getElem? hy)
    by_cases e : i = k
    · subst e
      obtain rfl : y = z := by rw [hy] at hz; exact Option.some.inj hz
      rw [List.getElem?_set_self (by rw [invFill_length]; omega)]
    · have hne : y ≠ z := fun e2 => by
        subst e2
        have hi : i < l.length := by omega
        rw [List.getElem?_eq_getElem hi] at hz
        rw [List.getElem?_eq_getElem (by omega : k < l.length)] at hy
        have := (List.pairwise_iff_getElem.1 (List.nodup_iff_pairwise_ne.1 hn)) i k hi (by omega) (by omega)
        exact this ((Option.some.inj hz).trans (Option.some.inj hy).symm)
      rw [List.getElem?_set_ne (by omega)]
      exact invFill_at hr hn k i z (by omega) (by omega) hz
theorem isP_inv {p : List Int} (h : isP p = true) : isP (invFill p p.length) = true := by
  rw [isP_true] at h ⊢
  obtain ⟨h1, h2, h3⟩ := h
  have hat := fun i z hi hz => invFill_at h2 h3 p.length i z hi (Nat.le_refl _) hz
  have hrange : ∀ x ∈ invFill p p.length, 1 ≤ x ∧ x ≤ ((invFill p p.length).length : Int) := by
    intro x hx
    rw [invFill_length]
    obtain ⟨j, hj, rfl⟩ := List.getElem_of_mem hx
    rw [invFill_length] at hj
    have hin := (nodup_iff_all h2).1 h3 j hj
    obtain ⟨i, hi, he⟩ := List.getElem_of_mem hin
    have := hat i ((j : Int) + 1) hi (by rw [List.getElem?_eq_getElem hi, he])
    rw [show ((j : Int) + 1).toNat - 1 = j by omega, List.getElem?_eq_getElem (by rw [invFill_length]; exact hj)] at this
    rw [Option.some.inj this]
    omega
  refine ⟨by rw [invFill_length]; exact h1, hrange, (nodup_iff_all hrange).2 fun j hj => ?_⟩
  rw [invFill_length] at hj
  exact List.mem_of_getElem? (hat j p[j] hj (List.getElem?_eq_getElem hj))

/-- The steps that are asked for by the three lowest digits of k. -/
def sym1 (p : List Int) (k : Nat) : List Int := if k % 2 = 1 then invFill p p.length else p
def sym2 (p : List Int) (k : Nat) : List Int := if k / 2 % 2 = 1 then (sym1 p k).reverse else sym1 p k
def symL (p : List Int) (k : Nat) : List Int := if 4 ≤ k then cplL (sym2 p k) else sym2 p k
theorem sym1_isP {p : List Int} (h : isP p = true) (k : Nat) : isP (sym1 p k) = true := by
  unfold sym1
  split
  · exact isP_inv h
  · exact h
theorem sym2_isP {p : List Int} (h : isP p = true) (k : Nat) : isP (sym2 p k) = true := by
  unfold sym2
  split
  · exact isP_rev (sym1_isP h k)
  · exact sym1_isP h k
theorem symL_isP {p : List Int} (h : isP p = true) (k : Nat) : isP (symL p k) = true := by
  unfold symL
  split
  · exact isP_cpl (sym2_isP h k)
  · exact sym2_isP h k
def revR (p : List Int) : List Int := if isP p then p.reverse else []
def cplR (p : List Int) : List Int := if isP p then cplL p else []
def symOK (p : List Int) (k : Int) : Bool := isP p && decide (0 ≤ k ∧ k ≤ 7)
def symR (p : List Int) (k : Int) : List Int := if symOK p k then symL p k.toNat else []
theorem revR_yes {p : List Int} (h : isP p = true) : revR p = p.reverse := by unfold revR; rw [if_pos h]
theorem revR_no {p : List Int} (h : isP p = false) : revR p = [] := by unfold revR; rw [if_neg (by simp [h])]
theorem cplR_yes {p : List Int} (h : isP p = true) : cplR p = cplL p := by unfold cplR; rw [if_pos h]
theorem cplR_no {p : List Int} (h : isP p = false) : cplR p = [] := by unfold cplR; rw [if_neg (by simp [h])]
theorem symOK_yes {p : List Int} {k : Int} (h : isP p = true) (hk : 0 ≤ k ∧ k ≤ 7) : symOK p k = true := by simp [symOK, h, hk]
theorem symOK_no1 {p : List Int} {k : Int} (h : isP p = false) : symOK p k = false := by simp [symOK, h]
theorem symOK_no2 {p : List Int} {k : Int} (hk : ¬ (0 ≤ k ∧ k ≤ 7)) : symOK p k = false := by simp [symOK, hk]
theorem symR_yes {p : List Int} {k : Int} (h : symOK p k = true) : symR p k = symL p k.toNat := by unfold symR; rw [if_pos h]
theorem symR_no {p : List Int} {k : Int} (h : symOK p k = false) : symR p k = [] := by unfold symR; rw [if_neg (by simp [h])]
theorem revR_le (p : List Int) : (revR p).length ≤ 8 := by
  cases h : isP p with
  | true => rw [revR_yes h, List.length_reverse]; exact isP_le h
  | false => rw [revR_no h]; simp
theorem cplR_le (p : List Int) : (cplR p).length ≤ 8 := by
  cases h : isP p with
  | true => rw [cplR_yes h, cplL_length]; exact isP_le h
  | false => rw [cplR_no h]; simp
theorem symR_le (p : List Int) (k : Int) : (symR p k).length ≤ 8 := by
  cases h : symOK p k with
  | true =>
    rw [symR_yes h]
    simp only [symOK, Bool.and_eq_true] at h
    exact isP_le (symL_isP h.1 _)
  | false => rw [symR_no h]; simp
/-- The eight images, the first k. -/
def imgs (p : List Int) (k : Nat) : List (List Int) := (List.range k).map fun j => symL p j
theorem imgs_length (p : List Int) (k : Nat) : (imgs p k).length = k := by simp [imgs]
theorem imgs_at {p : List Int} {k j : Nat} (h : j < k) : (imgs p k)[j]? = some (symL p j) := by
  unfold imgs
  rw [List.getElem?_map, List.getElem?_range h]; rfl
theorem imgs_all {p : List Int} (h : isP p = true) (k : Nat) : allP (imgs p k) = true := allP_yes fun z hz => by
  unfold imgs at hz
  obtain ⟨j, _, rfl⟩ := List.mem_map.1 hz
  exact symL_isP h j
def clsR (p : List Int) : List (List Int) := if isP p then ordR (imgs p 8) else []
theorem clsR_yes {p : List Int} (h : isP p = true) : clsR p = ordR (imgs p 8) := by unfold clsR; rw [if_pos h]
theorem clsR_no {p : List Int} (h : isP p = false) : clsR p = [] := by unfold clsR; rw [if_neg (by simp [h])]
theorem clsR_len (p : List Int) : (clsR p).length ≤ 8 := by
  cases h : isP p with
  | true => rw [clsR_yes h]; have := ordR_len (imgs p 8); rw [imgs_length] at this; exact this
  | false => rw [clsR_no h]; simp
theorem clsR_mem {p x : List Int} (h : x ∈ clsR p) : isP x = true := by
  cases hp : isP p with
  | true => rw [clsR_yes hp] at h; exact ordR_mem h
  | false => rw [clsR_no hp] at h; simp at h
theorem clsR_ne {p : List Int} (h : isP p = true) : clsR p ≠ [] := by
  rw [clsR_yes h, ordR_yes (imgs_all h 8)]
  intro e
  have : symL p 0 ∈ ordL (imgs p 8) (imgs p 8).length := by
    rw [ordL_mem, List.take_length]
    exact List.mem_of_getElem? (imgs_at (by omega : 0 < 8))
  rw [e] at this
  simp at this
def leastR (p : List Int) : List Int := (clsR p).headD []
theorem leastR_le (p : List Int) : (leastR p).length ≤ 8 := by
  unfold leastR
  cases h : clsR p with
  | nil => simp
  | cons x l => exact isP_le (clsR_mem (p := p) (by rw [h]; simp))
def invol (p : List Int) : Bool := isP p && decide (p = invFill p p.length)
theorem invol_no {p : List Int} (h : isP p = false) : invol p = false := by simp [invol, h]
theorem invol_yes {p : List Int} (h : isP p = true) : invol p = decide (p = invFill p p.length) := by simp [invol, h]
end Go.Proofs.YtplchjeamooliaaGreatDoor


/-
  PLAIN: the pattern of a list. Nothing here speaks of the program.
-/

namespace Go.Proofs.YtplchjeamooliaaGreatDoor
set_option maxRecDepth 100000

/-- How many are less than v. -/
def cnt (l : List Int) (v : Int) : Nat := (l.filter fun x => decide (x < v)).length
theorem cnt_nil (v : Int) : cnt [] v = 0 := rfl
theorem cnt_cons (x : Int) (l : List Int) (v : Int) : cnt (x :: l) v = (if x < v then 1 else 0) + cnt l v := by
  unfold cnt
  rw [List.filter_cons]
  by_cases h : x < v
  · simp [h]; omega
  · simp [h]
theorem cnt_snoc (l : List Int) (x v : Int) : cnt (l ++ [x]) v = cnt l v + if x < v then 1 else 0 := by
  unfold cnt
  rw [List.filter_append, List.length_append, List.filter_cons]
  by_cases h : x < v <;> simp [h]
theorem cnt_le (l : List Int) (v : Int) : cnt l v ≤ l.length := by unfold cnt; exact List.length_filter_le _ _
theorem cnt_mono : ∀ (l : List Int) {v v' : Int}, v ≤ v' → cnt l v ≤ cnt l v'
  | [], _, _, _ => Nat.le_refl _
  | x :: l, v, v', h => by
    have := cnt_mono l h
    rw [cnt_cons, cnt_cons]
    by_cases h1 : x < v
    · rw [if_pos h1, if_pos (by omega)]; omega
    · rw [if_neg h1]; omega
theorem cnt_lt : ∀ {l : List Int} {v v' : Int}, v ∈ l → v < v' → cnt l v + 1 ≤ cnt l v'
  | x :: l, v, v', hm, h => by
    rw [cnt_cons, cnt_cons]
    rcases List.mem_cons.1 hm with rfl | hm
    · have := cnt_mono l (v := v) (v' := v') (by omega)
      rw [if_neg (by omega), if_pos h]; omega
    · have := cnt_lt hm h
      by_cases h1 : x < v
      · rw [if_pos h1, if_pos (by omega)]; omega
      · rw [if_neg h1]; omega
theorem cnt_mem : ∀ {l : List Int} {v : Int}, v ∈ l → cnt l v + 1 ≤ l.length
  | x :: l, v, hm => by
    rw [cnt_cons, List.length_cons]
    rcases List.mem_cons.1 hm with rfl | hm
    · have := cnt_le l v
      rw [if_neg (by omega)]; omega
    · have := cnt_mem hm
      by_cases h1 : x < v
      · rw [if_pos h1]; omega
      · rw [if_neg h1]; omega
def patL (l : List Int) : List Int := l.map fun v => 1 + (cnt l v : Int)
theorem patL_length (l : List Int) : (patL l).length = l.length := by simp [patL]
theorem patL_at {l : List Int} {k : Nat} {z : Int} (h : l[k]? = some z) : (patL l)[k]? = some (1 + (cnt l z : Int)) := by unfold patL; rw [List.getElem?_map, h]; rfl
theorem patL_take {l : List Int} {k : Nat} {z : Int} (h : l[k]? = some z) : (patL l).take (k + 1) = (patL l).take k ++ [1 + (cnt l z : Int)] := take_snoc_i (patL_at h)
theorem patL_range {l : List Int} : ∀ x ∈ patL l, 1 ≤ x ∧ x ≤ (l.length : Int) := by
  intro x hx
  unfold patL at hx
  obtain ⟨v, hv, rfl⟩ := List.mem_map.1 hx
  have := cnt_mem hv
  omega
def patOK (l : List Int) : Bool := decide (l.length ≤ 8 ∧ l.Nodup)
theorem patOK_no8 {l : List Int} (h : 8 < l.length) : patOK l = false := by unfold patOK; simp; omega
theorem patOK_yes {l : List Int} (h : l.length ≤ 8) (h' : l.Nodup) : patOK l = true := by unfold patOK; simp [h, h']
theorem patOK_twice {l : List Int} {k : Nat} {z : Int} (hz : l[k]? = some z) (h : z ∈ l.take k) : patOK l = false := by
  unfold patOK
  rw [decide_eq_false_iff_not]
  rintro ⟨_, hn⟩
  have hnd : (l.take (k + 1)).Nodup := hn.sublist (List.take_sublist _ _)
  rw [take_snoc_i hz] at hnd
  exact (List.nodup_append.1 hnd).2.2 z h z (by simp) rfl
theorem nodup_step {l : List Int} {k : Nat} {z : Int} (hz : l[k]? = some z) (h : z ∉ l.take k) (hn : (l.take k).Nodup) : (l.take (k + 1)).Nodup := by
  rw [take_snoc_i hz, List.nodup_append]
  refine ⟨hn, by simp, fun a ha b hb e => ?_⟩
  rw [List.mem_singleton] at hb
  subst hb; subst e
  exact h ha
theorem nodup_of_map {f : Int → Int} : ∀ {l : List Int}, (l.map f).Nodup → l.Nodup
  | [], _ => List.nodup_nil
  | a :: l, h => by
    rw [List.map_cons, List.nodup_cons] at h
    exact List.nodup_cons.2 ⟨fun hm => h.1 (List.mem_map.2 ⟨a, hm, rfl⟩), nodup_of_map h.2⟩
theorem nodup_map {f : Int → Int} : ∀ {l : List Int}, (∀ a ∈ l, ∀ b ∈ l, f a = f b → a = b) → l.Nodup → (l.map f).Nodup
  | [], _, _ => List.nodup_nil
  | a :: l, hf, h => by
    rw [List.nodup_cons] at h
    rw [List.map_cons, List.nodup_cons]
    refine ⟨fun hm => ?_, nodup_map (fun x hx y hy => hf x (by simp [hx]) y (by simp [hy])) h.2⟩
    obtain ⟨b, hb, e⟩ := List.mem_map.1 hm
    have := hf b (by simp [hb]) a (by simp) e
    subst this
    exact h.1 hb
theorem isP_pat (l : List Int) : isP (patL l) = patOK l := by
  rw [Bool.eq_iff_iff, isP_true]
  unfold patOK IsP
  rw [decide_eq_true_eq, patL_length]
  constructor
  · rintro ⟨h1, _, h3⟩
    exact ⟨h1, nodup_of_map h3⟩
  · rintro ⟨h1, h2⟩
    refine ⟨h1, patL_range, nodup_map (fun a ha b hb e => ?_) h2⟩
    rcases Int.lt_trichotomy a b with h | h | h
    · have := cnt_lt ha h; omega
    · exact h
    · have := cnt_lt hb h; omega
def patR (l : List Int) : List Int := if patOK l then patL l else []
theorem patR_yes {l : List Int} (h : patOK l = true) : patR l = patL l := by unfold patR; rw [if_pos h]
theorem patR_no {l : List Int} (h : patOK l = false) : patR l = [] := by unfold patR; rw [if_neg (by simp [h])]
theorem patR_le (l : List Int) : (patR l).length ≤ 8 := by
  cases h : patOK l with
  | true =>
    rw [patR_yes h, patL_length]
    unfold patOK at h
    simp at h
    exact h.1
  | false => rw [patR_no h]; simp
end Go.Proofs.YtplchjeamooliaaGreatDoor


/-
  PLAIN: sums of permutations, the parts of a sum, what is layered.
-/

namespace Go.Proofs.YtplchjeamooliaaGreatDoor
set_option maxRecDepth 100000

/-- Two lists, one above the other one. -/
def joinL (skew : Bool) (p q : List Int) : List Int :=
  if skew then p.map (fun v => v + (q.length : Int)) ++ q else p ++ q.map (fun v => v + (p.length : Int))
theorem joinL_length (s : Bool) (p q : List Int) : (joinL s p q).length = p.length + q.length := by cases s <;> simp [joinL]
def fit (p q : List Int) : Bool := isP p && isP q && decide (p.length + q.length ≤ 8)
def joinR (s : Bool) (p q : List Int) : List Int := if fit p q then joinL s p q else []
theorem joinR_yes {s : Bool} {p q : List Int} (h : fit p q = true) : joinR s p q = joinL s p q := by unfold joinR; rw [if_pos h]
theorem joinR_no {s : Bool} {p q : List Int} (h : fit p q = false) : joinR s p q = [] := by unfold joinR; rw [if_neg (by simp [h])]
theorem fit_yes {p q : List Int} (h1 : isP p = true) (h2 : isP q = true) (h3 : p.length + q.length ≤ 8) : fit p q = true := by simp [fit, h1, h2, h3]
theorem fit_no1 {p q : List Int} (h1 : isP p = false) : fit p q = false := by simp [fit, h1]
theorem fit_no2 {p q : List Int} (h1 : isP q = false) : fit p q = false := by simp [fit, h1]
theorem fit_no3 {p q : List Int} (h1 : ¬ p.length + q.length ≤ 8) : fit p q = false := by simp [fit]; omega
theorem fit_all {p q : List Int} (h : fit p q = true) : isP p = true ∧ isP q = true ∧ p.length + q.length ≤ 8 := by simpa [fit, and_assoc] using h
theorem joinR_le (s : Bool) (p q : List Int) : (joinR s p q).length ≤ 8 := by
  cases h : fit p q with
  | true => rw [joinR_yes h, joinL_length]; exact (fit_all h).2.2
  | false => rw [joinR_no h]; simp
theorem isP_nil : isP [] = true := by decide
theorem isP_join {s : Bool} {p q : List Int} (h : fit p q = true) : isP (joinL s p q) = true := by
  obtain ⟨hp, hq, hl⟩ := fit_all h
  obtain ⟨_, hpr, hpn⟩ := isP_true.1 hp
  obtain ⟨_, hqr, hqn⟩ := isP_true.1 hq
  have inj : ∀ (c : Int) (l : List Int), l.Nodup → (l.map (fun v => v + c)).Nodup := fun c l hn => nodup_map (fun a _ b _ e => by omega) hn
  refine isP_true.2 ⟨by rw [joinL_length]; exact hl, ?_, ?_⟩
  · rw [joinL_length]
    intro x hx
    cases s with
    | true =>
      simp only [joinL, if_true, List.mem_append, List.mem_map] at hx
      rcases hx with ⟨v, hv, rfl⟩ | hx
      · have := hpr v hv; omega
      · have := hqr x hx; omega
    | false =>
      simp only [joinL, Bool.false_eq_true, if_false, List.mem_append, List.mem_map] at hx
      rcases hx with hx | ⟨v, hv, rfl⟩
      · have := hpr x hx; omega
      · have := hqr v hv; omega
  · cases s with
    | true =>
      simp only [joinL, if_true]
      refine List.nodup_append.2 ⟨inj _ _ hpn, hqn, fun a ha b hb e => ?_⟩
      obtain ⟨v, hv, rfl⟩ := List.mem_map.1 ha
      have := hpr v hv; have := hqr b hb; omega
    | false =>
      simp only [joinL, Bool.false_eq_true, if_false]
      refine List.nodup_append.2 ⟨hpn, inj _ _ hqn, fun a ha b hb e => ?_⟩
      obtain ⟨v, hv, rfl⟩ := List.mem_map.1 hb
      have := hpr a ha; have := hqr v hv; omega

/-- All elements of a list joined, as long as they fit. -/
def joinAll (s : Bool) (l : List (List Int)) : List Int := l.foldl (joinL s) []
def allFit (l : List (List Int)) : Bool := allP l && decide (tot l ≤ 8)
theorem joinAll_snoc (s : Bool) (l : List (List Int)) (z : List Int) : joinAll s (l ++ [z]) = joinL s (joinAll s l) z := by simp [joinAll]
theorem joinAll_length (s : Bool) (l : List (List Int)) : (joinAll s l).length = tot l := by
  have : ∀ (l : List (List Int)) (a : List Int), (l.foldl (joinL s) a).length = a.length + tot l := fun l => by
    induction l with
    | nil => intro a; simp [tot]
    | cons z l ih => intro a; rw [List.foldl_cons, ih, joinL_length]; simp [tot]; omega
  rw [joinAll, this]; simp
theorem joinAll_isP {s : Bool} (l : List (List Int)) (hp : allP l = true) (ht : tot l ≤ 8) : isP (joinAll s l) = true := by
  have : ∀ (l : List (List Int)) (a : List Int), isP a = true → allP l = true → a.length + tot l ≤ 8 → isP (l.foldl (joinL s) a) = true := fun l => by
    induction l with
    | nil => intro a ha _ _; exact ha
    | cons z l ih =>
      intro a ha hl ht
      have ht' : a.length + (z.length + tot l) ≤ 8 := by simpa [tot] using ht
      rw [List.foldl_cons]
      exact ih _ (isP_join (fit_yes ha (allP_at hl (by simp)) (by omega))) (allP_yes fun x hx => allP_at hl (by simp [hx])) (by rw [joinL_length]; omega)
  exact this l [] isP_nil hp (by simpa using ht)
def joinsR (s : Bool) (l : List (List Int)) : List Int := if allFit l then joinAll s l else []
theorem joinsR_yes {s : Bool} {l : List (List Int)} (h : allFit l = true) : joinsR s l = joinAll s l := by unfold joinsR; rw [if_pos h]
theorem joinsR_no {s : Bool} {l : List (List Int)} (h : allFit l = false) : joinsR s l = [] := by unfold joinsR; rw [if_neg (by simp [h])]
theorem joinsR_le (s : Bool) (l : List (List Int)) : (joinsR s l).length ≤ 8 := by
  cases h : allFit l with
  | true =>
    rw [joinsR_yes h, joinAll_length]
    simp [allFit] at h; exact h.2
  | false => rw [joinsR_no h]; simp
theorem allFit_no1 {l : List (List Int)} {z : List Int} (h : z ∈ l) (hz : isP z = false) : allFit l = false := by simp [allFit, allP_no h hz]
theorem allFit_no2 {l : List (List Int)} (h : 8 < tot l) : allFit l = false := by simp [allFit]; omega
theorem allFit_yes {l : List (List Int)} (h : ∀ z ∈ l, isP z = true) (ht : tot l ≤ 8) : allFit l = true := by simp [allFit, allP_yes h, ht]
theorem take_snoc_r {l : List (List Int)} {k : Nat} {z : List Int} (h : l[k]? = some z) : l.take (k + 1) = l.take k ++ [z] := by rw [List.take_add_one, h]; rfl
theorem tot_take' {l : List (List Int)} {k : Nat} {z : List Int} (h : l[k]? = some z) : tot (l.take (k + 1)) = tot (l.take k) + z.length := by rw [take_snoc_r h, tot_snoc]
theorem tot_take_le (l : List (List Int)) (k : Nat) : tot (l.take k) ≤ tot l := by
  have this : ∀ a b : List (List Int), tot (a ++ b) = tot a + tot b := fun a b => by simp [tot]
  have h := this (l.take k) (l.drop k)
  rw [List.take_append_drop] at h
  omega
theorem joinAll_take {s : Bool} {l : List (List Int)} {k : Nat} {z : List Int} (h : l[k]? = some z) : joinAll s (l.take (k + 1)) = joinL s (joinAll s (l.take k)) z := by rw [take_snoc_r h, joinAll_snoc]

/-- The flat form: each element raised at once. -/
def flatAll (s : Bool) (L : Nat) : List (List Int) → Nat → List Int
  | [], _ => []
  | z :: l, n => z.map (fun v => v + ((if s then L - n - z.length else n : Nat) : Int)) ++ flatAll s L l (n + z.length)
theorem flatAll_snoc (s : Bool) (L : Nat) : ∀ (l : List (List Int)) (n : Nat) (z : List Int), flatAll s L (l ++ [z]) n = flatAll s L l n ++ z.map (fun v => v + ((if s then L - (n + tot l) - z.length else n + tot l : Nat) : Int))
  | [], n, z => by simp [flatAll, tot]
  | y :: l, n, z => by
    rw [List.cons_append, flatAll, flatAll, flatAll_snoc s L l]
    have e : n + y.length + tot l = n + tot (y :: l) := by simp [tot]; omega
    rw [e, List.append_assoc]
theorem flatAll_more (L m : Nat) : ∀ (l : List (List Int)) (n : Nat), n + tot l ≤ L → flatAll true (L + m) l n = (flatAll true L l n).map (fun v => v + (m : Int))
  | [], _, _ => by simp [flatAll]
  | y :: l, n, h => by
    have h' : n + (y.length + tot l) ≤ L := by simpa [tot] using h
    rw [flatAll, flatAll, flatAll_more L m l _ (by omega), List.map_append, List.map_map]
    congr 1
    refine List.map_congr_left fun v _ => ?_
    simp only [if_true, Function.comp]
    omega
theorem flat_join (s : Bool) (l : List (List Int)) : flatAll s (tot l) l 0 = joinAll s l := by
  have : ∀ (k : Nat), k ≤ l.length → flatAll s (tot (l.take k)) (l.take k) 0 = joinAll s (l.take k) := fun k => by
    induction k with
    | zero => intro _; simp [flatAll, joinAll]
    | succ k ih =>
      intro hk
      obtain ⟨z, hz⟩ : ∃ z, l[k]? = some z := ⟨_, List.getElem?_eq_getElem (by omega)⟩
      rw [joinAll_take hz, ← ih (by omega), tot_take' hz, take_snoc_r hz, flatAll_snoc]
      have hlen : (flatAll s (tot (l.take k)) (l.take k) 0).length = tot (l.take k) := by rw [ih (by omega), joinAll_length]
      cases s with
      | true =>
        rw [flatAll_more _ _ _ _ (by omega)]
        simp only [joinL, if_true]
        congr 1
        have : tot (l.take k) + z.length - (0 + tot (l.take k)) - z.length = 0 := by omega
        rw [this]
        simp
      | false =>
        simp only [joinL, Bool.false_eq_true, if_false, hlen]
        have e : ∀ L L' n, flatAll false L (l.take k) n = flatAll false L' (l.take k) n := fun L L' n => by
          generalize l.take k = m
          induction m generalizing n with
          | nil => rfl
          | cons y m ih => simp only [flatAll, Bool.false_eq_true, if_false]; rw [ih]
        rw [e _ (tot (l.take k)) 0]
        simp
  have h := this l.length (Nat.le_refl _)
  rwa [List.take_length] at h

/-- The greatest of a list and 0. -/
def most (l : List Int) : Int := l.foldl max 0
theorem most_take {l : List Int} {k : Nat} {z : Int} (h : l[k]? = some z) : most (l.take (k + 1)) = max (most (l.take k)) z := by rw [take_snoc_i h]; simp [most]
/-- Where the part that is under way began; the parts that ended. -/
def frm (p : List Int) : Nat → Nat
  | 0 => 0
  | k + 1 => if most (p.take (k + 1)) = (k : Int) + 1 then k + 1 else frm p k
def prt (p : List Int) : Nat → List (List Int)
  | 0 => []
  | k + 1 => if most (p.take (k + 1)) = (k : Int) + 1 then prt p k ++ [patL ((p.drop (frm p k)).take (k + 1 - frm p k))] else prt p k
theorem frm_le (p : List Int) : ∀ k, frm p k ≤ k
  | 0 => Nat.le_refl _
  | k + 1 => by
    rw [frm]
    have := frm_le p k
    split <;> omega
theorem frm_yes {p : List Int} {k : Nat} (h : most (p.take (k + 1)) = (k : Int) + 1) : frm p (k + 1) = k + 1 := by rw [frm, if_pos h]
theorem frm_no {p : List Int} {k : Nat} (h : ¬ most (p.take (k + 1)) = (k : Int) + 1) : frm p (k + 1) = frm p k := by rw [frm, if_neg h]
theorem prt_yes {p : List Int} {k : Nat} (h : most (p.take (k + 1)) = (k : Int) + 1) : prt p (k + 1) = prt p k ++ [patL ((p.drop (frm p k)).take (k + 1 - frm p k))] := by rw [prt, if_pos h]
theorem prt_no {p : List Int} {k : Nat} (h : ¬ most (p.take (k + 1)) = (k : Int) + 1) : prt p (k + 1) = prt p k := by rw [prt, if_neg h]
theorem prt_len (p : List Int) : ∀ k, (prt p k).length ≤ k
  | 0 => Nat.le_refl _
  | k + 1 => by
    rw [prt]
    have := prt_len p k
    split
    · rw [List.length_append]; simp; omega
    · omega
theorem prt_tot (p : List Int) : ∀ k, tot (prt p k) ≤ frm p k
  | 0 => by simp [prt, tot]
  | k + 1 => by
    have h1 := prt_tot p k
    have h2 := frm_le p k
    by_cases h : most (p.take (k + 1)) = (k : Int) + 1
    · rw [prt_yes h, frm_yes h, tot_snoc, patL_length, List.length_take]; omega
    · rw [prt_no h, frm_no h]; exact h1
theorem nodup_cut {p : List Int} (h : p.Nodup) (a b : Nat) : ((p.drop a).take b).Nodup := (List.nodup_iff_pairwise_ne.1 h).sublist ((List.take_sublist _ _).trans (List.drop_sublist _ _)) |> List.nodup_iff_pairwise_ne.2
theorem patOK_cut {p : List Int} (h : isP p = true) (a b : Nat) : patOK ((p.drop a).take b) = true := by
  obtain ⟨h8, _, hn⟩ := isP_true.1 h
  exact patOK_yes (by rw [List.length_take, List.length_drop]; omega) (nodup_cut hn a b)
theorem prt_isP {p : List Int} (h : isP p = true) : ∀ k z, z ∈ prt p k → isP z = true
  | 0, z, hz => by simp [prt] at hz
  | k + 1, z, hz => by
    by_cases hm : most (p.take (k + 1)) = (k : Int) + 1
    · rw [prt_yes hm] at hz
      rcases List.mem_append.1 hz with hz | hz
      · exact prt_isP h k z hz
      · obtain rfl := List.mem_singleton.1 hz
        rw [isP_pat]; exact patOK_cut h _ _
    · rw [prt_no hm] at hz
      exact prt_isP h k z hz
def partsR (p : List Int) : List (List Int) := if isP p then prt p p.length else []
theorem partsR_yes {p : List Int} (h : isP p = true) : partsR p = prt p p.length := by unfold partsR; rw [if_pos h]
theorem partsR_no {p : List Int} (h : isP p = false) : partsR p = [] := by unfold partsR; rw [if_neg (by simp [h])]
theorem partsR_isP {p z : List Int} (hz : z ∈ partsR p) : isP z = true := by
  cases h : isP p with
  | true => rw [partsR_yes h] at hz; exact prt_isP h _ z hz
  | false => rw [partsR_no h] at hz; simp at hz
theorem partsR_small (p : List Int) : (partsR p).length ≤ 8 ∧ tot (partsR p) ≤ 8 := by
  cases h : isP p with
  | true =>
    have := isP_le h
    have := prt_len p p.length
    have := prt_tot p p.length
    have := frm_le p p.length
    rw [partsR_yes h]; omega
  | false => rw [partsR_no h]; simp [tot]
theorem partsR_allP (p : List Int) : allP (partsR p) = true := allP_yes fun _ hz => partsR_isP hz
def skewsR (p : List Int) : List (List Int) := if isP p then (partsR (cplL p)).map cplL else []
theorem skewsR_yes {p : List Int} (h : isP p = true) : skewsR p = (partsR (cplL p)).map cplL := by unfold skewsR; rw [if_pos h]
theorem skewsR_no {p : List Int} (h : isP p = false) : skewsR p = [] := by unfold skewsR; rw [if_neg (by simp [h])]
theorem tot_map_cpl : ∀ l : List (List Int), tot (l.map cplL) = tot l
  | [] => rfl
  | z :: l => by
    have := tot_map_cpl l
    simp only [tot, List.map_cons, List.map_map] at this ⊢
    rw [List.sum_cons, List.sum_cons, this, cplL_length]
theorem skewsR_small (p : List Int) : (skewsR p).length ≤ 8 ∧ tot (skewsR p) ≤ 8 := by
  cases h : isP p with
  | true => rw [skewsR_yes h, tot_map_cpl, List.length_map]; exact partsR_small _
  | false => rw [skewsR_no h]; simp [tot]
theorem skewsR_isP {p z : List Int} (hz : z ∈ skewsR p) : isP z = true := by
  cases h : isP p with
  | true =>
    rw [skewsR_yes h] at hz
    obtain ⟨y, hy, rfl⟩ := List.mem_map.1 hz
    exact isP_cpl (partsR_isP hy)
  | false => rw [skewsR_no h] at hz; simp at hz
/-- What is layered. -/
def layer (p : List Int) : Bool := isP p && (partsR p).all fun z => decide (z.reverse = upTo z.length)
theorem layer_no {p : List Int} (h : isP p = false) : layer p = false := by simp [layer, h]
theorem layer_at {p z : List Int} (hz : z ∈ partsR p) (h : z.reverse ≠ upTo z.length) : layer p = false := by
  unfold layer
  rw [Bool.and_eq_false_iff]
  right
  rw [List.all_eq_false]
  exact ⟨z, hz, by simpa using h⟩
theorem layer_yes {p : List Int} (h : isP p = true) (hz : ∀ z ∈ partsR p, z.reverse = upTo z.length) : layer p = true := by
  unfold layer
  rw [h, Bool.true_and, List.all_eq_true]
  exact fun z hz' => by simpa using hz z hz'
/-- A permutation in ascending order is 1, 2, and so on. -/
theorem asc_upTo {l : List Int} (h : isP l = true) (hs : ∀ i, i + 1 < l.length → at0 l i ≤ at0 l (i + 1)) : l = upTo l.length := by
  obtain ⟨_, hr, hn⟩ := isP_true.1 h
  have hlt : ∀ i j, i < j → j < l.length → at0 l i < at0 l j := fun i j => by
    induction j with
    | zero => intro h; omega
    | succ j ih =>
      intro hij hj
      have h1 := hs j hj
      have hne : at0 l j ≠ at0 l (j + 1) := fun e => by
        have := (List.getElem?_inj (i := j) (j := j + 1) (by omega) hn).1 (by rw [at0_some (by omega), at0_some hj, e])
        omega
      by_cases hij' : i = j
      · subst hij'; omega
      · have := ih (by omega) (by omega); omega
  have hlo : ∀ i, i < l.length → (i : Int) + 1 ≤ at0 l i := fun i => by
    induction i with
    | zero => intro hi; have := hr _ (List.mem_of_getElem? (at0_some hi)); omega
    | succ i ih => intro hi; have := ih (by omega); have := hlt i (i + 1) (by omega) hi; omega
  have hhi : ∀ d i, i < l.length → i + d + 1 = l.length → at0 l i ≤ (i : Int) + 1 := fun d => by
    induction d with
    | zero => intro i hi e; have := hr _ (List.mem_of_getElem? (at0_some hi)); omega
    | succ d ih => intro i hi e; have := ih (i + 1) (by omega) (by omega); have := hlt i (i + 1) (by omega) (by omega); omega
  refine List.ext_getElem? fun i => ?_
  by_cases hi : i < l.length
  · rw [at0_some hi]
    have h1 := hlo i hi
    have h2 := hhi (l.length - i - 1) i hi (by omega)
    unfold upTo
    rw [List.getElem?_map, List.getElem?_range hi]
    simp only [Option.map_some]
    congr 1
    omega
  · rw [List.getElem?_eq_none (by omega), List.getElem?_eq_none (by rw [upTo_length]; omega)]
end Go.Proofs.YtplchjeamooliaaGreatDoor


/-
  PLAIN: the parts of a sum, joined, are the sum; no permutation is a sum and a skew sum; parts of a sum of two.
-/

namespace Go.Proofs.YtplchjeamooliaaGreatDoor
set_option maxRecDepth 100000

theorem most_from : ∀ (l : List Int) (a : Int), a ≤ l.foldl max a ∧ (∀ x ∈ l, x ≤ l.foldl max a) ∧ (l.foldl max a = a ∨ l.foldl max a ∈ l)
  | [], a => ⟨Int.le_refl _, fun x hx => by simp at hx, .inl rfl⟩
  | y :: l, a => by
    obtain ⟨h1, h2, h3⟩ := most_from l (max a y)
    rw [List.foldl_cons]
    refine ⟨by omega, fun x hx => ?_, ?_⟩
    · rcases List.mem_cons.1 hx with rfl | hx
      · omega
      · exact h2 x hx
    · rcases h3 with h3 | h3
      · by_cases h : a ≤ y
        · right; rw [h3, show max a y = y by omega]; simp
        · left; rw [h3]; omega
      · exact .inr (List.mem_cons_of_mem _ h3)
theorem le_most {l : List Int} {x : Int} (h : x ∈ l) : x ≤ most l := (most_from l 0).2.1 x h
theorem most_mem {l : List Int} : most l = 0 ∨ most l ∈ l := (most_from l 0).2.2
theorem most_isP {p : List Int} (h : isP p = true) : most p = p.length := by
  obtain ⟨_, hr, hn⟩ := isP_true.1 h
  have h1 : most p ≤ p.length := by
    rcases most_mem (l := p) with e | e
    · omega
    · exact (hr _ e).2
  by_cases h0 : p.length = 0
  · have := (most_from p 0).1; unfold most; unfold most at h1; omega
  · have h2 := (nodup_iff_all hr).1 hn (p.length - 1) (by omega)
    have h3 := le_most h2
    omega
/-- At a cut the numbers so far are a permutation. -/
theorem cut_isP {p : List Int} (h : isP p = true) {j : Nat} (hj : j ≤ p.length) (hc : most (p.take j) = j) : isP (p.take j) = true := by
  obtain ⟨h8, hr, hn⟩ := isP_true.1 h
  refine isP_true.2 ⟨by rw [List.length_take]; omega, fun x hx => ?_, ?_⟩
  · rw [List.length_take, Nat.min_eq_left hj]
    exact ⟨(hr x (List.mem_of_mem_take hx)).1, by rw [← hc]; exact le_most hx⟩
  · exact nodup_cut (a := 0) hn (b := j)
theorem cnt_app (a b : List Int) (v : Int) : cnt (a ++ b) v = cnt a v + cnt b v := by unfold cnt; rw [List.filter_append, List.length_append]
theorem cnt_upTo (n : Nat) (v : Int) (h1 : 1 ≤ v) (h2 : v ≤ n) : (cnt (upTo n) v : Int) = v - 1 := by
  have : ∀ k : Nat, (cnt (upTo k) v : Int) = min (v - 1) k := fun k => by
    induction k with
    | zero =>
      have : cnt (upTo 0) v = 0 := rfl
      rw [this]; omega
    | succ k ih =>
      rw [upTo_step, cnt_snoc]
      by_cases h : (k : Int) + 1 < v
      · rw [if_pos h]; omega
      · rw [if_neg h]; omega
  rw [this n]; omega
theorem perm_upTo {l : List Int} (h : isP l = true) : l.Perm (upTo l.length) := by
  obtain ⟨_, hr, hn⟩ := isP_true.1 h
  refine (List.perm_ext_iff_of_nodup hn (upTo_nodup _)).2 fun x => ⟨fun hx => mem_upTo.2 (hr x hx), fun hx => ?_⟩
  obtain ⟨h1, h2⟩ := mem_upTo.1 hx
  have := (nodup_iff_all hr).1 hn (x - 1).toNat (by omega)
  rwa [show (((x - 1).toNat : Nat) : Int) + 1 = x by omega] at this
theorem cnt_isP {l : List Int} (h : isP l = true) {v : Int} (hv : v ∈ l) : (cnt l v : Int) = v - 1 := by
  obtain ⟨h1, h2⟩ := (isP_true.1 h).2.1 v hv
  have e : cnt l v = cnt (upTo l.length) v := by unfold cnt; exact ((perm_upTo h).filter _).length_eq
  rw [e]
  exact cnt_upTo _ _ h1 h2
theorem cnt_all {l : List Int} {v : Int} (h : ∀ x ∈ l, x < v) : cnt l v = l.length := by
  unfold cnt
  rw [List.filter_eq_self.2 (fun x hx => by simpa using h x hx)]
/-- The pattern of a part, raised to where it began, is the part. -/
theorem part_back {p : List Int} (h : isP p = true) {f k : Nat} (hfk : f ≤ k) (hk : k < p.length) (hf : most (p.take f) = f) (hc : most (p.take (k + 1)) = (k : Int) + 1) :
    (patL ((p.drop f).take (k + 1 - f))).map (fun v => v + (f : Int)) = (p.drop f).take (k + 1 - f) := by
  obtain ⟨seg, hseg⟩ : ∃ seg, seg = (p.drop f).take (k + 1 - f) := ⟨_, rfl⟩
  rw [← hseg]
  have hsplit : p.take (k + 1) = p.take f ++ seg := by
    rw [hseg, ← List.drop_take, show p.take f = (p.take (k + 1)).take f by rw [List.take_take, Nat.min_eq_left (by omega)], List.take_append_drop]
  have h1 := cut_isP h (j := f) (by omega) hf
  have h2 := cut_isP h (j := k + 1) (by omega) (by rw [hc]; omega)
  have hn := (isP_true.1 h2).2.2
  rw [hsplit] at hn
  have hdis := (List.nodup_append.1 hn).2.2
  unfold patL
  rw [List.map_map]
  refine (List.map_congr_left fun v hv => ?_).trans (List.map_id _)
  simp only [Function.comp, id]
  have hv2 : v ∈ p.take (k + 1) := by rw [hsplit]; exact List.mem_append_right _ hv
  have e1 := cnt_isP h2 hv2
  rw [hsplit, cnt_app] at e1
  have hfl : (p.take f).length = f := by rw [List.length_take]; omega
  have hbig : ∀ x ∈ p.take f, x < v := fun x hx => by
    have hxf := (isP_true.1 h1).2.1 x hx
    rw [hfl] at hxf
    have hvpos := ((isP_true.1 h2).2.1 v hv2).1
    by_cases hvf : v ≤ (f : Int)
    · have hin := (nodup_iff_all (isP_true.1 h1).2.1).1 (isP_true.1 h1).2.2 (v - 1).toNat (by rw [hfl]; omega)
      rw [show (((v - 1).toNat : Nat) : Int) + 1 = v by omega] at hin
      exact absurd rfl (hdis v hin v hv)
    · omega
  rw [cnt_all hbig, hfl] at e1
  omega
theorem prt_cut {p : List Int} (h : isP p = true) : ∀ k, k ≤ p.length → most (p.take (frm p k)) = (frm p k : Int) ∧ joinAll false (prt p k) = p.take (frm p k)
  | 0, _ => by simp [frm, prt, most, joinAll]
  | k + 1, hk => by
    obtain ⟨h1, h2⟩ := prt_cut h k (by omega)
    by_cases hc : most (p.take (k + 1)) = (k : Int) + 1
    · rw [frm_yes hc, prt_yes hc]
      refine ⟨by rw [hc]; omega, ?_⟩
      rw [joinAll_snoc, h2]
      have hfk := frm_le p k
      have hb := part_back h hfk (by omega) h1 hc
      have hfl : (p.take (frm p k)).length = frm p k := by rw [List.length_take]; omega
      simp only [joinL, Bool.false_eq_true, if_false, hfl]
      rw [hb, ← List.drop_take, show p.take (frm p k) = (p.take (k + 1)).take (frm p k) by rw [List.take_take, Nat.min_eq_left (by omega)], List.take_append_drop]
    · rw [frm_no hc, prt_no hc]
      exact ⟨h1, h2⟩
theorem frm_full {p : List Int} (h : isP p = true) : frm p p.length = p.length := by
  cases hn : p.length with
  | zero => rfl
  | succ n =>
    refine frm_yes ?_
    rw [← hn, List.take_length, most_isP h]; omega
theorem join_parts {p : List Int} (h : isP p = true) : joinAll false (partsR p) = p := by
  rw [partsR_yes h, (prt_cut h p.length (Nat.le_refl _)).2, frm_full h, List.take_length]
theorem parts_fit (p : List Int) : allFit (partsR p) = true := allFit_yes (fun _ hz => partsR_isP hz) (partsR_small p).2
theorem skews_fit (p : List Int) : allFit (skewsR p) = true := allFit_yes (fun _ hz => skewsR_isP hz) (skewsR_small p).2
theorem joins_parts {p : List Int} (h : isP p = true) : joinsR false (partsR p) = p := by rw [joinsR_yes (parts_fit p), join_parts h]
theorem cpl_cpl (p : List Int) : cplL (cplL p) = p := by
  unfold cplL
  rw [List.map_map, List.length_map]
  refine (List.map_congr_left fun v _ => ?_).trans (List.map_id _)
  simp only [Function.comp, id]
  omega
theorem cpl_join (a b : List Int) : joinL true (cplL a) (cplL b) = cplL (joinL false a b) := by
  simp only [joinL, if_true, Bool.false_eq_true, if_false, cplL_length]
  unfold cplL
  rw [List.map_append, List.map_map, List.map_map, List.length_append, List.length_map]
  congr 1
  · refine List.map_congr_left fun v _ => ?_
    simp only [Function.comp]; omega
  · refine List.map_congr_left fun v _ => ?_
    simp only [Function.comp]; omega
theorem cpl_joins (l : List (List Int)) : joinAll true (l.map cplL) = cplL (joinAll false l) := by
  have : ∀ (l : List (List Int)) (a : List Int), (l.map cplL).foldl (joinL true) (cplL a) = cplL (l.foldl (joinL false) a) := fun l => by
    induction l with
    | nil => intro a; rfl
    | cons z l ih => intro a; rw [List.map_cons, List.foldl_cons, List.foldl_cons, cpl_join, ih]
  exact this l []
theorem joins_skews {p : List Int} (h : isP p = true) : joinsR true (skewsR p) = p := by
  rw [joinsR_yes (skews_fit p), skewsR_yes h, cpl_joins, join_parts (isP_cpl h), cpl_cpl]
/-- Two parts: there is a cut in between. -/
theorem cut_between {p : List Int} (h : 1 < (prt p p.length).length) : ∃ j, 0 < j ∧ j < p.length ∧ most (p.take j) = j := by
  have hno : ∀ k, (∀ j, 0 < j → j ≤ k → most (p.take j) ≠ j) → prt p k = [] := fun k => by
    induction k with
    | zero => intro _; rfl
    | succ k ih =>
      intro hk
      have : ¬ most (p.take (k + 1)) = (k : Int) + 1 := fun e => hk (k + 1) (by omega) (Nat.le_refl _) (by rw [e]; omega)
      rw [prt_no this]
      exact ih fun j h1 h2 => hk j h1 (by omega)
  cases hn : p.length with
  | zero => rw [hn] at h; simp [prt] at h
  | succ n =>
    rw [hn] at h
    by_cases hall : ∀ j, 0 < j → j ≤ n → most (p.take j) ≠ j
    · have e := hno n hall
      rw [prt, e] at h
      split at h <;> simp at h
    · have : ∃ j, 0 < j ∧ j ≤ n ∧ most (p.take j) = j := by
        refine Classical.byContradiction fun hc => hall fun j h1 h2 e => hc ⟨j, h1, h2, e⟩
      obtain ⟨j, h1, h2, h3⟩ := this
      exact ⟨j, h1, by omega, h3⟩
theorem not_both {p : List Int} (h1 : 1 < (partsR p).length) (h2 : 1 < (skewsR p).length) : False := by
  cases h : isP p with
  | false => rw [partsR_no h] at h1; simp at h1
  | true =>
    rw [partsR_yes h] at h1
    rw [skewsR_yes h, List.length_map, partsR_yes (isP_cpl h)] at h2
    obtain ⟨j, hj0, hjn, hjc⟩ := cut_between h1
    obtain ⟨i, hi0, hin, hic⟩ := cut_between h2
    rw [cplL_length] at hin
    have a1 := cut_isP h (Nat.le_of_lt hjn) hjc
    have a2 := cut_isP (isP_cpl h) (by rw [cplL_length]; omega) hic
    have lj : (p.take j).length = j := by rw [List.length_take]; omega
    have li : ((cplL p).take i).length = i := by rw [List.length_take, cplL_length]; omega
    have one_j : (1 : Int) ∈ p.take j := by
      have := (nodup_iff_all (isP_true.1 a1).2.1).1 (isP_true.1 a1).2.2 0 (by omega)
      simpa using this
    have top_j : ∀ x ∈ p.take j, x ≤ (j : Int) := fun x hx => by have := ((isP_true.1 a1).2.1 x hx).2; rwa [lj] at this
    have emap : (cplL p).take i = (p.take i).map fun v => (p.length : Int) + 1 - v := by unfold cplL; rw [List.map_take]
    have top_i : (p.length : Int) ∈ p.take i := by
      have := (nodup_iff_all (isP_true.1 a2).2.1).1 (isP_true.1 a2).2.2 0 (by omega)
      rw [emap] at this
      obtain ⟨v, hv, e⟩ := List.mem_map.1 this
      rwa [show v = (p.length : Int) by omega] at hv
    have one_i : (1 : Int) ∉ p.take i := fun hx => by
      have h3 : (p.length : Int) + 1 - 1 ∈ (cplL p).take i := by rw [emap]; exact List.mem_map.2 ⟨1, hx, rfl⟩
      have := ((isP_true.1 a2).2.1 _ h3).2
      rw [li] at this
      omega
    by_cases hij : j ≤ i
    · exact one_i (by rw [show p.take j = (p.take i).take j by rw [List.take_take, Nat.min_eq_left hij]] at one_j; exact List.mem_of_mem_take one_j)
    · have := top_j _ (by rw [show p.take i = (p.take j).take i by rw [List.take_take, Nat.min_eq_left (by omega)]] at top_i; exact List.mem_of_mem_take top_i)
      omega
theorem most_map (c : Int) : ∀ (l : List Int) (a : Int), (l.map fun v => v + c).foldl max (a + c) = l.foldl max a + c
  | [], _ => rfl
  | y :: l, a => by
    rw [List.map_cons, List.foldl_cons, List.foldl_cons, show max (a + c) (y + c) = max a y + c by omega]
    exact most_map c l (max a y)
theorem parts_join {x y : List Int} (h : fit x y = true) : (partsR (joinR false x y)).length = (partsR x).length + (partsR y).length := by
  obtain ⟨hx, hy, _⟩ := fit_all h
  rw [joinR_yes h, partsR_yes (isP_join h), partsR_yes hx, partsR_yes hy, joinL_length]
  have es : joinL false x y = x ++ y.map (fun v => v + (x.length : Int)) := by simp [joinL]
  rw [es]
  obtain ⟨s, hs⟩ : ∃ s, s = x ++ y.map (fun v => v + (x.length : Int)) := ⟨_, rfl⟩
  rw [← hs]
  have h1 : ∀ k, k ≤ x.length → (prt s k).length = (prt x k).length := fun k => by
    induction k with
    | zero => intro _; rfl
    | succ k ih =>
      intro hk
      have e : s.take (k + 1) = x.take (k + 1) := by rw [hs, List.take_append_of_le_length hk]
      rw [prt, prt, e]
      split
      · rw [List.length_append, List.length_append, ih (by omega)]; rfl
      · exact ih (by omega)
  have h2 : ∀ j, j ≤ y.length → (prt s (x.length + j)).length = (prt x x.length).length + (prt y j).length := fun j => by
    induction j with
    | zero => intro _; rw [Nat.add_zero, h1 _ (Nat.le_refl _)]; rfl
    | succ j ih =>
      intro hj
      have e : s.take (x.length + j + 1) = x ++ (y.take (j + 1)).map (fun v => v + (x.length : Int)) := by
        rw [hs, Nat.add_assoc, List.take_append, List.take_of_length_le (by omega), Nat.add_sub_cancel_left, List.map_take]
      have em : most (s.take (x.length + j + 1)) = most (y.take (j + 1)) + (x.length : Int) := by
        rw [e]
        unfold most
        rw [List.foldl_append]
        have h3 : x.foldl max 0 = 0 + (x.length : Int) := by have := most_isP hx; unfold most at this; omega
        rw [h3]
        exact most_map _ _ 0
      rw [← Nat.add_assoc, prt, prt, em]
      by_cases hc : most (y.take (j + 1)) = (j : Int) + 1
      · rw [if_pos hc, if_pos (by rw [hc]; omega), List.length_append, List.length_append, ih (by omega)]
        simp only [List.length_singleton]; omega
      · rw [if_neg hc, if_neg (by omega)]
        exact ih (by omega)
  exact h2 y.length (Nat.le_refl _)
end Go.Proofs.YtplchjeamooliaaGreatDoor
