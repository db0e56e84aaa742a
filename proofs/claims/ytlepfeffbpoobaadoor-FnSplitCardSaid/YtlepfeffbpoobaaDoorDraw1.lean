/-
  THE DRAWS OF CHAPTER 1, by their contracts.
-/
import Derived.Test.YtlepfeffbpoobaaDoorDraw
import Derived.Test.YtlepfeffbpoobaaDoorFmt
namespace Go.Proofs.YtlepfeffbpoobaaDoor
open Go.RowKit

def I64 (v : Value) : Prop := ∃ x : Int, v = .int .i64 x ∧ -9223372036854775808 ≤ x ∧ x ≤ 9223372036854775807
def wholes : List Int := [0, 1, -1, 9, 10, 999999, 1000000, 999999999999, 1000000000000, -999999999999, 9223372036854775807, -9223372036854775808]
theorem wholes_i64 : ∀ z ∈ wholes, -9223372036854775808 ≤ z ∧ z ≤ 9223372036854775807 := by decide

set_option maxRecDepth 100000 in
set_option maxHeartbeats 800000 in
theorem whole_any (B cb : Nat) (w : World) (hc : Cur w B cb) : Calls Tryd.prog 25 #[.pointer (some ⟨cb, 0, none⟩)] w (Drawn B cb w I64) := by
  have H3 := hide (below_any B cb 3 (by omega) w hc)
  have H1 := hide (fun w' hc' => below_any B cb 1000000 (by omega) w' hc')
  have H2 := hide (fun w' hc' => below_any B cb 20 (by omega) w' hc')
  clear hc
  go_enter Tryd.func25, Tryd.ntmps25
  go_wp2_with fail
  refine (unhide H3).mono ?_
  rintro e w1 ⟨v, rfl, ⟨x, rfl, hx0, hx1⟩, hc1, hg1⟩
  rw [if_pos (by omega)] at hx1
  have HC1 := hide hc1
  have HG1 := hide hg1
  clear hc1 hg1 H3
  rcases (show x = 0 ∨ x = 1 ∨ x = 2 by omega) with rfl | rfl | rfl
  · clear hx0 hx1
    have HP := hide (pickInt_any B cb w1.heap.size 12 12 wholes (w1.alloc (.cells (wholes.map (Value.int .i64)).toArray 3)) ((unhide HC1).below ((Below.refl _ _).alloc (Nat.le_refl _) _)) (Blk.new _ _ _) (by have := (unhide HC1).lt; omega) rfl (by omega) (by omega))
    go_wp2_with fail
    refine (unhide HP).mono ?_
    rintro e w2 ⟨v, rfl, ⟨z, hz, rfl⟩, hc2, hg2⟩
    have hzr := wholes_i64 z hz
    have hg3 := grown_then (unhide HG1) (grown_then (World.grownBy_alloc w1 (.cells (wholes.map (Value.int .i64)).toArray 3) (some cb)) hg2)
    have HC2 := hide hc2
    have HG2 := hide hg3
    clear hc2 hg2 hg3 hz HP
    go_wp2
    go_ret
    exact ⟨_, rfl, ⟨_, rfl, hzr.1, hzr.2⟩, unhide HC2, unhide HG2⟩
  · clear hx0 hx1
    go_wp2_with fail
    refine (unhide H1 _ (unhide HC1)).mono ?_
    rintro e w2 ⟨v, rfl, ⟨y, rfl, hy0, hy1⟩, hc2, hg2⟩
    rw [if_pos (by omega)] at hy1
    have HC2 := hide hc2
    have HG2 := hide (grown_then (unhide HG1) hg2)
    clear hc2 hg2
    go_wp2
    go_ret
    exact ⟨_, rfl, ⟨_, rfl, by omega, by omega⟩, unhide HC2, unhide HG2⟩
  · clear hx0 hx1
    go_wp2_with fail
    refine (unhide H2 _ (unhide HC1)).mono ?_
    rintro e w2 ⟨v, rfl, ⟨y, rfl, hy0, hy1⟩, hc2, hg2⟩
    rw [if_pos (by omega)] at hy1
    have HC2 := hide hc2
    have HG2 := hide (grown_then (unhide HG1) hg2)
    clear hc2 hg2
    go_wp2
    go_ret
    exact ⟨_, rfl, ⟨_, rfl, by omega, by omega⟩, unhide HC2, unhide HG2⟩

/-- A draw out of the code: a value, and nothing below has turned. -/
def Drew1 (w : World) (P : Value → Prop) (e : Ending) (w' : World) : Prop := ∃ v, e = .returned v ∧ P v ∧ Below w.heap.size w w'

theorem dfmt_any (A : Option Addr) (n c : Nat) (bs : List UInt8) (w : World) (hr : Reads w w.heap.size A n (u8s bs)) (hn : n ≤ 1048576) :
    Calls Tryd.prog 10 #[.slice A n c] w (Drew1 w I64) := by
  have H := hide (new_any A n c _ bs w hr hn (Nat.le_refl _))
  clear hr hn
  go_enter Tryd.func10, Tryd.ntmps10
  go_wp2_with fail
  refine (unhide H).mono ?_
  rintro e w1 ⟨cb, rfl, hcb, hc1, hb1⟩
  have H2 := hide (whole_any _ cb w1 hc1)
  have HB := hide hb1
  have HL := hide hcb
  clear H hc1 hb1 hcb
  go_wp2_with fail
  refine (unhide H2).mono ?_
  rintro e w2 ⟨v, rfl, ⟨x, rfl, hx0, hx1⟩, hc2, hg2⟩
  have hb2 := (unhide HB).grown hg2 (unhide HB).size (fun k hk => by injection hk with hk; have := unhide HL; omega)
  clear hc2 hg2 H2
  go_wp2
  go_ret
  exact ⟨_, rfl, ⟨_, rfl, hx0, hx1⟩, hb2⟩

def IsStr (v : Value) : Prop := ∃ s : ByteArray, v = .string s ∧ s.size ≤ 1048576
def numerals : List ByteArray := [⟨#[]⟩, ⟨#[48, 48]⟩, ⟨#[48, 49]⟩, ⟨#[45, 49]⟩, ⟨#[43, 49]⟩, ⟨#[120]⟩, ⟨#[57, 57, 57, 57, 57, 57]⟩, ⟨#[49, 48, 48, 48, 48, 48, 48]⟩, ⟨#[45, 48]⟩, ⟨#[45]⟩, ⟨#[32, 49]⟩, ⟨#[49, 32]⟩]
theorem numerals_short : ∀ s ∈ numerals, s.size ≤ 1048576 := by
  intro s hs
  simp only [numerals, List.mem_cons, List.not_mem_nil, or_false] at hs
  rcases hs with rfl | rfl | rfl | rfl | rfl | rfl | rfl | rfl | rfl | rfl | rfl | rfl <;> exact of_decide_eq_true rfl
set_option maxRecDepth 100000 in
set_option maxHeartbeats 800000 in
theorem dnum_any (A : Option Addr) (n c : Nat) (bs : List UInt8) (w : World) (hr : Reads w w.heap.size A n (u8s bs)) (hn : n ≤ 1048576) :
    Calls Tryd.prog 14 #[.slice A n c] w (Drew1 w IsStr) := by
  have H := hide (new_any A n c _ bs w hr hn (Nat.le_refl _))
  clear hr hn
  go_enter Tryd.func14, Tryd.ntmps14
  go_wp2_with fail
  refine (unhide H).mono ?_
  rintro e w1 ⟨cb, rfl, hcb, hc1, hb1⟩
  have H2 := hide (once_any _ cb 2 (by omega) w1 hc1)
  have HB := hide hb1
  have HL := hide hcb
  clear H hc1 hb1 hcb
  go_wp2_with fail
  refine (unhide H2).mono ?_
  rintro e w2 ⟨v, rfl, ⟨b, rfl⟩, hc2, hg2⟩
  have HB2 := hide ((unhide HB).grown hg2 (unhide HB).size (fun k hk => by injection hk with hk; have := unhide HL; omega))
  have HC2 := hide hc2
  clear H2 hg2 hc2 HB
  cases b
  · have HP := hide (pick_any _ cb w2.heap.size 12 12 numerals (w2.alloc (.cells (numerals.map Value.string).toArray 9)) ((unhide HC2).below ((Below.refl _ _).alloc (Nat.le_refl _) _)) (Blk.new _ _ _) (by have := (unhide HC2).lt; omega) rfl (by omega) (by omega))
    go_wp2_with fail
    refine (unhide HP).mono ?_
    rintro e w3 ⟨v, rfl, ⟨s, hs, rfl⟩, hc3, hg3⟩
    have hsz := numerals_short s hs
    have hb3 := ((unhide HB2).alloc (unhide HB2).size (.cells (numerals.map Value.string).toArray 9)).grown hg3 (by have := (unhide HB2).size; simp; omega) (fun k hk => by injection hk with hk; have := unhide HL; omega)
    clear hs hc3 hg3 HP
    go_wp2
    go_ret
    exact ⟨_, rfl, ⟨_, rfl, hsz⟩, hb3⟩
  · have HW := hide (whole_any _ cb w2 (unhide HC2))
    go_wp2_with fail
    refine (unhide HW).mono ?_
    rintro e w3 ⟨v, rfl, ⟨x, rfl, hx0, hx1⟩, hc3, hg3⟩
    have HF := hide (sfmt_any x hx0 hx1 w3)
    have HB3 := hide ((unhide HB2).grown hg3 (unhide HB2).size (fun k hk => by injection hk with hk; have := unhide HL; omega))
    have hlen := Lib.itoa_length_le x hx0 hx1
    clear hc3 hg3 HW
    have HX0 := hide hx0
    have HX1 := hide hx1
    clear hx0 hx1
    go_wp2_with fail
    refine (unhide HF).mono ?_
    rintro e w4 ⟨rfl, hb4⟩
    have hb5 := below_after (unhide HB3) hb4
    clear hb4 HF
    go_wp2
    go_ret
    exact ⟨_, rfl, ⟨_, rfl, by show (Lib.itoa x).toArray.size ≤ 1048576; rw [List.size_toArray]; omega⟩, hb5⟩

def texts6 : List ByteArray := [⟨#[]⟩, ⟨#[97]⟩, ⟨#[97, 44, 98]⟩, ⟨#[44]⟩, ⟨#[97, 44, 44, 98, 44]⟩, ⟨#[97, 10, 98, 10]⟩]
theorem texts6_short : ∀ s ∈ texts6, s.size ≤ 16 := by
  intro s hs
  simp only [texts6, List.mem_cons, List.not_mem_nil, or_false] at hs
  rcases hs with rfl | rfl | rfl | rfl | rfl | rfl <;> exact of_decide_eq_true rfl
def StrByte (v : Value) : Prop := ∃ (s : ByteArray) (b : Int), v = .tuple #[.string s, .int .u8 b] ∧ s.size ≤ 16 ∧ 0 ≤ b ∧ b ≤ 255
set_option maxRecDepth 100000 in
set_option maxHeartbeats 800000 in
theorem dsplit_any (A : Option Addr) (n c : Nat) (bs : List UInt8) (w : World) (hr : Reads w w.heap.size A n (u8s bs)) (hn : n ≤ 1048576) :
    Calls Tryd.prog 17 #[.slice A n c] w (Drew1 w StrByte) := by
  have H := hide (new_any A n c _ bs w hr hn (Nat.le_refl _))
  clear hr hn
  go_enter Tryd.func17, Tryd.ntmps17
  go_wp2_with fail
  refine (unhide H).mono ?_
  rintro e w1 ⟨cb, rfl, hcb, hc1, hb1⟩
  have HB := hide hb1
  have HL := hide hcb
  have HP := hide (pick_any _ cb w1.heap.size 6 6 texts6 (w1.alloc (.cells (texts6.map Value.string).toArray 9)) (hc1.below ((Below.refl _ _).alloc (Nat.le_refl _) _)) (Blk.new _ _ _) (by have := hc1.lt; omega) rfl (by omega) (by omega))
  clear H hc1 hb1 hcb
  go_wp2_with fail
  refine (unhide HP).mono ?_
  rintro e w2 ⟨v, rfl, ⟨s, hs, rfl⟩, hc2, hg2⟩
  have hsz := texts6_short s hs
  have HB2 := hide (((unhide HB).alloc (unhide HB).size (.cells (texts6.map Value.string).toArray 9)).grown hg2 (by have := (unhide HB).size; simp; omega) (fun k hk => by injection hk with hk; have := unhide HL; omega))
  have HI := hide (pickInt_any _ cb w2.heap.size 2 2 [44, 10] (w2.alloc (.cells ([44, 10].map (Value.int .i64)).toArray 3)) (hc2.below ((Below.refl _ _).alloc (Nat.le_refl _) _)) (Blk.new _ _ _) (by have := hc2.lt; omega) rfl (by omega) (by omega))
  clear hs hc2 hg2 HP HB
  go_wp2_with fail
  refine (unhide HI).mono ?_
  rintro e w3 ⟨v, rfl, ⟨z, hz, rfl⟩, hc3, hg3⟩
  have hzr : z = 44 ∨ z = 10 := by simpa using hz
  have hz0 : 0 ≤ z := by omega
  have hz1 : z ≤ 255 := by omega
  have hb3 := ((unhide HB2).alloc (unhide HB2).size (.cells ([44, 10].map (Value.int .i64)).toArray 3)).grown hg3 (by have := (unhide HB2).size; simp; omega) (fun k hk => by injection hk with hk; have := unhide HL; omega)
  clear hz hc3 hg3 HI HB2 hzr
  go_wp2
  go_ret2
  exact ⟨_, rfl, ⟨_, _, rfl, hsz, hz0, hz1⟩, hb3⟩
end Go.Proofs.YtlepfeffbpoobaaDoor
