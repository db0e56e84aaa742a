/-
  For every code the law FnNumbers answers true and leaves its argument as it was.
  Conditions: the variables of Go's library that the row lists hold what the program's text lays (the card ties that).
-/
import Derived.Test.YtlepfeffbpoobaaDoorRead
import Derived.Test.YtlepfeffbpoobaaDoorDraw1
import Derived.Test.YtlepfeffbpoobaaDoorBig
import Derived.Test.YtlepfeffbpoobaaDoorLaid
namespace Go.Proofs.YtlepfeffbpoobaaDoor.fnNumbers
open Go.ChangeShapes Go.WideShapes Go.ChangeAt Go.RowKit

/-- Which integers are parsed, told by their numeral's length. -/
theorem parsed {x : Int} (h0 : -9223372036854775808 ≤ x) (h1 : x ≤ 9223372036854775807) :
    within (-999999999999) 999999999999 (Lib.itoa x) = if (Lib.itoa x).length ≤ 12 ∨ (x < 0 ∧ (Lib.itoa x).length ≤ 13) then some x else none := by
  have hd := digits_le 11 x.natAbs
  have e : (10 : Nat) ^ (11 + 1) = 1000000000000 := by decide
  rw [e] at hd
  have hl : (Lib.itoa x).length = (Lib.decDigits x.natAbs).length + (if x < 0 then 1 else 0) := by
    unfold Lib.itoa
    by_cases hx : x < 0
    · rw [if_pos hx, if_pos hx]; rfl
    · rw [if_neg hx, if_neg hx, show x.toNat = x.natAbs by omega]; rfl
  by_cases hin : x.natAbs < 1000000000000
  · have hd' := hd.2 hin
    rw [if_pos (by by_cases hx : x < 0 <;> simp only [hx, if_true, if_false] at hl <;> omega)]
    exact (within_iff (by omega) (by omega) _ _).2 ⟨by omega, by omega, rfl⟩
  · have hd' : ¬ (Lib.decDigits x.natAbs).length ≤ 11 + 1 := fun h => hin (hd.1 h)
    rw [if_neg (by by_cases hx : x < 0 <;> simp only [hx, if_true, if_false] at hl <;> omega)]
    cases hw : within (-999999999999) 999999999999 (Lib.itoa x) with
    | none => rfl
    | some v =>
      have h := (within_iff (by omega) (by omega) _ _).1 hw
      have h2 : Lib.atoi (Lib.itoa v) = Lib.atoi (Lib.itoa x) := by rw [h.2.2]
      rw [atoi_itoa, atoi_itoa] at h2
      have := Option.some.inj h2
      omega

/-- The second half of the law: what is drawn as a text, both parsers. -/
structure Tail (w : World) : Prop where
  v : Vars w

set_option maxRecDepth 100000 in
set_option maxHeartbeats 3200000 in
theorem walk (A : Option Addr) (n c : Nat) (bs : List UInt8) (w : World) (hr : Reads w w.heap.size A n (u8s bs)) (hn : n ≤ maxLen) (hv : Vars w) :
    Calls Tryd.prog 3 #[.slice A n c] w fun e w' => e = .returned (.bool true) ∧ Below w.heap.size w w' := by
  unfold maxLen at hn
  have HG := hide (big_any A n c hn w)
  by_cases hbig : n ≤ 1048576
  · rw [show decide (1048576 < n) = false from decide_eq_false (by omega)] at HG
    have H1 := hide (dfmt_any A n c bs w hr hbig)
    have HT := hide (fun w' (hb : Below w.heap.size w w') => dnum_any A n c bs w' ((hr.below hb).more hb.size) hbig)
    have HV := hide hv
    clear hr hn hv
    go_enter Tryd.func3, Tryd.ntmps3
    go_wp2_with fail
    refine (unhide HG).mono ?_
    rintro e w0 ⟨rfl, rfl⟩
    clear HG
    go_wp2_with fail
    refine (unhide H1).mono ?_
    rintro e w1 ⟨v, rfl, ⟨x, rfl, hx0, hx1⟩, hb1⟩
    have HB1 := hide hb1
    have H2 := hide (ifmt_any x hx0 hx1 w1 ((unhide HV).below hb1).tab)
    have H4 := hide (fun W => sfmt_any x hx0 hx1 W)
    have HP := hide (parsed hx0 hx1)
    have hlen := Lib.itoa_length_le x hx0 hx1
    have HX0 := hide hx0
    have HX1 := hide hx1
    clear H1 hb1 hx0 hx1
    obtain ⟨l, hl⟩ : ∃ l, l = Lib.itoa x := ⟨_, rfl⟩
    rw [← hl] at H2 hlen HP
    simp only [← hl] at H4
    clear hl
    go_wp2_with fail
    refine (unhide H2).mono ?_
    rintro e w2 ⟨rfl, hb2⟩
    have HB2 := hide (below_after (unhide HB1) hb2)
    clear hb2 H2 HB1
    have H3 := hide (iParseInt_any ⟨l.toArray⟩ (by show l.toArray.size ≤ _; rw [List.size_toArray]; omega) w2 ((unhide HV).below (unhide HB2)))
    have hlt : (⟨l.toArray⟩ : ByteArray).data.toList = l := rfl
    rw [hlt, unhide HP] at H3
    clear hlt HP
    go_wp2_with fail
    refine (unhide H3).mono ?_
    rintro e w3 ⟨rfl, hb3⟩
    have HB3 := hide (below_after (unhide HB2) hb3)
    clear hb3 H3 HB2
    obtain ⟨R, hR⟩ : ∃ R, R = (if l.length ≤ 12 ∨ (x < 0 ∧ l.length ≤ 13) then some x else none) := ⟨_, rfl⟩
    rw [← hR]
    by_cases hx : x < 0
    · by_cases h12 : l.length ≤ 12
      · have h13 : l.length ≤ 13 := by omega
        rw [if_pos (Or.inl h12)] at hR
        subst hR
        simp only [pairOf]
        go_wp2_with fail
        refine (unhide H4 _).mono ?_
        rintro e w4 ⟨rfl, hb4⟩
        have HB4 := hide (below_after (unhide HB3) hb4)
        clear hb4 HB3 H4
        clear HX0 HX1
        go_wp2_with fail
        refine (unhide HT _ (unhide HB4)).mono ?_
        rintro e w5 ⟨v, rfl, ⟨t, rfl, ht⟩, hb5⟩
        have HB5 := hide (below_after (unhide HB4) hb5)
        have H5 := hide (iParseNumber_any t (by omega) w5 ((unhide HV).below (unhide HB5)))
        have H6 := hide (fun W => sParseNumber_any t (by omega) W)
        simp only [read_number] at H6
        obtain ⟨R2, hR2⟩ : ∃ R2, R2 = within 0 999999 t.data.toList := ⟨_, rfl⟩
        rw [← hR2] at H5
        simp only [← hR2] at H6
        clear hb5 HT HB4
        rcases R2 with _ | y
        · clear hR2
          go_wp2_with fail
          refine (unhide H5).mono ?_
          rintro e w6 ⟨rfl, hb6⟩
          have HB6 := hide (below_after (unhide HB5) hb6)
          clear hb6 H5 HB5
          simp only [pairOf]
          go_wp2_with fail
          refine (unhide H6 _).mono ?_
          rintro e w7 ⟨rfl, hb7⟩
          have HB7 := hide (below_after (unhide HB6) hb7)
          clear hb7 H6 HB6
          simp only [pairOf]
          go_wp2
          go_ret
          exact ⟨rfl, unhide HB7⟩
        · obtain ⟨hy0, hy1, hyt⟩ := (within_iff (by omega) (by omega) _ _).1 hR2.symm
          have heq : (Lib.itoa y == t.toList) = true := by rw [toList_data, hyt]; exact beq_self_eq_true _
          clear hR2 hyt
          have HEQ := hide heq
          clear heq
          go_wp2_with fail
          refine (unhide H5).mono ?_
          rintro e w6 ⟨rfl, hb6⟩
          have HB6 := hide (below_after (unhide HB5) hb6)
          clear hb6 H5 HB5
          simp only [pairOf]
          go_wp2_with fail
          refine (unhide H6 _).mono ?_
          rintro e w7 ⟨rfl, hb7⟩
          have HB7 := hide (below_after (unhide HB6) hb7)
          clear hb7 H6 HB6
          simp only [pairOf]
          have H8 := hide (ifmt_any y (by omega) (by omega) w7 ((unhide HV).below (unhide HB7)).tab)
          go_wp2_with fail
          refine (unhide H8).mono ?_
          rintro e w8 ⟨rfl, hb8⟩
          have hb9 := below_after (unhide HB7) hb8
          have heq := unhide HEQ
          clear hb8 H8 HB7
          go_wp2
          go_ret
          exact ⟨rfl, hb9⟩
      · by_cases h13 : l.length ≤ 13
        · rw [if_pos (Or.inr ⟨hx, h13⟩)] at hR
          have hI1 : decide ((l.length : Int) ≤ 12) = false := decide_eq_false (by omega)
          have hI2 : decide ((l.length : Int) ≤ 13) = true := decide_eq_true (by omega)
          subst hR
          simp only [pairOf]
          go_wp2_with fail
          refine (unhide H4 _).mono ?_
          rintro e w4 ⟨rfl, hb4⟩
          have HB4 := hide (below_after (unhide HB3) hb4)
          clear hb4 HB3 H4
          clear HX0 HX1
          go_wp2_with fail
          refine (unhide HT _ (unhide HB4)).mono ?_
          rintro e w5 ⟨v, rfl, ⟨t, rfl, ht⟩, hb5⟩
          have HB5 := hide (below_after (unhide HB4) hb5)
          have H5 := hide (iParseNumber_any t (by omega) w5 ((unhide HV).below (unhide HB5)))
          have H6 := hide (fun W => sParseNumber_any t (by omega) W)
          simp only [read_number] at H6
          obtain ⟨R2, hR2⟩ : ∃ R2, R2 = within 0 999999 t.data.toList := ⟨_, rfl⟩
          rw [← hR2] at H5
          simp only [← hR2] at H6
          clear hb5 HT HB4
          rcases R2 with _ | y
          · clear hR2
            go_wp2_with fail
            refine (unhide H5).mono ?_
            rintro e w6 ⟨rfl, hb6⟩
            have HB6 := hide (below_after (unhide HB5) hb6)
            clear hb6 H5 HB5
            simp only [pairOf]
            go_wp2_with fail
            refine (unhide H6 _).mono ?_
            rintro e w7 ⟨rfl, hb7⟩
            have HB7 := hide (below_after (unhide HB6) hb7)
            clear hb7 H6 HB6
            simp only [pairOf]
            go_wp2
            go_ret
            exact ⟨rfl, unhide HB7⟩
          · obtain ⟨hy0, hy1, hyt⟩ := (within_iff (by omega) (by omega) _ _).1 hR2.symm
            have heq : (Lib.itoa y == t.toList) = true := by rw [toList_data, hyt]; exact beq_self_eq_true _
            clear hR2 hyt
            have HEQ := hide heq
            clear heq
            go_wp2_with fail
            refine (unhide H5).mono ?_
            rintro e w6 ⟨rfl, hb6⟩
            have HB6 := hide (below_after (unhide HB5) hb6)
            clear hb6 H5 HB5
            simp only [pairOf]
            go_wp2_with fail
            refine (unhide H6 _).mono ?_
            rintro e w7 ⟨rfl, hb7⟩
            have HB7 := hide (below_after (unhide HB6) hb7)
            clear hb7 H6 HB6
            simp only [pairOf]
            have H8 := hide (ifmt_any y (by omega) (by omega) w7 ((unhide HV).below (unhide HB7)).tab)
            go_wp2_with fail
            refine (unhide H8).mono ?_
            rintro e w8 ⟨rfl, hb8⟩
            have hb9 := below_after (unhide HB7) hb8
            have heq := unhide HEQ
            clear hb8 H8 HB7
            go_wp2
            go_ret
            exact ⟨rfl, hb9⟩
        · rw [if_neg (by omega)] at hR
          subst hR
          simp only [pairOf]
          go_wp2_with fail
          refine (unhide H4 _).mono ?_
          rintro e w4 ⟨rfl, hb4⟩
          have HB4 := hide (below_after (unhide HB3) hb4)
          clear hb4 HB3 H4
          clear HX0 HX1
          go_wp2_with fail
          refine (unhide HT _ (unhide HB4)).mono ?_
          rintro e w5 ⟨v, rfl, ⟨t, rfl, ht⟩, hb5⟩
          have HB5 := hide (below_after (unhide HB4) hb5)
          have H5 := hide (iParseNumber_any t (by omega) w5 ((unhide HV).below (unhide HB5)))
          have H6 := hide (fun W => sParseNumber_any t (by omega) W)
          simp only [read_number] at H6
          obtain ⟨R2, hR2⟩ : ∃ R2, R2 = within 0 999999 t.data.toList := ⟨_, rfl⟩
          rw [← hR2] at H5
          simp only [← hR2] at H6
          clear hb5 HT HB4
          rcases R2 with _ | y
          · clear hR2
            go_wp2_with fail
            refine (unhide H5).mono ?_
            rintro e w6 ⟨rfl, hb6⟩
            have HB6 := hide (below_after (unhide HB5) hb6)
            clear hb6 H5 HB5
            simp only [pairOf]
            go_wp2_with fail
            refine (unhide H6 _).mono ?_
            rintro e w7 ⟨rfl, hb7⟩
            have HB7 := hide (below_after (unhide HB6) hb7)
            clear hb7 H6 HB6
            simp only [pairOf]
            go_wp2
            go_ret
            exact ⟨rfl, unhide HB7⟩
          · obtain ⟨hy0, hy1, hyt⟩ := (within_iff (by omega) (by omega) _ _).1 hR2.symm
            have heq : (Lib.itoa y == t.toList) = true := by rw [toList_data, hyt]; exact beq_self_eq_true _
            clear hR2 hyt
            have HEQ := hide heq
            clear heq
            go_wp2_with fail
            refine (unhide H5).mono ?_
            rintro e w6 ⟨rfl, hb6⟩
            have HB6 := hide (below_after (unhide HB5) hb6)
            clear hb6 H5 HB5
            simp only [pairOf]
            go_wp2_with fail
            refine (unhide H6 _).mono ?_
            rintro e w7 ⟨rfl, hb7⟩
            have HB7 := hide (below_after (unhide HB6) hb7)
            clear hb7 H6 HB6
            simp only [pairOf]
            have H8 := hide (ifmt_any y (by omega) (by omega) w7 ((unhide HV).below (unhide HB7)).tab)
            go_wp2_with fail
            refine (unhide H8).mono ?_
            rintro e w8 ⟨rfl, hb8⟩
            have hb9 := below_after (unhide HB7) hb8
            have heq := unhide HEQ
            clear hb8 H8 HB7
            go_wp2
            go_ret
            exact ⟨rfl, hb9⟩
    · by_cases h12 : l.length ≤ 12
      · rw [if_pos (Or.inl h12)] at hR
        subst hR
        simp only [pairOf]
        go_wp2_with fail
        refine (unhide H4 _).mono ?_
        rintro e w4 ⟨rfl, hb4⟩
        have HB4 := hide (below_after (unhide HB3) hb4)
        clear hb4 HB3 H4
        clear HX0 HX1
        go_wp2_with fail
        refine (unhide HT _ (unhide HB4)).mono ?_
        rintro e w5 ⟨v, rfl, ⟨t, rfl, ht⟩, hb5⟩
        have HB5 := hide (below_after (unhide HB4) hb5)
        have H5 := hide (iParseNumber_any t (by omega) w5 ((unhide HV).below (unhide HB5)))
        have H6 := hide (fun W => sParseNumber_any t (by omega) W)
        simp only [read_number] at H6
        obtain ⟨R2, hR2⟩ : ∃ R2, R2 = within 0 999999 t.data.toList := ⟨_, rfl⟩
        rw [← hR2] at H5
        simp only [← hR2] at H6
        clear hb5 HT HB4
        rcases R2 with _ | y
        · clear hR2
          go_wp2_with fail
          refine (unhide H5).mono ?_
          rintro e w6 ⟨rfl, hb6⟩
          have HB6 := hide (below_after (unhide HB5) hb6)
          clear hb6 H5 HB5
          simp only [pairOf]
          go_wp2_with fail
          refine (unhide H6 _).mono ?_
          rintro e w7 ⟨rfl, hb7⟩
          have HB7 := hide (below_after (unhide HB6) hb7)
          clear hb7 H6 HB6
          simp only [pairOf]
          go_wp2
          go_ret
          exact ⟨rfl, unhide HB7⟩
        · obtain ⟨hy0, hy1, hyt⟩ := (within_iff (by omega) (by omega) _ _).1 hR2.symm
          have heq : (Lib.itoa y == t.toList) = true := by rw [toList_data, hyt]; exact beq_self_eq_true _
          clear hR2 hyt
          have HEQ := hide heq
          clear heq
          go_wp2_with fail
          refine (unhide H5).mono ?_
          rintro e w6 ⟨rfl, hb6⟩
          have HB6 := hide (below_after (unhide HB5) hb6)
          clear hb6 H5 HB5
          simp only [pairOf]
          go_wp2_with fail
          refine (unhide H6 _).mono ?_
          rintro e w7 ⟨rfl, hb7⟩
          have HB7 := hide (below_after (unhide HB6) hb7)
          clear hb7 H6 HB6
          simp only [pairOf]
          have H8 := hide (ifmt_any y (by omega) (by omega) w7 ((unhide HV).below (unhide HB7)).tab)
          go_wp2_with fail
          refine (unhide H8).mono ?_
          rintro e w8 ⟨rfl, hb8⟩
          have hb9 := below_after (unhide HB7) hb8
          have heq := unhide HEQ
          clear hb8 H8 HB7
          go_wp2
          go_ret
          exact ⟨rfl, hb9⟩
      · rw [if_neg (by omega)] at hR
        subst hR
        simp only [pairOf]
        go_wp2_with fail
        refine (unhide H4 _).mono ?_
        rintro e w4 ⟨rfl, hb4⟩
        have HB4 := hide (below_after (unhide HB3) hb4)
        clear hb4 HB3 H4
        clear HX0 HX1
        go_wp2_with fail
        refine (unhide HT _ (unhide HB4)).mono ?_
        rintro e w5 ⟨v, rfl, ⟨t, rfl, ht⟩, hb5⟩
        have HB5 := hide (below_after (unhide HB4) hb5)
        have H5 := hide (iParseNumber_any t (by omega) w5 ((unhide HV).below (unhide HB5)))
        have H6 := hide (fun W => sParseNumber_any t (by omega) W)
        simp only [read_number] at H6
        obtain ⟨R2, hR2⟩ : ∃ R2, R2 = within 0 999999 t.data.toList := ⟨_, rfl⟩
        rw [← hR2] at H5
        simp only [← hR2] at H6
        clear hb5 HT HB4
        rcases R2 with _ | y
        · clear hR2
          go_wp2_with fail
          refine (unhide H5).mono ?_
          rintro e w6 ⟨rfl, hb6⟩
          have HB6 := hide (below_after (unhide HB5) hb6)
          clear hb6 H5 HB5
          simp only [pairOf]
          go_wp2_with fail
          refine (unhide H6 _).mono ?_
          rintro e w7 ⟨rfl, hb7⟩
          have HB7 := hide (below_after (unhide HB6) hb7)
          clear hb7 H6 HB6
          simp only [pairOf]
          go_wp2
          go_ret
          exact ⟨rfl, unhide HB7⟩
        · obtain ⟨hy0, hy1, hyt⟩ := (within_iff (by omega) (by omega) _ _).1 hR2.symm
          have heq : (Lib.itoa y == t.toList) = true := by rw [toList_data, hyt]; exact beq_self_eq_true _
          clear hR2 hyt
          have HEQ := hide heq
          clear heq
          go_wp2_with fail
          refine (unhide H5).mono ?_
          rintro e w6 ⟨rfl, hb6⟩
          have HB6 := hide (below_after (unhide HB5) hb6)
          clear hb6 H5 HB5
          simp only [pairOf]
          go_wp2_with fail
          refine (unhide H6 _).mono ?_
          rintro e w7 ⟨rfl, hb7⟩
          have HB7 := hide (below_after (unhide HB6) hb7)
          clear hb7 H6 HB6
          simp only [pairOf]
          have H8 := hide (ifmt_any y (by omega) (by omega) w7 ((unhide HV).below (unhide HB7)).tab)
          go_wp2_with fail
          refine (unhide H8).mono ?_
          rintro e w8 ⟨rfl, hb8⟩
          have hb9 := below_after (unhide HB7) hb8
          have heq := unhide HEQ
          clear hb8 H8 HB7
          go_wp2
          go_ret
          exact ⟨rfl, hb9⟩
  · rw [show decide (1048576 < n) = true from decide_eq_true (by omega)] at HG
    clear hr hn hv
    go_enter Tryd.func3, Tryd.ntmps3
    go_wp2_with fail
    refine (unhide HG).mono ?_
    rintro e w0 ⟨rfl, rfl⟩
    go_wp2
    go_ret
    exact ⟨rfl, Below.refl _ _⟩
theorem params_ok : ∀ t ∈ (#[22] : Array TypeId).toList, Tryd.prog.readableRec t = true ∧ t < Tryd.prog.types.size := by
  intro t ht
  simp only [List.mem_cons, List.not_mem_nil, or_false] at ht
  subst ht
  exact ⟨by kernel_rfl, of_decide_eq_true (by kernel_rfl)⟩

set_option maxRecDepth 100000 in
/-- WHAT THE WALK GIVES, FOR EVERY ARGUMENT. -/
theorem contract (H : Type) (enc : TypeId × Value → H) (W : World) (base : Nat) (args : Array Value) (ds gs : List (DataW H)) (before : List MemPlace)
    (hval : ∀ (j : Nat) t v, Tryd.f3.params[j]? = some t → args[j]? = some v → Value.okWide Tryd.prog W .any base t v)
    (hW : DataW.Whole enc Tryd.prog Tryd.f3.params.toList Rows.fnNumbersSpec.vars false W args.toList ds gs before) (hL : laidMetH Tryd.prog Rows.fnNumbersRow.laid W) :
    Calls Tryd.prog 3 args W fun e W' => ∃ v, e = .returned v ∧ Rows.fnNumbersSpec.post enc Tryd.prog Tryd.f3 false true false false W args v W' := by
  have hW' := hW
  obtain ⟨p, q, hA0, hV, rfl, hfz, hnd⟩ := hW
  have hA : DataW.TrodAll enc Tryd.prog W 0 (fun _ => true) true Tryd.f3.params.toList args.toList ds p := hA0
  rw [Tryd.params3] at hA hval
  obtain ⟨v0, d0, rfl, rfl, h0⟩ := trodAll_one hA
  obtain ⟨rfl, rfl⟩ := trodVars_none hV
  obtain ⟨Abs, nbs, cbs, bs, rfl, hrbs, hnbs⟩ := open_bytes_reads Tryd.underlying22 Tryd.underlying5 cellsByte (hval 0 22 v0 rfl rfl) h0 (fun x hx => by simpa using hW'.lt x (by simp [hx]))
  have hL' : laidMet Tryd.prog Rows.fnNumbersRow.laid W := hL
  refine (walk Abs nbs cbs bs W hrbs hnbs ⟨pow_of_laid hL'.tail.tail, syn_of_laid hL'.tail.tail.tail.tail, rng_of_laid hL'.tail.tail.tail⟩).mono fun e W' ⟨he, hb⟩ => ?_
  subst he
  exact ⟨_, rfl, law_end laidOut (by rw [Tryd.params3]; exact params_ok) Tryd.underlying4 rfl rfl hW' rfl hb⟩

set_option maxRecDepth 100000 in
theorem laid_met (os : Os) : laidMet Tryd.prog Rows.fnNumbersRow.laid ((laidWorld5 os).forCall (fun _ _ => 0) ⟨#[], #[.slice none 0 0], []⟩).memory :=
  laidMet_of_run' 8 (by kernel_rfl) (by kernel_rfl)
set_option maxRecDepth 100000 in
theorem reads (os : Os) {H : Type} (enc : TypeId × Value → H) : ∃ places, DataW.whole enc Tryd.prog ((laidWorld5 os).forCall (fun _ _ => 0) ⟨#[], #[.slice none 0 0], []⟩).memory Tryd.f3.params.toList Rows.fnNumbersSpec.vars false #[Value.slice none 0 0].toList 8 = some ([.nil], [], places) :=
  ⟨[], by kernel_rfl⟩

set_option maxRecDepth 100000 in
theorem lifted (os : Os) (started : os.Started) (H : Type) (enc : TypeId × Value → H) (F : Stop.Interp) :
    ReturnsInHanded {} Tryd.checked os 3 .any ((OpenSpec.ofChange Rows.fnNumbersSpec).preRow enc Tryd.prog Tryd.f3 Rows.fnNumbersRow.domain false Rows.fnNumbersRow.laid) (((OpenSpec.ofChange Rows.fnNumbersSpec).at F).post enc Tryd.prog Tryd.f3 false true false false) := by
  obtain ⟨places, hx⟩ := reads os enc
  refine returnsInHanded_of_row (C := Tryd.checked) (s := OpenSpec.ofChange Rows.fnNumbersSpec) own started (by kernel_rfl) Tryd.func3
    (witness_row_atRef (enc := enc) (C := Tryd.checked) false (laidWorld5 os) #[.slice none 0 0] rfl (by kernel_rfl) (by kernel_rfl) (by kernel_rfl)
      (OpenSpec.preRow_of_cond 8 hx (by kernel_rfl) (fun k hk => by cases hk) (by kernel_rfl) (laid_met os))) ?_
  intro W base args ds gs before hval hW _ _ _ hL _ _
  exact contract H enc W base args ds gs before hval hW hL

theorem said : Rows.FnNumbersSaid :=
  OpenClaim.holds_of_cond 3 Tryd.f3 rfl rfl rfl rfl rfl rfl rfl ⟨rfl, rfl, rfl, rfl, rfl⟩ rfl rfl rfl rfl rfl (by kernel_rfl) Tryd.func3 (by kernel_rfl)
    (of_decide_eq_true (by kernel_rfl)) (by unfold Func.isWrapper; first | (rw [if_pos (by decide +kernel)]; kernel_rfl) | (rw [if_neg (by decide +kernel)]; exact ⟨rfl, rfl⟩))
    (fun os started H enc _ F => by rw [OpenClaim.pre_eq_preRow]; exact lifted os started H enc F)

theorem plain (f : FuncId) (fn : Func) (hf : Tryd.pinned.checked.prog.funcNamed "loop.example/g03101/laws.FnNumbers" = some f) (hfn : Tryd.pinned.checked.prog.funcs[f]? = some fn) :
    true = Tryd.pinned.checked.prog.looks [] ∧ ∀ (j : Nat) t, fn.params[j]? = some t → Tryd.pinned.checked.prog.wantsStandIn t = false := by
  obtain rfl : f = 3 := Option.some.inj ((show Tryd.prog.funcNamed "loop.example/g03101/laws.FnNumbers" = some 3 by kernel_rfl).symm.trans hf) |>.symm
  obtain rfl : fn = Tryd.f3 := (Option.some.inj (Tryd.func3.symm.trans hfn)).symm
  refine ⟨by kernel_rfl, fun j t ht => ?_⟩
  rw [Tryd.params3] at ht
  obtain rfl : t = 22 := by simpa using Array.mem_of_getElem? ht
  exact (show Tryd.prog.wantsStandIn 22 = false by kernel_rfl)

theorem card : Rows.FnNumbersCardSaid :=
  Claim7.holds_tied_plain_at .later [] _ _ _ _ said (fun _ h => by cases h) (by kernel_rfl) (fun _ h => by cases h) fnNumbers_row_tie rfl ⟨rfl, rfl⟩ (by kernel_rfl) rfl plain (by kernel_rfl)
end Go.Proofs.YtlepfeffbpoobaaDoor.fnNumbers
