/-
  Words and contracts that the laws lean on, bundled: MeshS, MeshT, Fresh, InfP, MarkS, InfG, End, IntsA, OpenC.
-/
import Derived.Test.YtcoegjhhhnfplaaB2
import Derived.Test.YtcoegjhhhnfplaaB3
import Derived.Test.YtcoegjhhhnfplaaB4
import Derived.BigQuiet
import Derived.Test.YtcoegjhhhnfplaaRows
import Derived.ProofKit
import Derived.OpenShut
import Derived.Carry
import Derived.SliceStrings
import Derived.LaidMore
import Derived.Lib.SmallJoins

/-
  spec.l9Box, spec.l9Fits, spec.l9Count, by their contracts.
-/

namespace Go.Proofs.Ytcoegjhhhnfplaa
set_option maxRecDepth 100000
open Go.RowKit

theorem cnt_step {l : List Int} {k : Nat} {z v : Int} (h : l[k]? = some z) : ((cnt (l.take k) v : Nat) : Int) + bitI (decide (z < v)) = (cnt (l.take (k + 1)) v : Nat) := by
  rw [take_snoc_i h, cnt_snoc]
  by_cases e : z < v
  · rw [decide_eq_true e, if_pos e]; simp [bitI]
  · rw [decide_eq_false e, if_neg e]; simp [bitI]
theorem Ints.lit (w : World) (B : Nat) (hB : B ≤ w.heap.size) (l : List Int) (hl : l.length ≤ 1048576) : Ints (w.alloc (.cells (arr l) 3)) B (.slice (some ⟨w.heap.size, 0, none⟩) l.length l.length) l :=
  Ints.of_own (by
    have := World.ownsRow_lit (base := B) (e := 3) (size := 1) w (arr l) l.length hB (by unfold maxLen; omega) (by rw [arr_size]; omega)
    rwa [show (arr l).toList = i64s l from rfl] at this)
theorem bit_range (b : Bool) : 0 ≤ bitI b ∧ bitI b ≤ 1 := by cases b <;> simp [bitI]
set_option maxHeartbeats 800000 in
theorem l9box_any (A A' : Option Addr) (n c B m d B' : Nat) (p pl : List Int) (i : Nat) (w : World) (h : Arg w B A n c p) (h' : Arg w B' A' m d pl) (hok : PlOK n pl) (hi : i < n) (hn8 : n ≤ 8) :
    Calls Try.prog 117 #[.slice A n c, .slice A' m d, .int .i64 ((i : Int) + 1)] w (GivesI w (boxAt p pl i)) := by
  have hl := h.len
  have hl' := h'.len
  have hr := h.reads
  have hr' := h'.reads
  have hm := h'.le
  obtain ⟨ad0, u0, rfl, _, hu0, hc0⟩ := hr.at_ hi
  obtain ⟨v, hv, rfl⟩ := i64_at hu0
  have ev : at0 p i = v := at0_of hv
  have HB1 := hide (fun (x : Int) w' => bit_any (decide (x < (i : Int) + 1)) w')
  have HB2 := hide (fun (x : Int) w' => bit_any (decide (x < v)) w')
  have HPL := hide (fun k x (hx : pl[k]? = some x) => hok.1 x (List.mem_of_getElem? hx))
  have HS := hide (fun k x (hx : p[k]? = some x) => h.small x (List.mem_of_getElem? hx))
  have hvs := h.small v (List.mem_of_getElem? hv)
  have HL := hide (⟨hl, hl'⟩ : p.length = n ∧ pl.length = m)
  have HE := hide ev
  obtain ⟨NP, hNP⟩ : ∃ NP, NP = nums p pl := ⟨_, rfl⟩
  have HNP := hide hNP
  have hml : m ≤ 1048576 := hm
  clear h h' hok hl hl' hu0 hv ev hNP
  go_enter Try.func117, Try.ntmps117
  go_wp2
  go_loopw [7, 8, 9] (fun x y k wr => ∃ j : Nat, j ≤ m ∧ k = .int .i64 j ∧ x = .int .i64 (cnt (pl.take j) ((i : Int) + 1) : Nat) ∧ y = .int .i64 (cnt (NP.take j) v : Nat) ∧ Drew w wr) (fun _ _ k _ => m - (intOf k).toNat)
  case atStart => exact ⟨0, Nat.zero_le _, rfl, rfl, rfl, Drew.refl _⟩
  case round =>
    obtain ⟨j, hj, rfl, rfl, rfl, hd⟩ := hrel
    have c1 : cnt (pl.take j) ((i : Int) + 1) ≤ j := Nat.le_trans (cnt_le _ _) (List.length_take_le _ _)
    have c2 : cnt (NP.take j) v ≤ j := Nat.le_trans (cnt_le _ _) (List.length_take_le _ _)
    by_cases hlt : j < m
    · obtain ⟨ad, u, rfl, _, hu, hc⟩ := (hr'.ofDrew hd).at_ hlt
      obtain ⟨z, hz, rfl⟩ := i64_at hu
      have hzr := unhide HPL j z hz
      obtain ⟨ad1, u1, hA1, _, hu1, hc1⟩ := (hr.ofDrew hd).at_ (show z.toNat - 1 < n by omega)
      obtain rfl : ad0 = ad1 := by injection hA1
      obtain ⟨y, hy, rfl⟩ := i64_at hu1
      have hys := unhide HS _ y hy
      have hnp : NP[j]? = some y := by
        rw [unhide HNP, show (nums p pl)[j]? = some (at0 (nums p pl) j) from at0_some (by rw [nums_length]; have := (unhide HL).2; omega), nums_at0 (by have := (unhide HL).2; omega), show at0 pl j = z from at0_of hz, at0_of hy]
      have s1 := cnt_step (v := (i : Int) + 1) hz
      have s2 := cnt_step (v := v) hnp
      have r1 := bit_range (decide (z < (i : Int) + 1))
      have r2 := bit_range (decide (y < v))
      have H1 := hide (unhide HB1 z)
      have H2 := hide (unhide HB2 y)
      obtain ⟨b1, hb1⟩ : ∃ b, b = bitI (decide (z < (i : Int) + 1)) := ⟨_, rfl⟩
      obtain ⟨b2, hb2⟩ : ∃ b, b = bitI (decide (y < v)) := ⟨_, rfl⟩
      rw [← hb1] at s1 r1 H1
      rw [← hb2] at s2 r2 H2
      have hw1 : IntKind.i64.wrap (z - 1) = z - 1 := by rw [IntKind.wrap_i64]; omega
      have hi2 : (z - 1).toNat = z.toNat - 1 := by omega
      have hbd1 : 0 ≤ z - 1 := by omega
      have hbd2 : z - 1 < (n : Int) := by omega
      have hw3 : IntKind.i64.wrap ((i : Int) + 1 - 1) = (i : Int) := by rw [IntKind.wrap_i64]; omega
      have hw4 : IntKind.i64.wrap (i : Int) = (i : Int) := by rw [IntKind.wrap_i64]; omega
      have hbd3 : (0 : Int) ≤ (i : Int) := by omega
      have hbd4 : (i : Int) < (n : Int) := by omega
      have hc0' := (hd.cell (ad0.add i)).trans hc0
      have hwa : IntKind.i64.wrap ((cnt (pl.take j) ((i : Int) + 1) : Nat) + b1) = ((cnt (pl.take j) ((i : Int) + 1) : Nat) : Int) + b1 := by rw [IntKind.wrap_i64]; omega
      have hwb : IntKind.i64.wrap ((cnt (NP.take j) v : Nat) + b2) = ((cnt (NP.take j) v : Nat) : Int) + b2 := by rw [IntKind.wrap_i64]; omega
      have S1 := hide s1
      have S2 := hide s2
      have HD := hide hd
      clear s1 s2 hb1 hb2 hu hu1 hz hy hnp hd hr hr' hzr hA1
      go_wp2_with fail
      refine (unhide H1 _).mono ?_
      rintro e w1 ⟨rfl, hw⟩
      subst hw
      clear H1
      go_wp2
      go_quiet ((go_at_call 64; exact Calls.quiet_of_same (unhide H2 _)))
      go_wp2
      go_roundw
      case rel => exact ⟨j + 1, by omega, by go_num, by rw [unhide S1], by rw [unhide S2], (unhide HD).more _⟩
      case measure => simp [intOf]; omega
    · obtain rfl : j = m := by omega
      have e1 : pl.take j = pl := List.take_of_length_le (Nat.le_of_eq (unhide HL).2)
      have e2 : NP.take j = NP := List.take_of_length_le (by rw [unhide HNP, nums_length]; exact Nat.le_of_eq (unhide HL).2)
      rw [e1, e2]
      rw [e1] at c1
      rw [e2] at c2
      have s1 : ((cnt pl ((i : Int) + 1) : Nat) : Int) = (cnt pl ((i : Int) + 1) : Nat) := rfl
      have HD := hide hd
      clear hd hr hr'
      go_wp2
      go_ret
      have hd := unhide HD
      have hI := Ints.lit wr w.heap.size (Nat.le_of_eq hd.size.symm) [(cnt pl ((i : Int) + 1) : Int), (cnt NP v : Int)] (by simp)
      have e3 : boxAt p pl i = [(cnt pl ((i : Int) + 1) : Int), (cnt NP v : Int)] := by
        unfold boxAt
        rw [unhide HE, unhide HNP]
      rw [e3]
      exact GivesI.mk hI ((hd.below _).alloc (Nat.le_of_eq hd.size.symm) _)
set_option maxHeartbeats 800000 in
theorem l9fits_any (A A' A2 : Option Addr) (n c B m d B' k2 c2 : Nat) (p pl : List Int) (S : List (List Int)) (w : World) (h : Arg w B A n c p) (h' : Arg w B' A' m d pl) (hS : AtS w A2 k2 S) (hk2 : k2 ≤ 1048576) (hok : PlOK n pl) (hn8 : n ≤ 8) :
    Calls Try.prog 94 #[.slice A n c, .slice A' m d, .slice A2 k2 c2] w (GivesB w (fitsM p pl S)) := by
  have hl := h.len
  have H1 := hide (fun (i : Nat) (b : Bool) (hb : decide ((i : Int) + 1 ∈ pl) = b) (w1 : World) (hb1 : Below w.heap.size w w1) => l2has_any A' m d B' pl ((i : Int) + 1) b hb w1 (h'.below hb1).reads (Nat.le_trans h'.le (by decide)))
  have H2 := hide (fun (i : Nat) (hi : i < n) (w1 : World) (hb1 : Below w.heap.size w w1) => l9box_any A A' n c B m d B' p pl i w1 (h.below hb1) (h'.below hb1) hok hi hn8)
  have HX := hide (fun (i : Nat) (hi : i < n) => show Small (boxAt p pl i) from by
    have c1 : cnt pl ((i : Int) + 1) ≤ pl.length := cnt_le _ _
    have c2 : cnt (nums p pl) (at0 p i) ≤ pl.length := Nat.le_trans (cnt_le _ _) (by rw [nums_length]; exact Nat.le_refl _)
    have := h'.le
    have := h'.len
    intro z hz
    unfold boxAt at hz
    simp only [List.mem_cons, List.not_mem_nil, or_false] at hz
    rcases hz with rfl | rfl <;> omega)
  obtain ⟨b, hb⟩ : ∃ b, fitsM p pl S = b := ⟨_, rfl⟩
  rw [hb]
  have HB := hide hb
  have HL := hide hl
  have HS := hide hS
  clear h h' hok hb hl hS
  go_enter Try.func94, Try.ntmps94
  go_wp2
  go_loopw [7, 8, 9] (fun a _ _ wr => ∃ i : Nat, i ≤ n ∧ a = .int .i64 ((i : Int) + 1) ∧ Below w.heap.size w wr ∧ Hid (∀ j, j < i → ¬ (j : Int) + 1 ∈ pl → ¬ boxAt p pl j ∈ S)) (fun a _ _ _ => n + 1 - (intOf a).toNat)
  case atStart => exact ⟨0, Nat.zero_le _, rfl, Below.refl _ _, fun j hj => absurd hj (Nat.not_lt_zero _)⟩
  case round =>
    obtain ⟨i, hi, rfl, hbr, hs⟩ := hrel
    by_cases hlt : i < n
    · by_cases hm : (i : Int) + 1 ∈ pl
      · have H3 := hide (unhide H1 i true (decide_eq_true hm) _ hbr)
        have hnext : Hid (∀ j, j < i + 1 → ¬ (j : Int) + 1 ∈ pl → ¬ boxAt p pl j ∈ S) := hide (fun j hj hj2 => by
          by_cases e : j = i
          · subst e; exact absurd hm hj2
          · exact unhide hs j (by omega) hj2)
        have HBR := hide hbr
        clear hm hs hbr
        go_wp2_with fail
        refine (unhide H3).mono ?_
        rintro e w1 ⟨rfl, hw⟩
        subst hw
        clear H3
        go_wp2
        go_roundw
        case rel => exact ⟨i + 1, by omega, by go_num, unhide HBR, hnext⟩
        case measure => simp [intOf]; omega
      · have H3 := hide (unhide H1 i false (decide_eq_false hm) _ hbr)
        have H4 := hide (unhide H2 i hlt _ hbr)
        have HM := hide hm
        clear hm
        go_wp2_with fail
        refine (unhide H3).mono ?_
        rintro e w1 ⟨rfl, hw⟩
        subst hw
        clear H3
        go_wp2_with fail
        refine (unhide H4).mono ?_
        rintro e w2 ⟨Ab, cb, rfl, hI, hb2⟩
        have hb2w := below_after hbr hb2
        have HA := hide (fun (wi : World) (hbi : Below w2.heap.size w2 wi) => (hI.arg (by show (2 : Nat) ≤ _; decide) hI.cap (unhide HX i hlt)).below hbi)
        clear H4 hI hb2 hbr
        go_wp2
        go_loopw [9] (fun k wi => ∃ j : Nat, j ≤ k2 ∧ k = .int .i64 j ∧ Below w2.heap.size w2 wi ∧ Hid (¬ boxAt p pl i ∈ S.take j)) (fun k _ => k2 - (intOf k).toNat)
        case atStart => exact ⟨0, Nat.zero_le _, rfl, Below.refl _ _, by show ¬ boxAt p pl i ∈ S.take 0; simp⟩
        case round =>
          obtain ⟨j, hj, rfl, hbi, hsi⟩ := hrel
          by_cases hlt2 : j < k2
          · obtain ⟨ad, Az, cz, z, rfl, hz, hc, hZ⟩ := (unhide HS).2 _ (below_after hb2w hbi) j hlt2
            by_cases hzb : z = boxAt p pl i
            · have H5 := hide (l2same_any Az Ab z.length cz _ _ cb _ z (boxAt p pl i) true (decide_eq_true hzb) _ hZ (unhide HA _ hbi))
              obtain rfl : b = false := by
                refine (unhide HB).symm.trans ?_
                cases hf : fitsM p pl S with
                | false => rfl
                | true => exact absurd (hzb ▸ List.mem_of_getElem? hz) (fitsM_iff.1 hf i (by rw [unhide HL]; exact hlt) (unhide HM))
              clear hz hZ hzb HA HS HX H1 H2
              go_wp2_with fail
              refine (unhide H5).mono ?_
              rintro e w3 ⟨rfl, d3⟩
              have hb3 := below_after (below_after hb2w hbi) (d3.below _)
              clear H5 d3
              go_wp2
              go_ret
              exact ⟨rfl, hb3⟩
            · have H5 := hide (l2same_any Az Ab z.length cz _ _ cb _ z (boxAt p pl i) false (decide_eq_false hzb) _ hZ (unhide HA _ hbi))
              have hnext : Hid (¬ boxAt p pl i ∈ S.take (j + 1)) := hide (by
                rw [List.take_add_one, hz, Option.toList_some]
                intro hh
                rcases List.mem_append.1 hh with hh | hh
                · exact unhide hsi hh
                · exact hzb (List.mem_singleton.1 hh).symm)
              clear hz hZ hzb hsi
              go_wp2_with fail
              refine (unhide H5).mono ?_
              rintro e w3 ⟨rfl, d3⟩
              have HB3 := hide (below_after hbi (d3.below _))
              clear H5 d3
              go_wp2
              go_roundw
              case rel => exact ⟨j + 1, by omega, by go_num, unhide HB3, hnext⟩
              case measure => simp [intOf]; omega
          · obtain rfl : j = k2 := by omega
            have hnext : Hid (∀ j, j < i + 1 → ¬ (j : Int) + 1 ∈ pl → ¬ boxAt p pl j ∈ S) := hide (fun j' hj' hj2 => by
              by_cases e : j' = i
              · subst e
                have := unhide hsi
                rwa [List.take_of_length_le (Nat.le_of_eq (unhide HS).1)] at this
              · exact unhide hs j' (by omega) hj2)
            have HB3 := hide (below_after hb2w hbi)
            clear hs hsi hbi HA
            go_wp2
            go_roundw
            case rel => exact ⟨i + 1, by omega, by go_num, unhide HB3, hnext⟩
            case measure => simp [intOf]; omega
    · obtain rfl : i = n := by omega
      obtain rfl : b = true := (unhide HB).symm.trans (fitsM_iff.2 fun j hj => unhide hs j (by rw [unhide HL] at hj; exact hj))
      clear HB hs H1 H2 HX
      go_wp2
      go_ret
      exact ⟨rfl, hbr⟩
theorem keep_ab {B : Nat} {wr w' : World} {a b : Addr} {u v : Value} (h1 : wr.cell? a = some u) (h2 : wr.cell? b = some v) (ha : a.block < B) (hb : b.block < B) (h : Below B wr w') : w'.cell? a = some u ∧ w'.cell? b = some v ∧ Below B wr w' := ⟨(h.cell ha).trans h1, (h.cell hb).trans h2, h⟩
theorem filter_take {L : List (List Int)} {F : List Int → Bool} {k : Nat} {z : List Int} (hz : L[k]? = some z) : ((((L.take (k + 1)).filter F).length : Nat) : Int) = (((L.take k).filter F).length : Int) + bitI (F z) := by
  rw [List.take_add_one, hz, Option.toList_some, List.filter_append, List.length_append]
  cases h : F z with
  | true => rw [List.filter_cons_of_pos h]; simp [bitI]
  | false => rw [List.filter_cons_of_neg (by simp [h])]; simp [bitI]
set_option maxHeartbeats 1600000 in
theorem l9count_any (A A' A2 : Option Addr) (n c B n' c' B' k2 c2 : Nat) (p q : List Int) (S : List (List Int)) (w : World) (h : Arg w B A n c p) (h' : Arg w B' A' n' c' q) (hS : AtS w A2 k2 S) (hk2 : k2 ≤ 1048576) (hp : isP p = true) (hq : isP q = true) :
    Calls Try.prog 56 #[.slice A n c, .agg #[.slice A' n' c', .slice A2 k2 c2]] w (GivesN w ((meshR p q S).length : Nat)) := by
  obtain ⟨w0, hw0⟩ : ∃ w0, w0 = w.alloc (.cells #[.slice A' n' c', .slice A2 k2 c2] 27) := ⟨_, rfl⟩
  have b0 : Below w.heap.size w w0 := by rw [hw0]; exact (Below.refl _ w).alloc (Nat.le_refl _) _
  have g0 : Whole w0 w.heap.size 27 #[.slice A' n' c', .slice A2 k2 c2] := by rw [hw0]; exact Whole.new _ _ _
  have hn8 : n ≤ 8 := by have := isP_le hp; have := h.len; omega
  unfold meshR
  have hsz := occ_size p q hp
  rw [occR_yes hp hq] at hsz ⊢
  have hs0 : w0.heap.size = w.heap.size + 1 := by rw [hw0, World.size_alloc]
  have H3 := hide (l7find_any q.length A A' n c B n' c' B' w0.heap.size p q (some ⟨w0.heap.size, 0, none⟩) 0 0 [] (.slice (some ⟨w0.heap.size + 1, 0, none⟩) 0 0) [] []
        ((w0.alloc (.cells #[] 3)).alloc (.cells #[] 24)) ((h.below b0).below (((Below.refl _ w0).alloc (Nat.le_refl _) _).alloc (by simp) _)) ((h'.below b0).below (((Below.refl _ w0).alloc (Nat.le_refl _) _).alloc (by simp) _)) (Nat.le_trans h.under b0.size) (Nat.le_trans h'.under b0.size) (by simp; omega) hp hq (by simp) (PlOK.nil _)
        ((Ints.made0 w0 w0.heap.size (Nat.le_refl _)).below ((Below.refl _ _).alloc (Nat.le_refl _) _)) (by have := ownS0 (w0.alloc (.cells #[] 3)) w0.heap.size (by simp); rw [World.size_alloc] at this; exact this) (Inner.nil _ _) (fun x hx => by cases hx) (by simp only [List.length_nil]; omega))
  have HF := hide (show ∀ (w4 : World) (A4 : Option Addr) (c4 B4 : Nat) (z : List Int), z ∈ extL p q q.length [] → Below w.heap.size w w4 → Ints w4 B4 (.slice A4 z.length c4) z → Calls Try.prog 94 #[.slice A n c, .slice A4 z.length c4, .slice A2 k2 c2] w4 (GivesB w4 (fitsM p z S)) from fun w4 A4 c4 B4 z hz hb4 hI => by
    have ho := isOcc_iff.1 (mem_occ.1 (by rw [occR_yes hp hq]; exact hz))
    have hq8 := isP_le hq
    have hzl := ho.2.2.1
    have hp8 := isP_le hp
    exact l9fits_any A A4 A2 n c B z.length c4 _ k2 c2 p z S w4 (h.below hb4) (hI.arg (by omega) hI.cap (fun x hx => by have := ho.2.2.2.1.1 x hx; omega)) (hS.below hb4) hk2 (by rw [← h.len]; exact ho.2.2.2.1) hn8)
  have q0 := g0.cell 0
  simp only [List.getElem?_toArray, List.getElem?_cons_zero] at q0
  obtain ⟨L, hL⟩ : ∃ L, L = extL p q q.length [] := ⟨_, rfl⟩
  rw [← hL] at H3 HF hsz ⊢
  rw [hs0] at H3
  have HW := hide hw0
  rw [hw0] at H3 q0
  clear h h' hp hq hS hL hs0 hw0 hn8
  go_enter Try.func56, Try.ntmps56
  go_wp2_with fail
  refine (unhide H3).mono ?_
  rw [← unhide HW]
  rintro e w3 ⟨v, us, rfl, o3, i3, _, hb3, _⟩
  have hs1 : w.heap.size + 1 = w0.heap.size := by rw [unhide HW, World.size_alloc]
  rw [hs1] at o3 i3 hb3
  have hS3 : IntsS w3 w0.heap.size v L := ⟨us, by simpa using o3, by simpa using i3⟩
  have hx := ((((Below.refl _ w0).alloc (Nat.le_refl _) (.cells #[] 3)).alloc (by simp) (.cells #[] 24))).trans hb3
  have hb := below_after b0 hx
  have g3 := g0.below hx g0.lt
  have q1 := g3.cell 1
  have q2 := g3.lt
  simp only [List.getElem?_toArray, List.getElem?_cons_zero, List.getElem?_cons_succ] at q1
  clear H3 o3 i3 hb3 hx g0 g3 b0 q0 hs1 HW
  obtain ⟨A3, c3, rfl⟩ := hS3.slice
  go_wp2
  go_loopw [5, 7] (fun s i wr => ∃ k : Nat, k ≤ L.length ∧ i = .int .i64 k ∧ s = .int .i64 ((((L.take k).filter fun pl => fitsM p pl S).length : Nat) : Int) ∧ Below w3.heap.size w3 wr) (fun _ i _ => L.length - (intOf i).toNat)
  case atStart => exact ⟨0, Nat.zero_le _, rfl, rfl, Below.refl _ _⟩
  case round =>
    obtain ⟨k, hk, rfl, rfl, hd⟩ := hrel
    by_cases hlt : k < L.length
    · have hb4 := below_after hb hd
      obtain ⟨ad, A4, c4, z, rfl, hz, hcell, hI⟩ := (hS3.below hd).at_ hlt
      have hstep : ((((L.take (k + 1)).filter fun pl => fitsM p pl S).length : Nat) : Int) = (((L.take k).filter fun pl => fitsM p pl S).length : Nat) + bitI (fitsM p z S) := filter_take (F := fun pl => fitsM p pl S) hz
      have q1' := (hd.cell (p := ⟨w.heap.size, 1, none⟩) q2).trans q1
      have hbd := Below.refl wr.heap.size wr
      have HFZ := hide (show ∀ w', Below wr.heap.size wr w' → _ from fun w' d' => unhide HF w' A4 c4 _ z (List.mem_of_getElem? hz) (below_after hb4 d') (hI.below d'))
      obtain ⟨bz, hbz⟩ : ∃ b, fitsM p z S = b := ⟨_, rfl⟩
      rw [hbz] at HFZ hstep
      have hle : ((L.take k).filter fun pl => fitsM p pl S).length ≤ k := by
        have h1 := List.length_filter_le (fun pl => fitsM p pl S) (L.take k)
        rw [List.length_take] at h1; omega
      obtain ⟨s0, hs0⟩ : ∃ s0, s0 = ((L.take k).filter fun pl => fitsM p pl S).length := ⟨_, rfl⟩
      rw [← hs0] at hstep hle ⊢
      have hwr : IntKind.i64.wrap ((s0 : Int) + bitI bz) = (s0 : Int) + bitI bz := by rw [IntKind.wrap_i64]; cases bz <;> simp [bitI] <;> omega
      have HST := hide hstep
      have HDD := hide hd
      have hl1 : (ad.add k).block < wr.heap.size := World.block_lt_of_cell? _ _ hcell
      have hl2 : w.heap.size < wr.heap.size := Nat.lt_of_lt_of_le q2 hd.size
      clear hz hb4 hd hI hbz hstep hs0 HF
      go_wp2
      go_region_held3 (fun w' => w'.cell? (ad.add k) = some (.slice A4 z.length c4) ∧ w'.cell? ⟨w.heap.size, 1, none⟩ = some (.slice A2 k2 c2) ∧ Below wr.heap.size wr w') ((refine keep_ab hcell q1' hl1 hl2 ?_; first | assumption | (apply Below.drew; assumption)))
        (first
          | (go_at_call 94; refine (unhide HFZ _ (by first | assumption | (apply Below.drew; assumption))).mono ?_; rintro e w5 ⟨rfl, hb5⟩; have hb6 : Below wr.heap.size wr w5 := (hbd.drew).trans hb5)
          | (go_at_call 64; refine (bit_any bz _).mono ?_; rintro e w7 ⟨rfl, hw7⟩; subst hw7))
      have HD := hide (below_after (unhide HDD) hb6)
      clear hb5 hb6 hbd HFZ HDD
      go_wp2
      go_roundw
      case rel => exact ⟨k + 1, by omega, by go_num, by rw [unhide HST], unhide HD⟩
      case measure => simp [intOf]; omega
    · obtain rfl : L.length = k := by omega
      have hb4 := below_after hb hd
      rw [List.take_length]
      clear hd hb
      go_wp2
      go_ret
      exact ⟨rfl, hb4⟩
end Go.Proofs.Ytcoegjhhhnfplaa


/-
  spec.IsMesh by its contract.
-/

namespace Go.Proofs.Ytcoegjhhhnfplaa
set_option maxRecDepth 100000
open Go.RowKit
theorem boxesK_no {n k m : Nat} {S : List (List Int)} (h : boxesK n S (k + 1) = false) (hk : k < m) : boxesK n S m = false := by
  cases e : boxesK n S m with
  | false => rfl
  | true => rw [boxesK_down e hk] at h; cases h
theorem mesh_false {q : List Int} {S : List (List Int)} (h : boxesK q.length S S.length = false) : meshOK q S = false := by unfold meshOK; rw [h, Bool.and_false]
theorem box_two {n : Nat} {x y : Int} : boxOK n [x, y] = (decide (0 ≤ x ∧ x ≤ (n : Int)) && decide (0 ≤ y ∧ y ≤ (n : Int))) := by
  unfold boxOK
  rw [show at0 [x, y] 0 = x from rfl, show at0 [x, y] 1 = y from rfl]
  simp
theorem box_long {n : Nat} {z : List Int} (h : ¬ z.length = 2) : boxOK n z = false := by unfold boxOK; rw [decide_eq_false h]; rfl
set_option maxHeartbeats 16000000 in
theorem smesh_any (A P : Option Addr) (n c B m d : Nat) (q : List Int) (S : List (List Int)) (w : World) (h : Arg w B A n c q) (hS : AtS w P m S) (hm : m ≤ 1048576) :
    Calls Try.prog 21 #[.agg #[.slice A n c, .slice P m d]] w (GivesB w (meshOK q S)) := by
  have hl := h.len
  have hn := h.le
  obtain ⟨w0, hw0⟩ : ∃ w0, w0 = w.alloc (.cells #[.slice A n c, .slice P m d] 27) := ⟨_, rfl⟩
  have b0 : Below w.heap.size w w0 := by rw [hw0]; exact (Below.refl _ w).alloc (Nat.le_refl _) _
  have g0 : Whole w0 w.heap.size 27 #[.slice A n c, .slice P m d] := by rw [hw0]; exact Whole.new _ _ _
  have q0 := g0.cell 0
  have q1 := g0.cell 1
  simp only [List.getElem?_toArray, List.getElem?_cons_zero, List.getElem?_cons_succ] at q0 q1
  obtain ⟨b, hb⟩ : ∃ b, meshOK q S = b := ⟨_, rfl⟩
  obtain ⟨bp, hbp⟩ : ∃ b, isP q = b := ⟨_, rfl⟩
  rw [hb]
  have HB := hide hb
  have HBP := hide hbp
  have HA := hide (fun wr (hd : Drew w0 wr) => sisperm_any A n c B q bp hbp wr (h.below (below_after b0 (hd.below _))).reads h.le h.cap)
  have HL := hide hl
  have HS := hide (hS.below b0)
  have HW := hide hw0
  clear h hl hb hbp g0 hw0 hS
  go_enter Try.func21, Try.ntmps21
  go_wp2
  rw [← unhide HW]
  clear HW
  go_loopw [3, 4] (fun i _ wr => ∃ k : Nat, k ≤ m ∧ i = .int .i64 k ∧ Drew w0 wr ∧ Hid (boxesK q.length S k = true)) (fun i _ _ => m - (intOf i).toNat)
  case atStart => exact ⟨0, Nat.zero_le _, rfl, Drew.refl _, rfl⟩
  case round =>
    obtain ⟨k, hk, rfl, hd, hs⟩ := hrel
    have c0 := (hd.cell ⟨w.heap.size, 0, none⟩).trans q0
    have c1 := (hd.cell ⟨w.heap.size, 1, none⟩).trans q1
    by_cases hlt : k < m
    · obtain ⟨ad, A', c', z, rfl, hz, hcell, hI⟩ := (unhide HS).2 wr (hd.below _) k hlt
      have HD := hide hd
      have HZ := hide hz
      have HI := hide hI
      have hzl := hI.le
      clear q0 q1 hd hz hI
      go_wp2
      by_cases e2 : z.length = 2
      · obtain ⟨x, y, hxy, ad2, hA2, hcx, hcy⟩ : ∃ x y, z = [x, y] ∧ ∃ ad2, A' = some ad2 ∧ wr.cell? (ad2.add 0) = some (.int .i64 x) ∧ wr.cell? (ad2.add 1) = some (.int .i64 y) := by
          match z, e2 with
          | [x, y], _ =>
            obtain ⟨ad2, u, hA, _, hu, hx⟩ := (unhide HI).reads.at_ (show 0 < [x, y].length by simp)
            obtain ⟨ad3, u3, hA3, _, hu3, hx3⟩ := (unhide HI).reads.at_ (show 1 < [x, y].length by simp)
            obtain rfl : ad2 = ad3 := by rw [hA] at hA3; injection hA3
            refine ⟨x, y, rfl, ad2, hA, ?_, ?_⟩
            · rw [hx]; exact hu.symm
            · rw [hx3]; exact hu3.symm
        subst hA2
        obtain ⟨b1, hb1⟩ : ∃ b, decide (0 ≤ x ∧ x ≤ (n : Int)) = b := ⟨_, rfl⟩
        obtain ⟨b2, hb2⟩ : ∃ b, decide (0 ≤ y ∧ y ≤ (n : Int)) = b := ⟨_, rfl⟩
        have HI1 := hide hb1
        have HI2 := hide hb2
        have hbox : boxOK q.length z = (b1 && b2) := by rw [hxy, box_two, unhide HL, hb1, hb2]
        have hK : boxesK q.length S (k + 1) = ((b1 && b2) && (decide (k = 0) || befL (S.getD (k - 1) []) z)) := by
          rw [boxesK, unhide hs, getD_of (unhide HZ), hbox, Bool.true_and]
        have hkm : k < S.length := by have := (unhide HS).1; omega
        have hcx0 : wr.cell? ad2 = some (.int .i64 x) := by rw [show ad2 = ad2.add 0 by unfold Addr.add; split <;> simp_all]; exact hcx
        have hcy0 : wr.cell? ⟨ad2.block, ad2.off + 1, none⟩ = some (.int .i64 y) := by rw [← show ad2.add 1 = ⟨ad2.block, ad2.off + 1, none⟩ by unfold Addr.add; rw [if_neg (by omega)]]; exact hcy
        rw [e2]
        cases b1 with
        | false =>
          obtain rfl : b = false := (unhide HB).symm.trans (mesh_false (boxesK_no (k := k) (by rw [hK]; rfl) hkm))
          clear HB hs hK hkm hbox hb1 hb2 HS HZ HI
          go_quiet (first | (go_at_call 60; exact Calls.quiet_of_same (l1in_any _ _ _ _ (by first | exact unhide HI1 | exact unhide HI2) _)) | (go_at_call 61; exact Calls.quiet_of (unhide HBF _ ⟨_, rfl⟩)))
          go_wp2
          go_ret
          exact ⟨rfl, below_after b0 (((unhide HD).more _).below _)⟩
        | true =>
          cases b2 with
          | false =>
            obtain rfl : b = false := (unhide HB).symm.trans (mesh_false (boxesK_no (k := k) (by rw [hK]; rfl) hkm))
            clear HB hs hK hkm hbox hb1 hb2 HS HZ HI
            go_quiet (first | (go_at_call 60; exact Calls.quiet_of_same (l1in_any _ _ _ _ (by first | exact unhide HI1 | exact unhide HI2) _)) | (go_at_call 61; exact Calls.quiet_of (unhide HBF _ ⟨_, rfl⟩)))
            go_wp2
            go_ret
            exact ⟨rfl, below_after b0 (((unhide HD).more _).below _)⟩
          | true =>
            by_cases h0 : k = 0
            · subst h0
              have hnext : Hid (boxesK q.length S (0 + 1) = true) := hide (by rw [hK]; rfl)
              clear hs hK hkm hbox hb1 hb2 HZ HI
              go_quiet (first | (go_at_call 60; exact Calls.quiet_of_same (l1in_any _ _ _ _ (by first | exact unhide HI1 | exact unhide HI2) _)) | (go_at_call 61; exact Calls.quiet_of (unhide HBF _ ⟨_, rfl⟩)))
              go_wp2
              go_roundw
              case rel => exact ⟨1, by omega, by go_num, (unhide HD).more _, hnext⟩
              case measure => simp [intOf]; omega
            · obtain ⟨k2, rfl⟩ : ∃ k2, k = k2 + 1 := ⟨k - 1, by omega⟩
              obtain ⟨ad5, A5, c5, z5, hA5, hz5, hc5, hI5⟩ := (unhide HS).2 wr ((unhide HD).below _) k2 (by omega)
              obtain rfl : ad = ad5 := by injection hA5
              obtain ⟨bf, hbf⟩ : ∃ bf, befL z5 z = bf := ⟨_, rfl⟩
              rw [show k2 + 1 - 1 = k2 from rfl, getD_of hz5, hbf, decide_eq_false h0, Bool.false_or, Bool.and_self, Bool.true_and] at hK
              have HBF := hide (fun w' (d' : Drew wr w') => l2bef_any A5 (some ad2) z5.length c5 _ z.length c' _ z5 z bf hbf w' (hI5.below (d'.below _)) ((unhide HI).below (d'.below _)))
              rw [e2] at HBF
              have hgt : (0 : Int) < (k2 : Int) + 1 := by omega
              have hwk : IntKind.i64.wrap ((k2 : Int) + 1 - 1) = (k2 : Int) := by rw [IntKind.wrap_i64]; omega
              have hwk' : IntKind.i64.wrap (k2 : Int) = (k2 : Int) := by rw [IntKind.wrap_i64]; omega
              have hb3 : (k2 : Int) < (m : Int) := by omega
              have hb4 : (0 : Int) ≤ (k2 : Int) := by omega
              cases bf with
              | false =>
                obtain rfl : b = false := (unhide HB).symm.trans (mesh_false (boxesK_no hK hkm))
                clear HB hs hK hkm hbox hb1 hb2 HS HZ HI hz5 hI5 h0 hbf
                go_quiet (first | (go_at_call 60; exact Calls.quiet_of_same (l1in_any _ _ _ _ (by first | exact unhide HI1 | exact unhide HI2) _)) | (go_at_call 61; exact Calls.quiet_of (unhide HBF _ ⟨_, rfl⟩)))
                go_wp2
                go_ret
                exact ⟨rfl, below_after b0 (((unhide HD).more _).below _)⟩
              | true =>
                have hnext : Hid (boxesK q.length S (k2 + 1 + 1) = true) := hide hK
                clear hs hK hkm hbox hb1 hb2 HZ HI hz5 hI5 h0 hbf
                go_quiet (first | (go_at_call 60; exact Calls.quiet_of_same (l1in_any _ _ _ _ (by first | exact unhide HI1 | exact unhide HI2) _)) | (go_at_call 61; exact Calls.quiet_of (unhide HBF _ ⟨_, rfl⟩)))
                go_wp2
                go_roundw
                case rel => exact ⟨k2 + 1 + 1, by omega, by go_num, (unhide HD).more _, hnext⟩
                case measure => simp [intOf]; omega
      · obtain rfl : b = false := (unhide HB).symm.trans (mesh_false (boxesK_no (k := k) (by rw [boxesK, getD_of (unhide HZ), box_long e2, Bool.and_false, Bool.false_and]) (by have := (unhide HS).1; omega)))
        have e3 : ¬ (z.length : Int) = 2 := by omega
        have e4 : ((z.length : Int) != 2) = true := by simpa using e3
        clear HB hs
        go_quiet (fail)
        go_wp2
        go_ret
        exact ⟨rfl, below_after b0 (((unhide HD).more _).below _)⟩
    · obtain rfl : m = k := by omega
      have hK : meshOK q S = (bp && decide (n ≤ 4)) := by
        unfold meshOK
        rw [unhide HBP, (unhide HS).1, unhide hs, Bool.and_true, unhide HL]
      have H1 := hide (unhide HA wr hd)
      have hbw := below_after b0 (hd.below _)
      clear HA HBP hs HS q0 q1
      cases bp with
      | false =>
        obtain rfl : b = false := (unhide HB).symm.trans hK
        clear HB hK
        go_wp2_with fail
        refine (unhide H1).mono ?_
        rintro e w2 ⟨rfl, d2⟩
        have hb2 := below_after hbw (d2.below _)
        clear H1 d2 hbw hd
        go_wp2
        go_ret
        exact ⟨rfl, hb2⟩
      | true =>
        go_wp2_with fail
        refine (unhide H1).mono ?_
        rintro e w2 ⟨rfl, d2⟩
        have hb2 := below_after hbw (d2.below _)
        have c2 := (d2.cell ⟨w.heap.size, 0, none⟩).trans c0
        clear H1 d2 hbw hd
        by_cases h4 : n ≤ 4
        · obtain rfl : b = true := (unhide HB).symm.trans (by rw [hK, decide_eq_true h4]; rfl)
          have h5 : (n : Int) ≤ 4 := by omega
          clear HB hK
          go_wp2
          go_ret
          exact ⟨rfl, hb2⟩
        · obtain rfl : b = false := (unhide HB).symm.trans (by rw [hK, decide_eq_false h4]; rfl)
          have h5 : ¬ (n : Int) ≤ 4 := by omega
          clear HB hK
          go_wp2
          go_ret
          exact ⟨by first | rfl | (show Ending.returned (.bool (decide ((n : Int) ≤ 4))) = _; rw [decide_eq_false (by omega)]), hb2⟩
end Go.Proofs.Ytcoegjhhhnfplaa


/-
  WORDS: a row that lies apart from all rows of a list; it is put behind the list, or at a place of it. Nothing here speaks of a function of the program.
-/

namespace Go.Proofs.Ytcoegjhhhnfplaa
set_option maxRecDepth 100000
open Go.RowKit

/-- A list of rows and a row that lies apart from all of it. -/
def Fresh (w : World) (B : Nat) (v : Value) (zss : List (List Int)) (u : Value) : Prop := ∃ vs, w.ownsRow B 24 1 v zss.length vs ∧ Inner w B vs zss ∧ ∀ x ∈ vs, Away x u
theorem wpList_push_fresh_keep {ops : Array Oper} {rest : List Oper} {o : Oper} {a : Act} {W : World} {Q : Exit → Act → World → Prop} (hgd : o.guard = none) (sl x : Operand)
    (ho : o.op = .call { callee := .builtin .append, args := #[sl, x], argTypes := #[25, 25] })
    (base : Nat) (wr : World) (v u : Value) (zss : List (List Int)) (zs : List Int) (hs : a.eval sl = v) (hx : a.eval x = .slice (some ⟨wr.heap.size, 0, none⟩) 1 1) (hW : W = wr.alloc (.cells #[u] 24))
    (hS : Fresh wr base v zss u) (hu : Ints wr base u zs) (hn : zss.length ≤ 1048576) (hbase : base ≤ wr.heap.size)
    (K : ∀ v' w', IntsS w' base v' (zss ++ [zs]) → Below base wr w' → KeepI wr w' → wpList Try.prog ops Q rest (a.put o.dst v') w') : wpList Try.prog ops Q (o :: rest) a W := by
  obtain ⟨i0, hi, hz0, hz1, hz2⟩ := info_parts rowsInfo
  obtain ⟨vs, hown, hin, ha⟩ := hS
  obtain ⟨A1, c1, rfl⟩ := hu.slice
  refine wpList_append_one hgd sl x 25 ho base 24 i0 (.slice none 0 0) 24 Try.underlying25 hi hz0 hz1 hz2 rfl wr wr v _ _ hs hown _ hx hW rfl (by omega) (by unfold maxLen; omega) (Below.refl _ _) hbase fun v' w' h1 h2 h3 => K v' w' ?_ h2 (KeepI.of_grown hown h3)
  have hk := KeepI.of_grown hown h3
  refine ⟨vs ++ [.slice A1 zs.length c1], by rw [List.length_append]; exact h1, ?_⟩
  exact (hin.keepI hk).push (hu.keepI hk) ha

theorem IntsS.putFresh {w : World} {B g n cap k : Nat} {zss : List (List Int)} {z : List Int} {u : Value} (h : Fresh w B (.slice (some ⟨g, 0, none⟩) n cap) zss u) (hu : Ints w B u z) :
    IntsS (w.setCell ⟨g, k, none⟩ u) B (.slice (some ⟨g, 0, none⟩) n cap) (zss.set k z) ∧ KeepI w (w.setCell ⟨g, k, none⟩ u) := by
  obtain ⟨vs, h2, h3, ha⟩ := h
  have hl : n = zss.length := by
    rcases h2.2 with ⟨hv, hz⟩ | ⟨g', cap', cur, hv, _⟩
    · injection hv with _ h3; omega
    · injection hv
  subst hl
  have st := h2.stored k u
  have hk := KeepI.of_grown h2 st.2
  refine ⟨⟨vs.set k u, by rw [List.length_set]; exact st.1, ?_⟩, hk⟩
  exact (h3.keepI hk).set k (hu.keepI hk) ha
/-- A list of two rows that was just built. -/
theorem IntsS.two {w : World} {B : Nat} {u v : Value} {p q : List Int} (hp : Ints w B u p) (hq : Ints w B v q) (ha : Away u v) (hB : B ≤ w.heap.size) :
    IntsS (w.alloc (.cells #[u, v] 24)) B (.slice (some ⟨w.heap.size, 0, none⟩) 2 2) [p, q] := by
  have hal := (Below.refl w.heap.size w).alloc (Nat.le_refl _) (.cells #[u, v] 24)
  refine ⟨[u, v], ⟨rfl, .inr ⟨w.heap.size, 2, #[u, v], rfl, hB, heap_alloc_new w _, Nat.le_refl _, by unfold maxLen; omega, rfl, rfl⟩⟩, ?_⟩
  have h1 := (Inner.nil (w.alloc (.cells #[u, v] 24)) B).push (hp.below hal) (fun x hx => by simp at hx)
  exact h1.push (hq.below hal) (fun x hx => by simp at hx; subst hx; exact ha)
theorem away_since {w : World} {B : Nat} {u v : Value} {zs : List Int} (hu : Ints w B u zs) (hv : Since w.heap.size v) : Away u v := by
  unfold Away
  cases h : u.ownBlock with
  | none => exact .inl rfl
  | some k =>
    refine .inr fun e => ?_
    have h1 := hv k e.symm
    have h2 := hu.until_ k h
    omega

theorem Fresh.two {w : World} {B : Nat} {u v r : Value} {p q : List Int} (hp : Ints w B u p) (hq : Ints w B v q) (ha : Away u v) (hr1 : Away u r) (hr2 : Away v r) (hB : B ≤ w.heap.size) :
    Fresh (w.alloc (.cells #[u, v] 24)) B (.slice (some ⟨w.heap.size, 0, none⟩) 2 2) [p, q] r := by
  have hal := (Below.refl w.heap.size w).alloc (Nat.le_refl _) (.cells #[u, v] 24)
  refine ⟨[u, v], ⟨rfl, .inr ⟨w.heap.size, 2, #[u, v], rfl, hB, heap_alloc_new w _, Nat.le_refl _, by unfold maxLen; omega, rfl, rfl⟩⟩, ?_, ?_⟩
  · have h1 := (Inner.nil (w.alloc (.cells #[u, v] 24)) B).push (hp.below hal) (fun x hx => by simp at hx)
    exact h1.push (hq.below hal) (fun x hx => by simp at hx; subst hx; exact ha)
  · intro x hx
    simp only [List.mem_cons, List.not_mem_nil, or_false] at hx
    rcases hx with rfl | rfl
    · exact hr1
    · exact hr2
end Go.Proofs.Ytcoegjhhhnfplaa


/-
  A struct of a row and a list of rows: the words for it (of the tree's chapter and of the boxes').
-/

namespace Go.Proofs.Ytcoegjhhhnfplaa
set_option maxRecDepth 100000
open Go.RowKit

/-- The root and the parts of an Inflation, rows of the call's own, apart from each other. -/
structure InfAt (w : World) (B : Nat) (rv pv : Value) (root : List Int) (pcs : List (List Int)) : Prop where
  row : Ints w B rv root
  pcs : Fresh w B pv pcs rv
theorem Fresh.below {w w' : World} {B : Nat} {v u : Value} {zss : List (List Int)} (h : Fresh w B v zss u) (hb : Below w.heap.size w w') : Fresh w' B v zss u := by
  obtain ⟨vs, h1, h2, h3⟩ := h
  exact ⟨vs, own_below h1 hb, h2.keepI (KeepI.of_below hb), h3⟩
theorem Fresh.intsS {w : World} {B : Nat} {v u : Value} {zss : List (List Int)} (h : Fresh w B v zss u) : IntsS w B v zss := by
  obtain ⟨vs, h1, h2, _⟩ := h
  exact ⟨vs, h1, h2⟩
theorem Fresh.low {w : World} {B B' : Nat} {v u : Value} {zss : List (List Int)} (h : Fresh w B v zss u) (hB : B' ≤ B) : Fresh w B' v zss u := by
  obtain ⟨vs, h1, h2, h3⟩ := h
  refine ⟨vs, ⟨h1.1, ?_⟩, h2.low hB, h3⟩
  rcases h1.2 with h0 | ⟨g, cap, cur, hv, hb, hr⟩
  · exact .inl h0
  · exact .inr ⟨g, cap, cur, hv, Nat.le_trans hB hb, hr⟩
theorem InfAt.below {w w' : World} {B : Nat} {rv pv : Value} {root : List Int} {pcs : List (List Int)} (h : InfAt w B rv pv root pcs) (hb : Below w.heap.size w w') : InfAt w' B rv pv root pcs := ⟨h.row.below hb, h.pcs.below hb⟩
theorem InfAt.low {w : World} {B B' : Nat} {rv pv : Value} {root : List Int} {pcs : List (List Int)} (h : InfAt w B rv pv root pcs) (hB : B' ≤ B) : InfAt w B' rv pv root pcs := ⟨h.row.low hB, h.pcs.low hB⟩
def GivesX (w : World) (root : List Int) (pcs : List (List Int)) (e : Ending) (w' : World) : Prop :=
  ∃ A c A' c', e = .returned (.agg #[.slice A root.length c, .slice A' pcs.length c']) ∧ InfAt w' w.heap.size (.slice A root.length c) (.slice A' pcs.length c') root pcs ∧ Below w.heap.size w w'
def GivesXB (w : World) (root : List Int) (pcs : List (List Int)) (b : Bool) (e : Ending) (w' : World) : Prop :=
  ∃ A c A' c', e = .returned (.tuple #[.agg #[.slice A root.length c, .slice A' pcs.length c'], .bool b]) ∧ InfAt w' w.heap.size (.slice A root.length c) (.slice A' pcs.length c') root pcs ∧ Below w.heap.size w w'
theorem GivesX.mk {w w' : World} {rv pv : Value} {root : List Int} {pcs : List (List Int)} (h : InfAt w' w.heap.size rv pv root pcs) (hb : Below w.heap.size w w') : GivesX w root pcs (.returned (.agg #[rv, pv])) w' := by
  obtain ⟨A, c, rfl⟩ := h.row.slice
  obtain ⟨A', c', rfl⟩ := h.pcs.intsS.slice
  exact ⟨A, c, A', c', rfl, h, hb⟩
theorem GivesXB.mk {w w' : World} {rv pv : Value} {root : List Int} {pcs : List (List Int)} (b : Bool) (h : InfAt w' w.heap.size rv pv root pcs) (hb : Below w.heap.size w w') : GivesXB w root pcs b (.returned (.tuple #[.agg #[rv, pv], .bool b])) w' := by
  obtain ⟨A, c, rfl⟩ := h.row.slice
  obtain ⟨A', c', rfl⟩ := h.pcs.intsS.slice
  exact ⟨A, c, A', c', rfl, h, hb⟩

theorem IntsS.cap {w : World} {B n c : Nat} {A : Option Addr} {zss : List (List Int)} (h : IntsS w B (.slice A n c) zss) : n ≤ c := by
  have hl := h.len
  obtain ⟨vs, h1, _⟩ := h
  rcases h1.2 with ⟨hv, hz⟩ | ⟨g, cap, cur, hv, _, _, hnc, _⟩
  · injection hv with _ h3; omega
  · injection hv with _ h3 h4
    omega

/-- A row that lies over a block is not met by what is put into that block. -/
theorem Ints.aside {w : World} {B : Nat} {v : Value} {zs : List Int} (h : Ints w B v zs) {p : Addr} (hp : p.block < B) (u : Value) : Ints (w.setCell p u) B v zs := by
  refine ⟨h.1, ?_⟩
  rcases h.2 with hn | ⟨g, cap, cur, e, rfl, hb, hgg, h1, h2, he⟩
  · exact .inl hn
  · exact .inr ⟨g, cap, cur, e, rfl, hb, (Below.heap_setCell w p u g (by omega)).trans hgg, h1, h2, he⟩

theorem own_aside {w : World} {B n k : Nat} {e : TypeId} {v : Value} {xs : List Value} (h : w.ownsRow B e k v n xs) {p : Addr} (hp : p.block < B) (u : Value) : (w.setCell p u).ownsRow B e k v n xs := by
  refine ⟨h.1, ?_⟩
  rcases h.2 with hn | ⟨g, cap, cur, rfl, hb, hgg, hr⟩
  · exact .inl hn
  · exact .inr ⟨g, cap, cur, rfl, hb, (Below.heap_setCell w p u g (by omega)).trans hgg, hr⟩
theorem Fresh.aside {w : World} {B : Nat} {v r : Value} {zss : List (List Int)} (h : Fresh w B v zss r) {p : Addr} (hp : p.block < B) (u : Value) : Fresh (w.setCell p u) B v zss r := by
  obtain ⟨vs, h1, h2, h3⟩ := h
  exact ⟨vs, own_aside h1 hp u, ⟨h2.len, fun i x zs hx hz => (h2.row i x zs hx hz).aside hp u, h2.away⟩, h3⟩
theorem InfAt.aside {w : World} {B : Nat} {rv pv : Value} {root : List Int} {pcs : List (List Int)} (h : InfAt w B rv pv root pcs) {p : Addr} (hp : p.block < B) (u : Value) : InfAt (w.setCell p u) B rv pv root pcs :=
  ⟨h.row.aside hp u, h.pcs.aside hp u⟩
/-- What a call gave is put into the block of its own result. -/
theorem inf_end {w w3 : World} {B : Nat} {rv pv : Value} {root : List Int} {pcs : List (List Int)} (hIn : InfAt w3 B rv pv root pcs) (hB : w.heap.size < B) (hb : Below w.heap.size w w3) :
    GivesX w root pcs (.returned (.agg #[rv, pv])) ((w3.setCell ⟨w.heap.size, 0, none⟩ rv).setCell ⟨w.heap.size, 1, none⟩ pv) :=
  GivesX.mk (((hIn.aside (by simpa using hB) _).aside (by simpa using hB) _).low (by omega)) ((hb.setCell (Nat.le_refl _) _).setCell (Nat.le_refl _) _)
end Go.Proofs.Ytcoegjhhhnfplaa


/-
  markIntSS turns its own rows alone: the frame of a change between two blocks.
-/

namespace Go.Proofs.Ytcoegjhhhnfplaa
set_option maxRecDepth 100000
open Go.RowKit

/-- Nothing outside the blocks from B up to U has turned. -/
structure Turned (B U : Nat) (w w' : World) : Prop where
  os : w'.os = w.os
  tape : w'.tape = w.tape
  output : w'.output = w.output
  size : w.heap.size ≤ w'.heap.size
  block : ∀ i, i < w.heap.size → (i < B ∨ U ≤ i) → w'.heap[i]? = w.heap[i]?
theorem Turned.refl (B U : Nat) (w : World) : Turned B U w w := ⟨rfl, rfl, rfl, Nat.le_refl _, fun _ _ _ => rfl⟩
theorem Turned.grown {B U : Nat} {w0 w w' : World} {row : Option Nat} (h : Turned B U w0 w) (hg : w.grownBy w' row) (hr : ∀ k, row = some k → B ≤ k ∧ k < U) : Turned B U w0 w' :=
  ⟨hg.os.trans h.os, hg.tape.trans h.tape, hg.output.trans h.output, Nat.le_trans h.size hg.size, fun i hi ho =>
    (hg.block i (Nat.lt_of_lt_of_le hi h.size) (fun e => by have := hr i e.symm; omega)).trans (h.block i hi ho)⟩
theorem Turned.below {B U : Nat} {w w' : World} (h : Turned B U w w') (hB : B ≤ w.heap.size) : Below B w w' := ⟨h.os, h.tape, h.output, h.size, fun i hi => h.block i (by omega) (.inl hi)⟩
theorem Row.turned {B U B0 n : Nat} {w w' : World} {v : Value} {xs : List Value} (h : Row w B0 v n xs) (hk : ∀ k, v.ownBlock = some k → k < B ∨ U ≤ k) (ht : Turned B U w w') : Row w' B0 v n xs := by
  refine ⟨h.1, ?_⟩
  rcases h.2 with hn | ⟨g, cap, cur, e, rfl, hb, hgg, rest⟩
  · exact .inl hn
  · exact .inr ⟨g, cap, cur, e, rfl, hb, (ht.block g (Array.getElem?_eq_some_iff.1 hgg).1 (hk g rfl)).trans hgg, rest⟩
theorem own_turned {B U B0 n : Nat} {w w' : World} {e : TypeId} {v : Value} {xs : List Value} (h : w.ownsRow B0 e 1 v n xs) (hk : ∀ k, v.ownBlock = some k → k < B ∨ U ≤ k) (ht : Turned B U w w') : w'.ownsRow B0 e 1 v n xs := by
  refine ⟨h.1, ?_⟩
  rcases h.2 with hn | ⟨g, cap, cur, rfl, hb, hgg, rest⟩
  · exact .inl hn
  · exact .inr ⟨g, cap, cur, rfl, hb, (ht.block g (Array.getElem?_eq_some_iff.1 hgg).1 (hk g rfl)).trans hgg, rest⟩
theorem Ints.turnLow {B U B0 U0 : Nat} {w w' : World} {v : Value} {zs : List Int} (h : Ints w B0 v zs) (hu : Until U0 v) (ht : Turned B U w w') (hU : U0 ≤ B) : Ints w' B0 v zs := Row.turned h (fun k hk => .inl (Nat.lt_of_lt_of_le (hu k hk) hU)) ht
theorem Ints.turnHigh {B U B0 : Nat} {w w' : World} {v : Value} {zs : List Int} (h : Ints w B0 v zs) (ht : Turned B U w w') (hU : U ≤ B0) : Ints w' B0 v zs := Row.turned h (fun k hk => .inr (Nat.le_trans hU (h.since k hk))) ht
theorem Sealed.turnLow {B U B0 U0 : Nat} {w w' : World} {v : Value} {zss : List (List Int)} (h : Sealed w B0 U0 v zss) (ht : Turned B U w w') (hU : U0 ≤ B) : Sealed w' B0 U0 v zss := by
  obtain ⟨vs, h1, h2, h3, h4⟩ := h
  exact ⟨vs, own_turned h1 (fun k hk => .inl (Nat.lt_of_lt_of_le (h3 k hk) hU)) ht, ⟨h2.len, fun i u zs hu hz => (h2.row i u zs hu hz).turnLow (h4 u (List.mem_of_getElem? hu)) ht hU, h2.away⟩, h3, h4⟩
theorem Sealed.turnHigh {B U B0 U0 : Nat} {w w' : World} {v : Value} {zss : List (List Int)} (h : Sealed w B0 U0 v zss) (ht : Turned B U w w') (hU : U ≤ B0) : Sealed w' B0 U0 v zss := by
  obtain ⟨vs, h1, h2, h3, h4⟩ := h
  exact ⟨vs, own_turned h1 (fun k hk => .inr (Nat.le_trans hU (h1.lt k hk).1)) ht, ⟨h2.len, fun i u zs hu hz => (h2.row i u zs hu hz).turnHigh ht hU, h2.away⟩, h3, h4⟩
theorem Turned.trans {B U : Nat} {a b c : World} (h : Turned B U a b) (k : Turned B U b c) : Turned B U a c :=
  ⟨k.os.trans h.os, k.tape.trans h.tape, k.output.trans h.output, Nat.le_trans h.size k.size, fun i hi ho => (k.block i (Nat.lt_of_lt_of_le hi h.size) ho).trans (h.block i hi ho)⟩
theorem Turned.of_below {B U S : Nat} {w w' : World} (h : Below S w w') (hS : w.heap.size ≤ S) : Turned B U w w' := ⟨h.os, h.tape, h.output, h.size, fun i hi _ => h.block i (Nat.lt_of_lt_of_le hi hS)⟩
theorem Turned.of_grown {B U : Nat} {w w' : World} {row : Option Nat} (hg : w.grownBy w' row) (hr : ∀ k, row = some k → B ≤ k ∧ k < U) : Turned B U w w' := (Turned.refl B U w).grown hg hr
theorem Whole.turned {w w' : World} {g : Nat} {t : TypeId} {cs : Array Value} {B U : Nat} (h : Whole w g t cs) (ht : Turned B U w w') (hg : g < B ∨ U ≤ g) : Whole w' g t cs := (ht.block g h.lt hg).trans h
set_option maxHeartbeats 800000 in
/-- markIntSS at a list of rows of the call's own. -/
theorem markss_in (A : Option Addr) (n c B U k : Nat) (K : Int) (hK : K = (k : Int)) (zss : List (List Int)) (w : World) (h : Sealed w B U (.slice A n c) zss) (hkn : k + tot zss ≤ 1099511627776) (hn : n ≤ 1048576) :
    Calls Try.prog 79 #[.slice A n c, .int .i64 K] w fun e w' => e = .returned (.int .i64 (K + (tot zss : Int))) ∧ Sealed w' B U (.slice A n c) (mkS k zss) ∧ Turned B U w w' := by
  subst hK
  have hl := h.opened.len
  obtain ⟨vs, hown, hin, hV1, hV2⟩ := h
  rw [hl] at hown
  have HA := hide hin.away
  have HV := hide hin.len
  have HL := hide hl
  have HV1 := hide hV1
  have HV2 := hide hV2
  have hh := hide (Half.start k hin)
  clear hin hl hV1 hV2
  go_enter Try.func79, Try.ntmps79
  go_wp2
  go_loopw [1, 5] (fun kv i wr => ∃ j : Nat, j ≤ n ∧ kv = .int .i64 ((k + tot (zss.take j) : Nat) : Int) ∧ i = .int .i64 j ∧ Turned B U w wr ∧ wr.ownsRow B 24 1 (.slice A n c) n vs ∧ Hid (Half wr B vs k zss j)) (fun _ i _ => n - (intOf i).toNat)
  case atStart => exact ⟨0, Nat.zero_le _, rfl, rfl, Turned.refl _ _ _, hown, hh⟩
  case round =>
    obtain ⟨j, hj, rfl, rfl, hb, hown', hhf⟩ := hrel
    clear hown hh
    have htt := tot_take zss j
    by_cases hlt : j < n
    · obtain ⟨ad, u, rfl, _, hu, hc⟩ := (Reads.of_own_at hown').at_ hlt
      obtain ⟨zs, hz⟩ : ∃ zs, zss[j]? = some zs := ⟨_, List.getElem?_eq_getElem (by rw [unhide HL]; exact hlt)⟩
      have hts := tot_step hz
      have htt2 := tot_take zss (j + 1)
      have hI := unhide hhf j u zs hu hz
      rw [if_neg (by omega)] at hI
      have hun := unhide HV2 u (List.mem_of_getElem? hu)
      obtain ⟨A1, c1, rfl⟩ := hI.slice
      have H1 := hide (marki_at A1 zs.length c1 B (k + tot (zss.take j)) _ rfl zs wr hI (by omega))
      have hne := rows_apart hown' hI
      have hsi := hI.since
      have HU := hide hu
      have HZ := hide hz
      have HT := hide hts
      obtain ⟨t, ht⟩ : ∃ t, t = tot (zss.take j) := ⟨_, rfl⟩
      rw [← ht] at H1 HT htt ⊢
      have HTT := hide ht
      have hs0 : k + t + zs.length ≤ 1099511627776 := by have h1 := unhide HT; omega
      clear hu hz hts ht hI htt2
      go_wp2_with fail
      refine (unhide H1).mono ?_
      rintro e w2 ⟨rfl, hm, hg⟩
      have hb2 := hb.grown hg (fun q hq => ⟨hsi q hq, hun q hq⟩)
      have hown2 := World.ownsRow.kept hown' hg hne
      have hh2 := hide (Half.step (unhide hhf) (unhide HA) (unhide HU) (unhide HZ) (by rw [← unhide HTT]; exact hm) hg)
      clear H1 hown' hb hm hg hne hhf
      go_wp2
      go_roundw
      case rel => exact ⟨j + 1, by omega, by rw [unhide HT]; go_num, by go_num, hb2, hown2, hh2⟩
      case measure => simp [intOf]; omega
    · obtain rfl : n = j := by omega
      have e : zss.take n = zss := List.take_of_length_le (by rw [unhide HL]; exact Nat.le_refl _)
      rw [e]
      have hdn : Inner wr B vs (mkS k zss) := Half.done (by rw [unhide HL]; exact unhide hhf) (unhide HV) (unhide HA)
      have hI : Sealed wr B U (.slice A n c) (mkS k zss) := ⟨vs, by rw [mkS_length, unhide HL]; exact hown', hdn, unhide HV1, unhide HV2⟩
      clear hown' hhf hdn e
      go_wp2
      go_ret
      exact ⟨ret_int (by omega), hI, hb⟩
theorem small_of_tot {p : List (List Int)} (h : p.length + tot p ≤ 1048576) (hs : ∀ z ∈ p, z.length ≤ maxLen ∧ Small z) : ∀ z ∈ p, z.length ≤ 1048576 ∧ Small z := fun z hz => by
  obtain ⟨i, hi, rfl⟩ := List.getElem_of_mem hz
  have := tot_at (List.getElem?_eq_getElem hi)
  exact ⟨by omega, (hs _ hz).2⟩
end Go.Proofs.Ytcoegjhhhnfplaa


/-
  Structs of a row and a list of rows in laws: markIntSS by what it turns; seals.
-/

namespace Go.Proofs.Ytcoegjhhhnfplaa
set_option maxRecDepth 100000
open Go.RowKit

/-- Nothing but the blocks of these rows has turned. -/
structure OnlyRows (vs : List Value) (w w' : World) : Prop where
  os : w'.os = w.os
  tape : w'.tape = w.tape
  output : w'.output = w.output
  size : w.heap.size ≤ w'.heap.size
  block : ∀ i, i < w.heap.size → (∀ x ∈ vs, x.ownBlock ≠ some i) → w'.heap[i]? = w.heap[i]?
theorem OnlyRows.refl (vs : List Value) (w : World) : OnlyRows vs w w := ⟨rfl, rfl, rfl, Nat.le_refl _, fun _ _ _ => rfl⟩
theorem OnlyRows.grown {vs : List Value} {w0 w w' : World} {u : Value} (h : OnlyRows vs w0 w) (hg : w.grownBy w' u.ownBlock) (hu : u ∈ vs) : OnlyRows vs w0 w' :=
  ⟨hg.os.trans h.os, hg.tape.trans h.tape, hg.output.trans h.output, Nat.le_trans h.size hg.size, fun i hi ho =>
    (hg.block i (Nat.lt_of_lt_of_le hi h.size) (fun e => ho u hu e.symm)).trans (h.block i hi ho)⟩
theorem Row.only {vs : List Value} {w w' : World} {B n : Nat} {v : Value} {xs : List Value} (h : Row w B v n xs) (ht : OnlyRows vs w w') (ha : ∀ x ∈ vs, Away x v) : Row w' B v n xs := by
  refine ⟨h.1, ?_⟩
  rcases h.2 with hn | ⟨g, cap, cur, e, rfl, hb, hgg, rest⟩
  · exact .inl hn
  · refine .inr ⟨g, cap, cur, e, rfl, hb, (ht.block g (Array.getElem?_eq_some_iff.1 hgg).1 (fun x hx e => ?_)).trans hgg, rest⟩
    rcases ha x hx with h0 | h0
    · rw [h0] at e; cases e
    · exact h0 e
theorem OnlyRows.turned {vs : List Value} {w w' : World} {B U : Nat} (h : OnlyRows vs w w') (hs : ∀ x ∈ vs, Since B x ∧ Until U x) : Turned B U w w' :=
  ⟨h.os, h.tape, h.output, h.size, fun i hi ho => h.block i hi fun x hx e => by have h1 := (hs x hx).1 i e; have h2 := (hs x hx).2 i e; omega⟩

set_option maxHeartbeats 800000 in
/-- markIntSS at a list of rows of the call's own: its rows alone turn. -/
theorem markss_only (A : Option Addr) (n c B k : Nat) (K : Int) (hK : K = (k : Int)) (zss : List (List Int)) (vs : List Value) (w : World) (hown : w.ownsRow B 24 1 (.slice A n c) n vs) (hin : Inner w B vs zss) (hl : zss.length = n) (hkn : k + tot zss ≤ 1099511627776) (hn : n ≤ 1048576) :
    Calls Try.prog 79 #[.slice A n c, .int .i64 K] w fun e w' => e = .returned (.int .i64 (K + (tot zss : Int))) ∧ w'.ownsRow B 24 1 (.slice A n c) n vs ∧ Inner w' B vs (mkS k zss) ∧ OnlyRows vs w w' := by
  subst hK
  have HA := hide hin.away
  have HV := hide hin.len
  have HL := hide hl
  have hh := hide (Half.start k hin)
  clear hin hl
  go_enter Try.func79, Try.ntmps79
  go_wp2
  go_loopw [1, 5] (fun kv i wr => ∃ j : Nat, j ≤ n ∧ kv = .int .i64 ((k + tot (zss.take j) : Nat) : Int) ∧ i = .int .i64 j ∧ OnlyRows vs w wr ∧ wr.ownsRow B 24 1 (.slice A n c) n vs ∧ Hid (Half wr B vs k zss j)) (fun _ i _ => n - (intOf i).toNat)
  case atStart => exact ⟨0, Nat.zero_le _, rfl, rfl, OnlyRows.refl _ _, hown, hh⟩
  case round =>
    obtain ⟨j, hj, rfl, rfl, hb, hown', hhf⟩ := hrel
    clear hown hh
    have htt := tot_take zss j
    by_cases hlt : j < n
    · obtain ⟨ad, u, rfl, _, hu, hc⟩ := (Reads.of_own_at hown').at_ hlt
      obtain ⟨zs, hz⟩ : ∃ zs, zss[j]? = some zs := ⟨_, List.getElem?_eq_getElem (by rw [unhide HL]; exact hlt)⟩
      have hts := tot_step hz
      have htt2 := tot_take zss (j + 1)
      have hI := unhide hhf j u zs hu hz
      rw [if_neg (by omega)] at hI
      have hum := List.mem_of_getElem? hu
      obtain ⟨A1, c1, rfl⟩ := hI.slice
      have H1 := hide (marki_at A1 zs.length c1 B (k + tot (zss.take j)) _ rfl zs wr hI (by omega))
      have hne := rows_apart hown' hI
      have HU := hide hu
      have HZ := hide hz
      have HT := hide hts
      obtain ⟨t, ht⟩ : ∃ t, t = tot (zss.take j) := ⟨_, rfl⟩
      rw [← ht] at H1 HT htt ⊢
      have HTT := hide ht
      have hs0 : k + t + zs.length ≤ 1099511627776 := by have h1 := unhide HT; omega
      clear hu hz hts ht hI htt2
      go_wp2_with fail
      refine (unhide H1).mono ?_
      rintro e w2 ⟨rfl, hm, hg⟩
      have hb2 := hb.grown hg hum
      have hown2 := World.ownsRow.kept hown' hg hne
      have hh2 := hide (Half.step (unhide hhf) (unhide HA) (unhide HU) (unhide HZ) (by rw [← unhide HTT]; exact hm) hg)
      clear H1 hown' hb hm hg hne hhf hum
      go_wp2
      go_roundw
      case rel => exact ⟨j + 1, by omega, by rw [unhide HT]; go_num, by go_num, hb2, hown2, hh2⟩
      case measure => simp [intOf]; omega
    · obtain rfl : n = j := by omega
      have e : zss.take n = zss := List.take_of_length_le (by rw [unhide HL]; exact Nat.le_refl _)
      rw [e]
      have hdn : Inner wr B vs (mkS k zss) := Half.done (by rw [unhide HL]; exact unhide hhf) (unhide HV) (unhide HA)
      clear hhf e
      go_wp2
      go_ret
      exact ⟨ret_int (by omega), hown', hdn, hb⟩

/-- A struct of a row and a list of rows from block B on, below block U. -/
def XSeal (w : World) (B U : Nat) (rv pv : Value) (root : List Int) (pcs : List (List Int)) : Prop :=
  Ints w B rv root ∧ Until U rv ∧ ∃ vs, w.ownsRow B 24 1 pv pcs.length vs ∧ Inner w B vs pcs ∧ (∀ x ∈ vs, Away x rv) ∧ Until U pv ∧ ∀ x ∈ vs, Until U x
section
variable {w w' : World} {B U : Nat} {rv pv : Value} {root : List Int} {pcs : List (List Int)}
theorem InfAt.sealed (h : InfAt w B rv pv root pcs) : XSeal w B w.heap.size rv pv root pcs := by
  obtain ⟨h1, vs, h2, h3, h4⟩ := h
  refine ⟨h1, h1.until_, vs, h2, h3, h4, fun k hk => (h2.lt k hk).2, fun x hx => ?_⟩
  obtain ⟨zs, hz⟩ := h3.mem hx
  exact hz.until_
theorem XSeal.opened (h : XSeal w B U rv pv root pcs) : InfAt w B rv pv root pcs := by
  obtain ⟨h1, _, vs, h2, h3, h4, _⟩ := h
  exact ⟨h1, vs, h2, h3, h4⟩
theorem XSeal.below (h : XSeal w B U rv pv root pcs) (hb : Below w.heap.size w w') : XSeal w' B U rv pv root pcs := by
  obtain ⟨h1, u1, vs, h2, h3, h4⟩ := h
  exact ⟨h1.below hb, u1, vs, own_below h2 hb, h3.keepI (KeepI.of_below hb), h4⟩
theorem XSeal.after {u : Value} {E : Nat} (h : XSeal w B U rv pv root pcs) (hg : w.grownBy w' u.ownBlock) (hu : Until E u) (hE : E ≤ B) : XSeal w' B U rv pv root pcs := by
  obtain ⟨h1, u1, vs, h2, h3, h4⟩ := h
  refine ⟨h1.kept hg (apart' h1.since hu hE), u1, vs, h2.kept hg (apart' (fun k hk => (h2.lt k hk).1) hu hE), ⟨h3.len, fun i x zs hx hz => ?_, h3.away⟩, h4⟩
  have hr := h3.row i x zs hx hz
  exact hr.kept hg (apart' hr.since hu hE)
theorem XSeal.turnLow {B0 U0 : Nat} (h : XSeal w B0 U0 rv pv root pcs) (ht : Turned B U w w') (hU : U0 ≤ B) : XSeal w' B0 U0 rv pv root pcs := by
  obtain ⟨h1, u1, vs, h2, h3, h4, h5, h6⟩ := h
  exact ⟨h1.turnLow u1 ht hU, u1, vs, own_turned h2 (fun k hk => .inl (Nat.lt_of_lt_of_le (h5 k hk) hU)) ht, ⟨h3.len, fun i u zs hu hz => (h3.row i u zs hu hz).turnLow (h6 u (List.mem_of_getElem? hu)) ht hU, h3.away⟩, h4, h5, h6⟩
theorem XSeal.turnHigh {B0 U0 : Nat} (h : XSeal w B0 U0 rv pv root pcs) (ht : Turned B U w w') (hU : U ≤ B0) : XSeal w' B0 U0 rv pv root pcs := by
  obtain ⟨h1, u1, vs, h2, h3, h4⟩ := h
  exact ⟨h1.turnHigh ht hU, u1, vs, own_turned h2 (fun k hk => .inr (Nat.le_trans hU (h2.lt k hk).1)) ht, ⟨h3.len, fun i u zs hu hz => (h3.row i u zs hu hz).turnHigh ht hU, h3.away⟩, h4⟩
end

theorem tot_upto {c : Nat} : ∀ {l : List (List Int)}, (∀ z ∈ l, z.length ≤ c) → tot l ≤ l.length * c
  | [], _ => by simp [tot]
  | z :: r, h => by
    have h1 := tot_upto (l := r) fun y hy => h y (List.mem_cons_of_mem _ hy)
    have h2 := h z (by simp)
    have h3 : tot (z :: r) = z.length + tot r := by simp [tot]
    rw [h3, List.length_cons, Nat.succ_mul]
    omega
end Go.Proofs.Ytcoegjhhhnfplaa


/-
  THE LAST STEP OF A LAW: the walk's answer 'true' and 'nothing below the call's own blocks has turned' give the row's post. One lemma for all laws.
-/

namespace Go.Proofs.Ytcoegjhhhnfplaa
set_option maxRecDepth 100000
open Go.ChangeShapes Go.WideShapes Go.ChangeAt Go.RowKit

theorem trodAll_below {H : Type} {enc : TypeId × Value → H} {P : Program} (hl : laidOutB P = true) {W W' : World} (hb : Below W.heap.size W W') :
    ∀ (ts : List TypeId) (vs : List Value) (ds : List (DataW H)) (ps : List MemPlace), (∀ t ∈ ts, P.readableRec t = true ∧ t < P.types.size) → (∀ x ∈ ps, x.block < W.heap.size) →
      DataW.TrodAll enc P W 0 (fun _ => true) true ts vs ds ps → DataW.TrodAll enc P W' 0 (fun b => decide (b < W.heap.size)) true ts vs ds ps
  | [], vs, ds, ps, _, _, h => by
    obtain ⟨rfl, rfl, rfl⟩ := trodAll_nil h
    exact trodAll_mk0
  | t :: ts, vs, ds, ps, ht, hp, h => by
    obtain ⟨v, vs1, d, ds1, a, b, rfl, rfl, rfl, h1, h2⟩ := trodAll_cons h
    exact ⟨a, b, Below.trod hl (ht t (by simp)).1 (ht t (by simp)).2 h1 hb (fun x hx => hp x (by simp [hx])),
      trodAll_below hl hb ts vs1 ds1 b (fun t' h' => ht t' (by simp [h'])) (fun x hx => hp x (by simp [hx])) h2, rfl⟩

theorem law_end {H : Type} {enc : TypeId × Value → H} {P : Program} {f : Func} {s : ChangeSpec} {W W' : World} {args : Array Value} {ds gs : List (DataW H)} {before : List MemPlace} {tb : TypeId}
    (hl : laidOutB P = true) (hts : ∀ t ∈ f.params.toList, P.readableRec t = true ∧ t < P.types.size) (hb4 : P.underlying tb = some .bool) (hrt : f.resultTypes = #[tb]) (hv : s.vars = [])
    (hW : DataW.Whole enc P f.params.toList s.vars false W args.toList ds gs before)
    (hfn : s.fn H (ds ++ gs) = { results := [.lit (.bool true)], args := ds }) (hbel : Below W.heap.size W W') :
    s.post enc P f false true false false W args (.bool true) W' := by
  have hlt : ∀ x ∈ before, x.block < W.heap.size := fun x hx => by simpa using hW.lt x hx
  have hW' := hW
  obtain ⟨p, q, hA, hV, rfl, _, _⟩ := hW
  rw [hv] at hV
  obtain ⟨rfl, rfl⟩ := trodVars_none hV
  have hargs := trodAll_below hl hbel _ _ _ _ hts (fun x hx => hlt x (by simp [hx])) hA
  refine ⟨ds, [], _, [] ++ [], p, [], hW', ?_, ?_, ?_, hbel.frame _, fun h => by cases h⟩
  · rw [hfn, hrt]; exact trodAll_mk1 (shut_bool hb4 _)
  · rw [hfn]; exact hargs
  · rw [hfn, hv]; rfl

theorem lt_of_row {W : World} {a : Addr} {m j : Nat} (hlt : ∀ x ∈ MemPlace.row a m, x.block < W.heap.size) (hj : j < m) : a.block < W.heap.size :=
  hlt (.cell a.block (a.off + j)) (MemPlace.mem_row.2 ⟨j, hj, rfl⟩)

/-- An argument []string, as 'Reads'. -/
theorem open_strs_reads {H : Type} {enc : TypeId × Value → H} {P : Program} {w : World} {r : Reach} {b0 t e : TypeId} {v : Value} {d : DataW H} {ps : List MemPlace} (ht : P.underlying t = some (.slice e)) (he : P.underlying e = some .string) (hc : P.cellsOf e = 1)
    (hval : Value.okWide P w r b0 t v) (h : DataW.Trod enc P w 0 (fun _ => true) true t v d ps) (hlt : ∀ x ∈ ps, x.block < w.heap.size) :
    ∃ (A : Option Addr) (n c : Nat) (ss : List ByteArray), v = .slice A n c ∧ Reads w w.heap.size A n (ss.map Value.string) ∧ n ≤ maxLen ∧ ∀ s ∈ ss, s.size ≤ maxLen := by
  obtain ⟨a0, len, cap, rfl⟩ := okWide_slice ht hval
  obtain ⟨fuel, hf⟩ := h
  rcases open_strings ht he hc hf with ⟨hcs, hx⟩ | ⟨a, len', cap', ss, hcs, _, hl, hm, hz, hx, hcell, hws⟩
  · simp [Value.cells] at hcs
    obtain ⟨rfl, rfl, rfl⟩ := hcs
    exact ⟨none, 0, 0, [], rfl, Reads.none_, Nat.zero_le _, by simp⟩
  · simp [Value.cells] at hcs
    obtain ⟨rfl, rfl, rfl⟩ := hcs
    simp only [Prod.mk.injEq] at hx
    obtain ⟨rfl, rfl⟩ := hx
    simp only [if_true] at hz
    refine ⟨some a, len, cap, ss.take len, rfl, ⟨by simp; omega, fun hn => ⟨a, rfl, lt_of_row (j := 0) hlt (by omega), fun j u hu => ?_⟩⟩, by omega, fun s hs => hws s (List.mem_of_mem_take hs)⟩
    rw [List.getElem?_map, List.getElem?_take] at hu
    by_cases hj : j < len
    · rw [if_pos hj] at hu
      rw [hcell j (by omega), ← hu, List.getD_eq_getElem?_getD]
      have : ss[j]? = some ss[j] := List.getElem?_eq_getElem (by omega)
      rw [this]; rfl
    · rw [if_neg hj] at hu; cases hu

/-- An argument of integers, as 'Reads'. -/
theorem open_ints_reads {H : Type} {enc : TypeId × Value → H} {P : Program} {w : World} {r : Reach} {b0 t e : TypeId} {ik : IntKind} {v : Value} {d : DataW H} {ps : List MemPlace} (ht : P.underlying t = some (.slice e)) (he : P.underlying e = some (.int ik)) (hc : P.cellsOf e = 1)
    (hval : Value.okWide P w r b0 t v) (h : DataW.Trod enc P w 0 (fun _ => true) true t v d ps) (hlt : ∀ x ∈ ps, x.block < w.heap.size) :
    ∃ (A : Option Addr) (n c : Nat) (zs : List Int), v = .slice A n c ∧ Reads w w.heap.size A n (zs.map (Value.int ik)) ∧ n ≤ maxLen ∧ ∀ z ∈ zs, (Lit.int ik z).wf = true := by
  obtain ⟨a0, len, cap, rfl⟩ := okWide_slice ht hval
  obtain ⟨fuel, hf⟩ := h
  rcases open_ints ht he hc hf with ⟨hcs, hx⟩ | ⟨a, len', cap', zs, hcs, _, hl, hm, hz, hx, hcell, hws⟩
  · simp [Value.cells] at hcs
    obtain ⟨rfl, rfl, rfl⟩ := hcs
    exact ⟨none, 0, 0, [], rfl, Reads.none_, Nat.zero_le _, by simp⟩
  · simp [Value.cells] at hcs
    obtain ⟨rfl, rfl, rfl⟩ := hcs
    simp only [Prod.mk.injEq] at hx
    obtain ⟨rfl, rfl⟩ := hx
    simp only [if_true] at hz
    refine ⟨some a, len, cap, zs.take len, rfl, ⟨by simp; omega, fun hn => ⟨a, rfl, lt_of_row (j := 0) hlt (by omega), fun j u hu => ?_⟩⟩, by omega, fun s hs => hws s (List.mem_of_mem_take hs)⟩
    rw [List.getElem?_map, List.getElem?_take] at hu
    by_cases hj : j < len
    · rw [if_pos hj] at hu
      rw [hcell j (by omega), ← hu, List.getD_eq_getElem?_getD]
      have : zs[j]? = some zs[j] := List.getElem?_eq_getElem (by omega)
      rw [this]; rfl
    · rw [if_neg hj] at hu; cases hu
theorem bytes_of_wf : ∀ (zs : List Int), (∀ z ∈ zs, (Lit.int .u8 z).wf = true) → ∃ bs : List UInt8, zs.map (Value.int .u8) = u8s bs
  | [], _ => ⟨[], rfl⟩
  | z :: r, h => by
    obtain ⟨bs, hb⟩ := bytes_of_wf r (fun y hy => h y (by simp [hy]))
    have hz : 0 ≤ z ∧ z ≤ 255 := by simpa [Lit.wf, IntKind.min, IntKind.max, IntKind.signed, IntKind.bits] using h z (by simp)
    refine ⟨UInt8.ofNat z.toNat :: bs, ?_⟩
    have e : ((UInt8.ofNat z.toNat).toNat : Int) = z := by rw [UInt8.toNat_ofNat']; omega
    simp only [u8s, List.map_cons, e]
    rw [hb]; rfl
theorem open_bytes_reads {H : Type} {enc : TypeId × Value → H} {P : Program} {w : World} {r : Reach} {b0 t e : TypeId} {v : Value} {d : DataW H} {ps : List MemPlace} (ht : P.underlying t = some (.slice e)) (he : P.underlying e = some (.int .u8)) (hc : P.cellsOf e = 1)
    (hval : Value.okWide P w r b0 t v) (h : DataW.Trod enc P w 0 (fun _ => true) true t v d ps) (hlt : ∀ x ∈ ps, x.block < w.heap.size) :
    ∃ (A : Option Addr) (n c : Nat) (bs : List UInt8), v = .slice A n c ∧ Reads w w.heap.size A n (u8s bs) ∧ n ≤ maxLen := by
  obtain ⟨A, n, c, zs, rfl, hr, hn, hw⟩ := open_ints_reads ht he hc hval h hlt
  obtain ⟨bs, hb⟩ := bytes_of_wf zs hw
  exact ⟨A, n, c, bs, rfl, by rw [← hb]; exact hr, hn⟩
theorem cellsByte : Try.prog.cellsOf 5 = 1 := by kernel_rfl

theorem laidOut : laidOutB Try.prog = true := by kernel_rfl
theorem own : ownKnob Try.prog.godebug = none := by kernel_rfl
end Go.Proofs.Ytcoegjhhhnfplaa


/-
  LISTS OF ROWS AS ARGUMENTS: how they read; szIntS, szIntSS, toIntSS by their contracts.
-/

namespace Go.Proofs.Ytcoegjhhhnfplaa
set_option maxRecDepth 100000
open Go.RowKit Go.ChangeShapes Go.WideShapes Go.ChangeAt

/-- The slice value '.slice A n c' holds rows that read as the lists zss, all below block B. -/
structure ReadsS (w : World) (B : Nat) (A : Option Addr) (n : Nat) (zss : List (List Int)) : Prop where
  len : zss.length = n
  rows : 0 < n → ∃ ad, A = some ad ∧ ad.block < B ∧ ∀ (j : Nat) z, zss[j]? = some z → ∃ A' c', w.cell? (ad.add j) = some (.slice A' z.length c') ∧ Reads w B A' z.length (i64s z)
theorem ReadsS.below {w w' : World} {B n : Nat} {A : Option Addr} {zss : List (List Int)} (h : ReadsS w B A n zss) (hb : Below B w w') : ReadsS w' B A n zss :=
  ⟨h.len, fun hn => by
    obtain ⟨ad, e, h1, h2⟩ := h.rows hn
    refine ⟨ad, e, h1, fun j z hz => ?_⟩
    obtain ⟨A', c', h3, h4⟩ := h2 j z hz
    exact ⟨A', c', (hb.cell (by rw [block_of_add]; exact h1)).trans h3, h4.below hb⟩⟩
theorem ReadsS.at_ {w : World} {B n k : Nat} {A : Option Addr} {zss : List (List Int)} (h : ReadsS w B A n zss) (hk : k < n) : ∃ ad A' c' z, A = some ad ∧ zss[k]? = some z ∧ w.cell? (ad.add k) = some (.slice A' z.length c') ∧ Reads w B A' z.length (i64s z) := by
  obtain ⟨ad, e, h1, h2⟩ := h.rows (by omega)
  have hz : zss[k]? = some (zss[k]'(by rw [h.len]; exact hk)) := List.getElem?_eq_getElem _
  obtain ⟨A', c', h3, h4⟩ := h2 k _ hz
  exact ⟨ad, A', c', _, e, hz, h3, h4⟩
theorem list_of {β : Type} {P : Nat → β → Prop} : ∀ n : Nat, (∀ i, i < n → ∃ z, P i z) → ∃ l : List β, l.length = n ∧ ∀ (i : Nat) z, l[i]? = some z → P i z
  | 0, _ => ⟨[], rfl, fun i z h => by simp at h⟩
  | n + 1, h => by
    obtain ⟨l, h1, h2⟩ := list_of n fun i hi => h i (by omega)
    obtain ⟨z, hz⟩ := h n (by omega)
    refine ⟨l ++ [z], by simp [h1], fun i y hy => ?_⟩
    by_cases hi : i < l.length
    · rw [List.getElem?_append_left hi] at hy
      exact h2 i y hy
    · rw [List.getElem?_append_right (by omega)] at hy
      have h0 : i - l.length = 0 := by
        have := (List.getElem?_eq_some_iff.1 hy).1
        simp at this
        omega
      rw [h0] at hy
      simp at hy
      subst hy
      rw [show i = n by omega]
      exact hz
/-- An argument [][]int, as 'ReadsS'. -/
theorem open_intss_reads {H : Type} {enc : TypeId × Value → H} {P : Program} {w : World} {r : Reach} {b0 t e ei : TypeId} {v : Value} {d : DataW H} {ps : List MemPlace} (ht : P.underlying t = some (.slice e)) (he : P.underlying e = some (.slice ei)) (hei : P.underlying ei = some (.int .i64)) (hc : P.cellsOf e = 1) (hci : P.cellsOf ei = 1)
    (hval : Value.okWide P w r b0 t v) (h : DataW.Trod enc P w 0 (fun _ => true) true t v d ps) (hlt : ∀ x ∈ ps, x.block < w.heap.size) :
    ∃ (A : Option Addr) (n c : Nat) (zss : List (List Int)), v = .slice A n c ∧ ReadsS w w.heap.size A n zss ∧ n ≤ maxLen ∧ ∀ z ∈ zss, z.length ≤ maxLen ∧ Small z := by
  obtain ⟨a0, len, cap, rfl⟩ := okWide_slice ht hval
  obtain ⟨fuel, hf⟩ := h
  rcases DataW.trod_slice ht hf with ⟨hcs, hx⟩ | ⟨a, len', cap', elems, rest, m, _, hcs, hx, _, hl, hm, hlen, hel, _, _⟩
  · simp [Value.cells] at hcs
    obtain ⟨rfl, rfl, rfl⟩ := hcs
    exact ⟨none, 0, 0, [], rfl, ⟨rfl, fun h => absurd h (by omega)⟩, Nat.zero_le _, by simp⟩
  · simp [Value.cells] at hcs
    obtain ⟨rfl, rfl, rfl⟩ := hcs
    simp only [Prod.mk.injEq] at hx
    obtain ⟨_, rfl⟩ := hx
    have each : ∀ i, i < len → ∃ z : List Int, (∃ A' c', w.cell? (a.add i) = some (.slice A' z.length c') ∧ Reads w w.heap.size A' z.length (i64s z)) ∧ z.length ≤ maxLen ∧ Small z := by
      intro i hi
      have h1 := hel i hi
      rw [hc, Nat.mul_one, List.getElem?_eq_getElem (by omega), Option.bind_eq_some_iff] at h1
      obtain ⟨cs', hcs', htr⟩ := h1
      have hq : ∀ x ∈ (elems[i]'(by omega)).2, x.block < w.heap.size := fun x hx => hlt x (by
        refine List.mem_append.2 (.inr (List.mem_flatMap.2 ⟨elems[i]'(by omega), List.mem_append.2 (.inl (List.getElem_mem _)), hx⟩))
      )
      rcases open_ints he hei hci htr with ⟨rfl, _⟩ | ⟨a', len'', cap'', zs, rfl, _, hl', hm', hz, hx', hcell, hws⟩
      · exact ⟨[], ⟨none, 0, cell_of_cells?_one hcs', Reads.none_⟩, Nat.zero_le _, fun z hz => by simp at hz⟩
      · simp only [if_true] at hz
        have e1 : (zs.take len'').length = len'' := by rw [List.length_take]; omega
        refine ⟨zs.take len'', ⟨some a', cap'', by rw [e1]; exact cell_of_cells?_one hcs', ?_⟩, by omega, small_of_wf fun z hz => hws z (List.mem_of_mem_take hz)⟩
        refine ⟨by rw [i64_length], fun hn => ⟨a', rfl, ?_, fun j u hu => ?_⟩⟩
        · rw [hx'] at hq
          exact lt_of_row (j := 0) hq (by omega)
        · unfold i64s at hu
          rw [List.getElem?_map, List.getElem?_take] at hu
          by_cases hj : j < len''
          · rw [if_pos hj] at hu
            rw [hcell j (by omega), ← hu, List.getD_eq_getElem?_getD]
            have : zs[j]? = some zs[j] := List.getElem?_eq_getElem (by omega)
            rw [this]; rfl
          · rw [if_neg hj] at hu; cases hu
    obtain ⟨zss, hz1, hz2⟩ := list_of len each
    refine ⟨some a, len, cap, zss, rfl, ⟨hz1, fun hn => ⟨a, rfl, ?_, fun j z hz => (hz2 j z hz).1⟩⟩, by omega, fun z hz => ?_⟩
    · rw [hc] at hlt
      refine lt_of_row (m := (elems.length + rest.length) * 1) (j := 0) (fun x hx => hlt x (List.mem_append.2 (.inl hx))) (by omega)
    · obtain ⟨i, hi, rfl⟩ := List.getElem_of_mem hz
      exact (hz2 i _ (List.getElem?_eq_getElem hi)).2
theorem cellsRow : Try.prog.cellsOf 24 = 1 := by kernel_rfl

theorem szi_any (A : Option Addr) (n c : Nat) (L : Int) (hL : 0 ≤ L ∧ L ≤ 1048576) (hn : n ≤ maxLen) (w : World) :
    Calls Try.prog 74 #[.slice A n c, .int .i64 L] w fun e w' => e = .returned (.int .i64 (if L < n then -1 else L - n)) ∧ w = w' := by
  unfold maxLen at hn
  obtain ⟨hL1, hL2⟩ := hL
  by_cases hlt : L < n
  · rw [if_pos hlt]
    have h1 : L - (n : Int) < 0 := by omega
    go_enter Try.func74, Try.ntmps74
    go_wp2
    go_ret
    exact ⟨rfl, rfl⟩
  · rw [if_neg hlt]
    have h1 : ¬ L - (n : Int) < 0 := by omega
    go_enter Try.func74, Try.ntmps74
    go_wp2
    go_ret
    exact ⟨rfl, rfl⟩
/-- What szIntSS gives: what is left, or -1. -/
def szR (L : Int) (n : Nat) (zss : List (List Int)) : Int := if L < n + tot zss then -1 else L - n - tot zss
set_option maxHeartbeats 400000 in
theorem sziss_any (A : Option Addr) (n c B : Nat) (zss : List (List Int)) (L : Int) (hL : 0 ≤ L ∧ L ≤ 1048576) (w : World) (hr : ReadsS w B A n zss) (hn : n ≤ maxLen) (hz : ∀ z ∈ zss, z.length ≤ maxLen) :
    Calls Try.prog 75 #[.slice A n c, .int .i64 L] w fun e w' => e = .returned (.int .i64 (szR L n zss)) ∧ w = w' := by
  obtain ⟨r, hrr⟩ : ∃ r, szR L n zss = r := ⟨_, rfl⟩
  rw [hrr]
  have HR := hide hrr
  have HL := hide hr.len
  have HZ := hide hz
  unfold maxLen at hn
  obtain ⟨hL1, hL2⟩ := hL
  clear hrr hz
  by_cases hlt : L < n
  · obtain rfl : r = -1 := by
      rw [← unhide HR]
      unfold szR
      rw [if_pos (by omega)]
    have h1 : L - (n : Int) < 0 := by omega
    go_enter Try.func75, Try.ntmps75
    go_wp2
    go_ret
    exact ⟨rfl, rfl⟩
  · have h1 : ¬ L - (n : Int) < 0 := by omega
    go_enter Try.func75, Try.ntmps75
    go_wp2
    go_loop [1, 5] (fun lv i => ∃ (k : Nat) (l : Int), k ≤ n ∧ i = .int .i64 k ∧ lv = .int .i64 l ∧ 0 ≤ l ∧ l ≤ 1048576 ∧ Hid (l = L - n - tot (zss.take k))) (fun _ i => n - (intOf i).toNat)
    case atStart => exact ⟨0, L - n, Nat.zero_le _, rfl, by go_num, by omega, by omega, by exact (by simp [tot] : L - (n : Int) = L - n - tot (zss.take 0))⟩
    case round =>
      obtain ⟨k, l, hk, rfl, rfl, hl0, hl1, hle⟩ := hrel
      by_cases hlt2 : k < n
      · obtain ⟨ad, A1, c1, z, rfl, hzk, hcell, _⟩ := hr.at_ hlt2
        have hzl := unhide HZ z (List.mem_of_getElem? hzk)
        have hst := tot_step hzk
        have htk := tot_take zss (k + 1)
        have H1 := hide (szi_any A1 z.length c1 l ⟨hl0, hl1⟩ hzl w)
        by_cases hlt3 : l < z.length
        · rw [if_pos hlt3] at H1
          obtain rfl : r = -1 := by
            rw [← unhide HR]
            unfold szR
            have := unhide hle
            rw [if_pos (by omega)]
          clear hzk hzl hst htk hle
          go_wp2_with fail
          refine (unhide H1).mono ?_
          rintro e w' ⟨rfl, rfl⟩
          clear H1
          go_wp2
          go_ret
          exact ⟨rfl, rfl⟩
        · rw [if_neg hlt3] at H1
          have hnext : Hid (l - (z.length : Int) = L - n - tot (zss.take (k + 1))) := hide (by have := unhide hle; omega)
          have h0 : ¬ l - (z.length : Int) < 0 := by omega
          clear hzk hzl hst htk hle
          go_wp2_with fail
          refine (unhide H1).mono ?_
          rintro e w' ⟨rfl, rfl⟩
          clear H1
          go_wp2
          go_round
          case rel => exact ⟨k + 1, _, by omega, by go_num, rfl, by omega, by omega, hnext⟩
          case measure => simp [intOf]; omega
      · obtain rfl : n = k := by omega
        obtain rfl : r = l := by
          rw [← unhide HR]
          have := unhide hle
          rw [List.take_of_length_le (by rw [unhide HL]; exact Nat.le_refl _)] at this
          unfold szR
          rw [if_neg (by omega), this]
        clear hle
        go_wp2
        go_ret
        exact ⟨rfl, rfl⟩
set_option maxHeartbeats 400000 in
theorem toiss_any (A : Option Addr) (n c B : Nat) (zss : List (List Int)) (w : World) (hr : ReadsS w B A n zss) (hB : B ≤ w.heap.size) (hn : n ≤ 1048576) (hz : ∀ z ∈ zss, z.length ≤ 1048576) :
    Calls Try.prog 76 #[.slice A n c] w fun e w' => ∃ g, e = .returned (.slice (some ⟨g, 0, none⟩) n n) ∧ IntsS w' w.heap.size (.slice (some ⟨g, 0, none⟩) n n) zss ∧ Below w.heap.size w w' := by
  obtain ⟨i0, hi, hz0, hz1, hz2⟩ := info_parts rowsInfo1
  have HL := hide hr.len
  have HZ := hide hz
  clear hz
  go_enter Try.func76, Try.ntmps76
  go_wp2_with (first
    | (at_make; refine wpList_make_full _ rfl (.tmp 6) (.tmp 6) 25 rfl w.heap.size 24 i0 (.slice none 0 0) 1 Try.underlying25 hi hz0 hz1 _ _ _ _ n rfl rfl (by first | rfl | omega) (by first | rfl | omega) (by rw [hz2]; omega) (by unfold maxLen; omega) (Nat.le_refl _) ?_; intro w1 hown hg))
  have hF := Filled.start (zss := zss) (unhide HL) (Below.refl w.heap.size w) hown hg
  clear hown hg
  obtain ⟨g, hgw⟩ : ∃ g, g = w.heap.size := ⟨_, rfl⟩
  rw [← hgw] at hF ⊢
  clear hgw
  go_loopw [4] (fun i wr => ∃ k : Nat, k ≤ n ∧ i = .int .i64 k ∧ Filled w wr g n zss k) (fun i _ => n - (intOf i).toNat)
  case atStart => exact ⟨0, Nat.zero_le _, rfl, hF⟩
  case round =>
    obtain ⟨k, hk, rfl, hF⟩ := hrel
    by_cases hlt : k < n
    · obtain ⟨ad, A1, c1, z, rfl, hzk, hcell, hR⟩ := (hr.below (hF.below.mono hB)).at_ hlt
      have hzl := unhide HZ z (List.mem_of_getElem? hzk)
      have H1 := hide (toi_any A1 z.length c1 B z wr hR (Nat.le_trans hB hF.below.size) (by omega))
      have HF := hide hF
      have HZK := hide hzk
      clear hzk hR hzl hF
      go_wp2_with fail
      refine (unhide H1).mono ?_
      rintro e w3 ⟨rfl, o3, d3⟩
      obtain ⟨⟨old, hold⟩, hfz⟩ := (unhide HF).old d3 hlt
      have hF2 := (unhide HF).put (unhide HZK) d3 o3
      clear H1 d3 o3 HF HZK
      go_wp2
      go_roundw
      case rel => exact ⟨k + 1, by omega, by go_num, hF2⟩
      case measure => simp [intOf]; omega
    · obtain rfl : n = k := by omega
      obtain ⟨hbw, vs, hown, hin⟩ := hF
      have hfin : IntsS wr w.heap.size (.slice (some ⟨g, 0, none⟩) n n) zss := by
        have h1 := unhide HL
        subst h1
        rw [fillS_all] at hin
        exact ⟨vs, hown, hin⟩
      clear hown hin
      go_wp2
      go_ret
      exact ⟨g, rfl, hfin, hbw⟩
end Go.Proofs.Ytcoegjhhhnfplaa


/-
  A STRUCT'S FIELD []int AS PART OF AN ARGUMENT: how it reads.
-/

namespace Go.Proofs.Ytcoegjhhhnfplaa
set_option maxRecDepth 100000
open Go.RowKit Go.ChangeShapes Go.WideShapes Go.ChangeAt

/-- A field []int, as 'Reads'. -/
theorem open_ints_cell {H : Type} {enc : TypeId × Value → H} {P : Program} {w : World} {t e : TypeId} {v : Value} {y : DataW H × List MemPlace} {k : Nat} (ht : P.underlying t = some (.slice e)) (he : P.underlying e = some (.int .i64)) (hc : P.cellsOf e = 1)
    (hf : DataW.trod enc P w 0 (fun _ => true) true k t [v] = some y) (hlt : ∀ x ∈ y.2, x.block < w.heap.size) :
    ∃ (A : Option Addr) (n c : Nat) (zs : List Int), v = .slice A n c ∧ Reads w w.heap.size A n (i64s zs) ∧ n ≤ maxLen ∧ Small zs := by
  rcases open_ints ht he hc hf with ⟨hcs, hx⟩ | ⟨a, len', cap', zs, hcs, _, hl, hm, hz, hx, hcell, hws⟩
  · injection hcs with hcs
    subst hcs
    exact ⟨none, 0, 0, [], rfl, Reads.none_, Nat.zero_le _, fun z hz => by simp at hz⟩
  · injection hcs with hcs
    subst hcs
    subst hx
    simp only [if_true] at hz
    refine ⟨some a, len', cap', zs.take len', rfl, ⟨by rw [i64_length, List.length_take]; omega, fun hn => ⟨a, rfl, lt_of_row (j := 0) hlt (by omega), fun j u hu => ?_⟩⟩, by omega, small_of_wf fun z hz => hws z (List.mem_of_mem_take hz)⟩
    unfold i64s at hu
    rw [List.getElem?_map, List.getElem?_take] at hu
    by_cases hj : j < len'
    · rw [if_pos hj] at hu
      rw [hcell j (by omega), ← hu, List.getD_eq_getElem?_getD]
      have : zs[j]? = some zs[j] := List.getElem?_eq_getElem (by omega)
      rw [this]; rfl
    · rw [if_neg hj] at hu; cases hu
end Go.Proofs.Ytcoegjhhhnfplaa
