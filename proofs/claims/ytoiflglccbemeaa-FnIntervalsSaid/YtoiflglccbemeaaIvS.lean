
/-
  spec.l1Min, spec.l5Run, spec.IsInterval, spec.IntervalsOf, spec.IsSimple, spec.CountIntervals, by their contracts.
-/
import Derived.Test.YtoiflglccbemeaaIv
import Derived.Test.YtoiflglccbemeaaParts
import Derived.Test.YtoiflglccbemeaaJoin
namespace Go.Proofs.Ytoiflglccbemeaa
set_option maxRecDepth 100000
open Go.RowKit

theorem smin_any (a b : Int) (w : World) : Calls Try.prog 49 #[.int .i64 a, .int .i64 b] w fun e w' => e = .returned (.int .i64 (min a b)) ∧ w' = w := by
  by_cases h : a < b
  · have e : min a b = a := by omega
    rw [e]
    go_enter Try.func49, Try.ntmps49
    go_wp2
    go_ret
    exact ⟨rfl, rfl⟩
  · have e : min a b = b := by omega
    rw [e]
    go_enter Try.func49, Try.ntmps49
    go_wp2
    go_ret
    exact ⟨rfl, rfl⟩

/-- The least and the greatest one so far, from the first one on. -/
def loF (p : List Int) (a j : Nat) : Int := min (at0 p a) (lo (seg p a j))
def hiF (p : List Int) (a j : Nat) : Int := max (at0 p a) (hi (seg p a j))
theorem loF_all {p : List Int} {a k : Nat} (ha : a + k < p.length) : loF p a (k + 1) = lo (seg p a (k + 1)) := by
  have h1 := (lo_le (seg p a (k + 1))).1 (at0 p a) (mem_seg.2 ⟨a, Nat.le_refl _, by omega, at0_some (by omega)⟩)
  unfold loF; omega
theorem hiF_all {p : List Int} {a k : Nat} (ha : a + k < p.length) : hiF p a (k + 1) = hi (seg p a (k + 1)) := by
  have h1 := (le_hi (seg p a (k + 1))).1 (at0 p a) (mem_seg.2 ⟨a, Nat.le_refl _, by omega, at0_some (by omega)⟩)
  unfold hiF; omega
section
variable {p : List Int} (h : isP p = true)
include h
theorem loF_zero {a : Nat} (ha : a < p.length) : loF p a 0 = at0 p a := by
  have := isP_range h (at0_some ha)
  have := isP_le h
  unfold loF; rw [seg_zero, lo_nil]; omega
theorem hiF_zero {a : Nat} (ha : a < p.length) : hiF p a 0 = at0 p a := by
  have := isP_range h (at0_some ha)
  unfold hiF; rw [seg_zero, hi_nil]; omega
theorem loF_bnd (a j : Nat) (ha : a < p.length) : 1 ≤ loF p a j ∧ loF p a j ≤ 8 := by
  have := isP_range h (at0_some ha)
  have := lo_ge h a j
  have := (lo_le (seg p a j)).2
  unfold loF; omega
theorem hiF_bnd (a j : Nat) (ha : a < p.length) : 1 ≤ hiF p a j ∧ hiF p a j ≤ 8 := by
  have := isP_range h (at0_some ha)
  have := isP_le h
  have := hi_le8 h a j
  have := (le_hi (seg p a j)).2
  unfold hiF; omega
end
theorem loF_step {p : List Int} {a j : Nat} {z : Int} (hz : p[a + j]? = some z) : min (loF p a j) z = loF p a (j + 1) := by
  unfold loF; rw [seg_snoc hz, lo_snoc]; omega
theorem hiF_step {p : List Int} {a j : Nat} {z : Int} (hz : p[a + j]? = some z) : max (hiF p a j) z = hiF p a (j + 1) := by
  unfold hiF; rw [seg_snoc hz, hi_snoc]; omega

set_option maxHeartbeats 800000 in
theorem srun_any (A : Option Addr) (n c B : Nat) (zs : List Int) (a k : Nat) (F T : Int) (hF : F = (a : Int)) (hT : T = (a : Int) + k) (b : Bool) (hb : iv zs a k = b) (w : World) (h : Arg w B A n c zs) (hp : isP zs = true) (hk : a + k < n) :
    Calls Try.prog 50 #[.slice A n c, .int .i64 F, .int .i64 T] w fun e w' => e = .returned (.bool b) ∧ w' = w := by
  subst hF
  subst hT
  have hl := h.len
  have hn8 : n ≤ 8 := by have := isP_le hp; omega
  have HL := hide hl
  have HP := hide hp
  have HR := hide h.reads
  have HB := hide hb
  obtain ⟨ad, u, rfl, _, hu, hc⟩ := h.reads.at_ (show a < n by omega)
  obtain ⟨x, hx, rfl⟩ := i64_at hu
  have hx0 : x = at0 zs a := (at0_of hx).symm
  have hl0 : x = loF zs a 0 := by rw [hx0, loF_zero hp (by omega)]
  have hh0 : x = hiF zs a 0 := by rw [hx0, hiF_zero hp (by omega)]
  have HL0 := hide hl0
  have HH0 := hide hh0
  have hnn : a < n := by omega
  clear h hl hp hu hx hx0 hl0 hh0 hb
  go_enter Try.func50, Try.ntmps50
  go_wp2
  go_loop [7, 8, 9] (fun l m i => ∃ j : Nat, j ≤ k + 1 ∧ i = .int .i64 ((a : Int) + j) ∧ l = .int .i64 (loF zs a j) ∧ m = .int .i64 (hiF zs a j)) (fun _ _ i => a + k + 1 - (intOf i).toNat)
  case atStart => exact ⟨0, by omega, by go_num, by rw [← unhide HL0], by rw [← unhide HH0]⟩
  case round =>
    obtain ⟨j, hj, rfl, rfl, rfl⟩ := hrel
    have lb := loF_bnd (unhide HP) a j (by rw [unhide HL]; exact hnn)
    have hb := hiF_bnd (unhide HP) a j (by rw [unhide HL]; exact hnn)
    by_cases hlt : j ≤ k
    · obtain ⟨ad', u', hA, _, hu, hc'⟩ := (unhide HR).at_ (show a + j < n by omega)
      injection hA with hA
      subst hA
      obtain ⟨z, hz, rfl⟩ := i64_at hu
      have hlt' : (a : Int) + j ≤ (a : Int) + k := by omega
      have hs1 := hide (loF_step hz)
      have hs2 := hide (hiF_step hz)
      clear hu hz
      go_wp2_with fail
      refine (smin_any _ _ _).mono ?_
      rintro e w2 ⟨rfl, rfl⟩
      rw [unhide hs1]
      go_wp2_with fail
      refine (max_any _ _ _).mono ?_
      rintro e w3 ⟨rfl, rfl⟩
      rw [unhide hs2]
      go_wp2
      go_round
      case rel => exact ⟨j + 1, by omega, by go_num, rfl, rfl⟩
      case measure => simp [intOf]; omega
    · obtain rfl : j = k + 1 := by omega
      have hlt' : ¬ (a : Int) + ((k + 1 : Nat) : Int) ≤ (a : Int) + k := by omega
      have e1 := loF_all (p := zs) (a := a) (k := k) (by rw [unhide HL]; omega)
      have e2 := hiF_all (p := zs) (a := a) (k := k) (by rw [unhide HL]; omega)
      have hE : Hid ((hiF zs a (k + 1) - loF zs a (k + 1) == (a : Int) + k - a) = b) := hide (by
        rw [← unhide HB, e1, e2, show (a : Int) + k - a = k by omega, Bool.eq_iff_iff, iv_true]; simp)
      clear e1 e2
      go_wp2
      go_ret
      exact ⟨ret_bool (unhide hE), rfl⟩

set_option maxHeartbeats 800000 in
theorem sisiv_any (A : Option Addr) (n c B : Nat) (zs : List Int) (f t : Int) (hf : -9223372036854775808 ≤ f ∧ f ≤ 9223372036854775807) (ht : -9223372036854775808 ≤ t ∧ t ≤ 9223372036854775807) (w : World) (h : Arg w B A n c zs) :
    Calls Try.prog 22 #[.slice A n c, .int .i64 f, .int .i64 t] w (GivesB w (isIv zs f t)) := by
  obtain ⟨b, hb⟩ : ∃ b, isP zs = b := ⟨_, rfl⟩
  have H0 := hide (sisperm_any A n c B zs b hb w h.reads h.le h.cap)
  cases b with
  | false =>
    rw [isIv_no0 hb]
    clear hb h
    go_enter Try.func22, Try.ntmps22
    go_wp2_with fail
    refine (unhide H0).mono ?_
    rintro e w1 ⟨rfl, hd⟩
    have hb := hd.below w.heap.size
    clear H0 hd
    go_wp2
    go_ret
    exact ⟨rfl, hb⟩
  | true =>
    have hl := h.len
    by_cases hr : 1 ≤ f ∧ f ≤ t ∧ t ≤ (n : Int)
    · obtain ⟨h1, h2, h3⟩ := hr
      obtain ⟨a, rfl⟩ : ∃ a : Nat, f = (a : Int) + 1 := ⟨(f - 1).toNat, by omega⟩
      obtain ⟨k, rfl⟩ : ∃ k : Nat, t = (a : Int) + 1 + k := ⟨(t - (a + 1)).toNat, by omega⟩
      rw [isIv_at hb (by omega)]
      obtain ⟨b, hbv⟩ : ∃ b, iv zs a k = b := ⟨_, rfl⟩
      rw [hbv]
      have H1 := hide (fun w' (hd : Drew w w') F T (hF : F = (a : Int)) (hT : T = (a : Int) + k) => srun_any A n c B zs a k F T hF hT b hbv w' (h.below (hd.below _)) hb (by omega))
      clear hb h hl hbv
      go_enter Try.func22, Try.ntmps22
      go_wp2_with fail
      refine (unhide H0).mono ?_
      rintro e w1 ⟨rfl, hd⟩
      have hbl := hd.below w.heap.size
      have H2 := hide (unhide H1 w1 hd)
      clear H0 H1 hd
      go_wp2_with fail
      refine (unhide H2 _ _ (by omega) (by omega)).mono ?_
      rintro e w2 ⟨rfl, rfl⟩
      clear H2
      go_wp2
      go_ret
      exact ⟨rfl, hbl⟩
    · rw [isIv_no (by rw [hl]; exact hr)]
      clear hb h hl
      by_cases h1 : 1 ≤ f
      · by_cases h2 : f ≤ t
        · have h3 : ¬ t ≤ (n : Int) := fun h3 => hr ⟨h1, h2, h3⟩
          clear hr
          go_enter Try.func22, Try.ntmps22
          go_wp2_with fail
          refine (unhide H0).mono ?_
          rintro e w1 ⟨rfl, hd⟩
          have hb := hd.below w.heap.size
          clear H0 hd
          go_wp2
          go_ret
          exact ⟨rfl, hb⟩
        · clear hr
          go_enter Try.func22, Try.ntmps22
          go_wp2_with fail
          refine (unhide H0).mono ?_
          rintro e w1 ⟨rfl, hd⟩
          have hb := hd.below w.heap.size
          clear H0 hd
          go_wp2
          go_ret
          exact ⟨rfl, hb⟩
      · clear hr
        go_enter Try.func22, Try.ntmps22
        go_wp2_with fail
        refine (unhide H0).mono ?_
        rintro e w1 ⟨rfl, hd⟩
        have hb := hd.below w.heap.size
        clear H0 hd
        go_wp2
        go_ret
        exact ⟨rfl, hb⟩

set_option maxHeartbeats 1600000 in
theorem sivs_any (A : Option Addr) (n c B : Nat) (zs : List Int) (w : World) (h : Arg w B A n c zs) :
    Calls Try.prog 26 #[.slice A n c] w (GivesSS w (ivsR zs)) := by
  obtain ⟨b, hb⟩ : ∃ b, isP zs = b := ⟨_, rfl⟩
  have hI0 := IntsS.made0 w w.heap.size (Nat.le_refl _)
  have hbel := (Below.refl w.heap.size w).alloc (Nat.le_refl _) (.cells #[] 24)
  have H1 := hide (fun w' (hb' : Below w.heap.size w w') => sisperm_any A n c B zs b hb w' (h.below hb').reads h.le h.cap)
  have hl := h.len
  cases b with
  | false =>
    have hn0 : 0 < n := by
      by_cases h0 : 0 < n
      · exact h0
      · obtain rfl : zs = [] := List.eq_nil_of_length_eq_zero (by omega)
        exact absurd hb (by decide)
    rw [ivsR_no hb]
    have H2 := hide (unhide H1 _ hbel)
    clear hb h hl H1
    go_enter Try.func26, Try.ntmps26
    go_wp2
    go_loopw [3, 4, 5] (fun v i _ wr => i = .int .i64 0 ∧ v = .slice (some ⟨w.heap.size, 0, none⟩) 0 0 ∧ wr = w.alloc (.cells #[] 24)) (fun _ i _ _ => 0)
    case atStart => exact ⟨rfl, rfl, rfl⟩
    case round =>
      obtain ⟨rfl, rfl, rfl⟩ := hrel
      go_wp2_with fail
      refine (unhide H2).mono ?_
      rintro e w2 ⟨rfl, hd⟩
      have hI2 := hI0.below (hd.below _)
      have hb2 := hbel.trans (hd.below w.heap.size)
      clear H2 hd hI0 hbel
      go_wp2
      go_ret
      exact GivesSS.mk hI2 hb2
  | true =>
    have hn8 : n ≤ 8 := by have := isP_le hb; omega
    have HL := hide hl
    have HC := hide h
    have HP := hide hb
    have HR : Hid (ivsR zs = ivSK zs n) := hide (by rw [ivsR_yes hb, hl])
    have hI1 : IntsS (w.alloc (.cells #[] 24)) w.heap.size (.slice (some ⟨w.heap.size, 0, none⟩) 0 0) (ivSK zs 0) := hI0
    clear hb h hl hI0
    go_enter Try.func26, Try.ntmps26
    go_wp2
    go_loopw [3, 4, 5] (fun v i _ wr => ∃ a : Nat, a ≤ n ∧ i = .int .i64 a ∧ Below w.heap.size w wr ∧ IntsS wr w.heap.size v (ivSK zs a)) (fun _ i _ _ => n - (intOf i).toNat)
    case atStart => exact ⟨0, Nat.zero_le _, rfl, hbel, hI1⟩
    case round =>
      obtain ⟨a, ha, rfl, hbw, hI⟩ := hrel
      clear hI1 hbel
      by_cases hlt : a < n
      · have H2 := hide (unhide H1 wr hbw)
        go_wp2_with fail
        refine (unhide H2).mono ?_
        rintro e w2 ⟨rfl, hd⟩
        have hb2 := hbw.trans (hd.below w.heap.size)
        have hI2 : IntsS w2 w.heap.size u3 (ivSK zs a ++ rowS zs a 0) := by rw [rowS, List.append_nil]; exact hI.below (hd.below _)
        have hI3 : IntsS w2 w.heap.size u3 (ivSK zs a ++ rowS zs a 1) := by rw [rowS_no1 (by omega)]; exact hI2
        clear H2 hd hI2 hI hbw
        go_wp2
        go_loopw [3, 5] (fun v i wi => ∃ k : Nat, 1 ≤ k ∧ a + k ≤ n ∧ i = .int .i64 ((a : Int) + k) ∧ Below w.heap.size w wi ∧ IntsS wi w.heap.size v (ivSK zs a ++ rowS zs a k)) (fun _ i _ => n - (intOf i).toNat)
        case atStart => exact ⟨1, Nat.le_refl _, by omega, by go_num, hb2, hI3⟩
        case round =>
          obtain ⟨k, hk1, hk, rfl, hbw, hI⟩ := hrel
          clear hI3 hb2
          by_cases hlt2 : a + k < n
          · have hlt2' : (a : Int) + k < (n : Int) := by omega
            by_cases hw : k + 1 < n
            · have hw' : (a : Int) + k - a + 1 < (n : Int) := by omega
              cases hv : iv zs a k with
              | true =>
                have H3 := hide (fun F T (hF : F = (a : Int)) (hT : T = (a : Int) + k) => srun_any A n c B zs a k F T hF hT true hv wr ((unhide HC).below hbw) (unhide HP) hlt2)
                have hrow := hide (rowS_yes (p := zs) (by rw [unhide HL]; exact ⟨hk1, hw⟩) hv)
                have hsz := hbw.size
                have hln : (ivSK zs a ++ rowS zs a k).length ≤ 1048576 := by
                  have h1 := pick_K (p := zs) (m := a) (by rw [unhide HL]; omega)
                  have h2 := pick_row (p := zs) (a := a) (k := k) (by rw [unhide HL]; omega)
                  have h3 := pick_le zs.length (ivK zs a)
                  have h4 := pick_le zs.length (rowI zs a k)
                  have h5 := ivK_le zs a
                  have h6 := rowI_le zs a k
                  have h7 : a * zs.length ≤ 8 * 8 := Nat.mul_le_mul (by omega) (by rw [unhide HL]; exact hn8)
                  rw [h1] at h3
                  rw [h2] at h4
                  rw [List.length_append]; omega
                clear hv
                go_wp2_with fail
                refine (unhide H3 _ _ (by omega) (by omega)).mono ?_
                rintro e w4 ⟨rfl, rfl⟩
                have hbel2 := (Below.refl _ w4).alloc (Nat.le_refl _) (.cells #[.int .i64 ((a : Int) + 1), .int .i64 ((a : Int) + k + 1)] 3)
                have hu := Ints.made2 w4 _ ((a : Int) + 1) ((a : Int) + k + 1) (Nat.le_refl _)
                have hb6 := below_after hbw hbel2
                clear H3
                go_wp2_with (first
                  | (at_builtin; refine wpList_push_row rfl (.tmp 38) (.tmp 44) rfl w.heap.size w _ _ _ _ _ _ rfl ?c1 ?c2 hI hbel2 hu hln hb6 hsz ?_))
                case c1 => simp; rfl
                case c2 => simp
                intro v5 w5 hI5 hb5
                have hI7 : IntsS w5 w.heap.size v5 (ivSK zs a ++ rowS zs a (k + 1)) := by rw [unhide hrow]; exact hI5
                clear hI5 hI hbel2 hu hb6 hbw
                go_wp2
                go_roundw
                case rel => exact ⟨k + 1, by omega, by omega, by go_num, hb5, hI7⟩
                case measure => simp [intOf]; omega
              | false =>
                have H3 := hide (fun F T (hF : F = (a : Int)) (hT : T = (a : Int) + k) => srun_any A n c B zs a k F T hF hT false hv wr ((unhide HC).below hbw) (unhide HP) hlt2)
                have hI7 : IntsS wr w.heap.size u3 (ivSK zs a ++ rowS zs a (k + 1)) := by rw [rowS_no hv]; exact hI
                clear hv hI
                go_wp2_with fail
                refine (unhide H3 _ _ (by omega) (by omega)).mono ?_
                rintro e w4 ⟨rfl, rfl⟩
                go_wp2
                go_roundw
                case rel => exact ⟨k + 1, by omega, by omega, by go_num, hbw, hI7⟩
                case measure => simp [intOf]; omega
            · have hw' : ¬ (a : Int) + k - a + 1 < (n : Int) := by omega
              have hI7 : IntsS wr w.heap.size u3 (ivSK zs a ++ rowS zs a (k + 1)) := by rw [rowS_no1 (by rw [unhide HL]; omega)]; exact hI
              clear hI
              go_wp2
              go_roundw
              case rel => exact ⟨k + 1, by omega, by omega, by go_num, hbw, hI7⟩
              case measure => simp [intOf]; omega
          · have hk2 : k = n - a := by omega
            have hI5 : IntsS wr w.heap.size u3 (ivSK zs (a + 1)) := by rw [ivSK, unhide HL, ← hk2]; exact hI
            have hlt2' : ¬ (a : Int) + k < (n : Int) := by omega
            clear hI hk2
            go_wp2
            go_roundw
            case rel => exact ⟨a + 1, by omega, by go_num, hbw, hI5⟩
            case measure => simp [intOf]; omega
      · obtain rfl : n = a := by omega
        have hI5 : IntsS wr w.heap.size u3 (ivsR zs) := by rw [unhide HR]; exact hI
        clear hI
        go_wp2
        go_ret
        exact GivesSS.mk hI5 hbw

theorem ssimple_any (A : Option Addr) (n c B : Nat) (zs : List Int) (w : World) (h : Arg w B A n c zs) :
    Calls Try.prog 24 #[.slice A n c] w (GivesB w (simpleP zs)) := by
  obtain ⟨b, hb⟩ : ∃ b, isP zs = b := ⟨_, rfl⟩
  have H0 := hide (sisperm_any A n c B zs b hb w h.reads h.le h.cap)
  have hl := h.len
  unfold simpleP
  rw [hb, hl]
  cases b with
  | false =>
    clear hb h hl
    simp only [Bool.false_and]
    go_enter Try.func24, Try.ntmps24
    go_wp2_with fail
    refine (unhide H0).mono ?_
    rintro e w1 ⟨rfl, hd⟩
    have hb := hd.below w.heap.size
    clear H0 hd
    go_wp2
    go_ret
    exact ⟨rfl, hb⟩
  | true =>
    by_cases h0 : 0 < n
    · have H1 := hide (fun w' (hb' : Below w.heap.size w w') => sivs_any A n c B zs w' (h.below hb'))
      obtain ⟨m, hm⟩ : ∃ m, m = (ivsR zs).length := ⟨_, rfl⟩
      have HM := hide hm
      rw [← hm, show decide (0 < n) = true from decide_eq_true h0, Bool.true_and, Bool.true_and]
      have hm64 : m ≤ 64 := by rw [hm]; exact (ivsR_small zs).1
      have h0' : (0 : Int) < (n : Int) := by omega
      clear hb h hl hm
      go_enter Try.func24, Try.ntmps24
      go_wp2_with fail
      refine (unhide H0).mono ?_
      rintro e w1 ⟨rfl, hd⟩
      have hb1 := hd.below w.heap.size
      have H2 := hide (unhide H1 w1 hb1)
      clear H0 H1 hd
      go_wp2_with fail
      refine (unhide H2).mono ?_
      rintro e w2 ⟨A2, c2, rfl, hP2, hb2⟩
      have hb3 := below_after hb1 hb2
      rw [← unhide HM]
      clear H2 hP2 hb1 hb2
      go_wp2
      go_ret
      exact ⟨ret_bool (decide_eq_decide.2 (by omega)), hb3⟩
    · have h0' : ¬ (0 : Int) < (n : Int) := by omega
      rw [show decide (0 < n) = false from decide_eq_false h0]
      simp only [Bool.and_false, Bool.false_and]
      clear hb h hl h0
      go_enter Try.func24, Try.ntmps24
      go_wp2_with fail
      refine (unhide H0).mono ?_
      rintro e w1 ⟨rfl, hd⟩
      have hb := hd.below w.heap.size
      clear H0 hd
      go_wp2
      go_ret
      exact ⟨rfl, hb⟩

theorem scnt_any (A : Option Addr) (n c B : Nat) (zs : List Int) (w : World) (h : Arg w B A n c zs) :
    Calls Try.prog 28 #[.slice A n c] w (GivesN w (cntR zs)) := by
  obtain ⟨b, hb⟩ : ∃ b, isP zs = b := ⟨_, rfl⟩
  have H0 := hide (sisperm_any A n c B zs b hb w h.reads h.le h.cap)
  have hl := h.len
  cases b with
  | false =>
    rw [cntR_no hb]
    clear hb h hl
    go_enter Try.func28, Try.ntmps28
    go_wp2_with fail
    refine (unhide H0).mono ?_
    rintro e w1 ⟨rfl, hd⟩
    have hb := hd.below w.heap.size
    clear H0 hd
    go_wp2
    go_ret
    exact ⟨rfl, hb⟩
  | true =>
    rw [cntR_sum hb, hl]
    have H1 := hide (fun w' (hb' : Below w.heap.size w w') => sivs_any A n c B zs w' (h.below hb'))
    obtain ⟨m, hm⟩ : ∃ m, m = (ivsR zs).length := ⟨_, rfl⟩
    have HM := hide hm
    have hm64 : m ≤ 64 := by rw [hm]; exact (ivsR_small zs).1
    have hn := h.le
    rw [← hm]
    obtain ⟨x, hx⟩ : ∃ x, decide ((1 : Int) < (n : Int)) = x := ⟨_, rfl⟩
    have HX := hide hx
    have hr : (if 1 < n then (1 : Int) else 0) = bitI x := by
      rw [← hx]
      by_cases h1 : 1 < n
      · rw [if_pos h1, decide_eq_true (by omega)]; rfl
      · rw [if_neg h1, decide_eq_false (by omega)]; rfl
    rw [hr]
    obtain ⟨v, hv, hv0, hv1⟩ : ∃ v, bitI x = v ∧ 0 ≤ v ∧ v ≤ 1 := ⟨_, rfl, by cases x <;> decide, by cases x <;> decide⟩
    have HV := hide hv
    rw [hv]
    clear hv
    clear hb h hl hm hx hr
    go_enter Try.func28, Try.ntmps28
    go_wp2_with fail
    refine (unhide H0).mono ?_
    rintro e w1 ⟨rfl, hd⟩
    have hb1 := hd.below w.heap.size
    have H2 := hide (unhide H1 w1 hb1)
    clear H0 H1 hd
    go_wp2_with fail
    refine (unhide H2).mono ?_
    rintro e w2 ⟨A2, c2, rfl, hP2, hb2⟩
    have hb3 := below_after hb1 hb2
    rw [← unhide HM]
    clear H2 hP2 hb1 hb2
    go_wp2_with fail
    refine (bit_any _ _).mono ?_
    rintro e w3 ⟨rfl, rfl⟩
    rw [unhide HX, unhide HV]
    go_wp2
    go_ret
    exact ⟨rfl, hb3⟩
end Go.Proofs.Ytoiflglccbemeaa
