
/-
  spec.ClosureOf, by its contract.
-/
import Derived.Test.YtoiflglccbemeaaClo
namespace Go.Proofs.Ytoiflglccbemeaa
set_option maxRecDepth 100000
open Go.RowKit

theorem CInv.lt {p : List Int} {x y : Int} {a b : Nat} (h : CInv p x y a b) : a ≤ b ∧ b < p.length := ⟨h.1.2.2.1, h.1.2.2.2⟩
theorem min_cast (a c : Nat) : min (a : Int) (c : Int) = ((min a c : Nat) : Int) := by omega
theorem max_cast (a c : Nat) : max (a : Int) (c : Int) = ((max a c : Nat) : Int) := by omega

set_option maxHeartbeats 3200000 in
theorem sclo_any (A : Option Addr) (n c B : Nat) (zs : List Int) (f t : Int) (hfb : -9223372036854775808 ≤ f ∧ f ≤ 9223372036854775807) (htb : -9223372036854775808 ≤ t ∧ t ≤ 9223372036854775807) (w : World) (h : Arg w B A n c zs) :
    Calls Try.prog 13 #[.slice A n c, .int .i64 f, .int .i64 t] w (GivesIB w (cloR zs f t) (cloOK zs f t)) := by
  obtain ⟨b, hb⟩ : ∃ b, isP zs = b := ⟨_, rfl⟩
  have H0 := hide (sisperm_any A n c B zs b hb w h.reads h.le h.cap)
  have hl := h.len
  cases b with
  | false =>
    rw [cloR_no (cloOK_no1 hb), cloOK_no1 hb]
    clear hb h hl
    go_enter Try.func13, Try.ntmps13
    go_wp2_with fail
    refine (unhide H0).mono ?_
    rintro e w1 ⟨rfl, hd⟩
    have hb := hd.below w.heap.size
    have hb2 := hb.alloc hd.below_size (.cells #[] 3)
    have hI := Ints.made0 w1 w.heap.size hd.below_size
    clear H0 hd hb
    go_wp2
    go_ret2
    exact GivesIB.mk _ hI hb2
  | true =>
    by_cases hf : 1 ≤ f ∧ f ≤ (n : Int)
    rotate_left
    · rw [cloR_no (cloOK_no2 (by rw [hl]; exact hf)), cloOK_no2 (by rw [hl]; exact hf)]
      have H1 := hide (fun w => l1in_any f 1 (n : Int) false (decide_eq_false hf) w)
      clear hb h hl hf
      go_enter Try.func13, Try.ntmps13
      go_wp2_with fail
      refine (unhide H0).mono ?_
      rintro e w1 ⟨rfl, hd⟩
      go_wp2_with fail
      refine (unhide H1 _).mono ?_
      rintro e w2 ⟨rfl, rfl⟩
      have hb := hd.below w.heap.size
      have hb2 := hb.alloc hd.below_size (.cells #[] 3)
      have hI := Ints.made0 w2 w.heap.size hd.below_size
      clear H0 H1 hd hb
      go_wp2
      go_ret2
      exact GivesIB.mk _ hI hb2
    by_cases ht : 1 ≤ t ∧ t ≤ (n : Int)
    rotate_left
    · rw [cloR_no (cloOK_no3 (by rw [hl]; exact ht)), cloOK_no3 (by rw [hl]; exact ht)]
      have H1 := hide (fun w => l1in_any f 1 (n : Int) true (decide_eq_true hf) w)
      have H2 := hide (fun w => l1in_any t 1 (n : Int) false (decide_eq_false ht) w)
      clear hb h hl hf ht
      go_enter Try.func13, Try.ntmps13
      go_wp2_with fail
      refine (unhide H0).mono ?_
      rintro e w1 ⟨rfl, hd⟩
      go_wp2_with fail
      refine (unhide H1 _).mono ?_
      rintro e w2 ⟨rfl, rfl⟩
      go_wp2_with fail
      refine (unhide H2 _).mono ?_
      rintro e w3 ⟨rfl, rfl⟩
      have hb := hd.below w.heap.size
      have hb2 := hb.alloc hd.below_size (.cells #[] 3)
      have hI := Ints.made0 w3 w.heap.size hd.below_size
      clear H0 H1 H2 hd hb
      go_wp2
      go_ret2
      exact GivesIB.mk _ hI hb2
    have hok : cloOK zs f t = true := cloOK_yes hb (by rw [hl]; exact hf) (by rw [hl]; exact ht)
    rw [cloR_yes hok, hok]
    have H1 := hide (fun w => l1in_any f 1 (n : Int) true (decide_eq_true hf) w)
    have H2 := hide (fun w => l1in_any t 1 (n : Int) true (decide_eq_true ht) w)
    have hn8 : n ≤ 8 := by have := isP_le hb; omega
    have HL := hide hl
    have HP := hide hb
    have HC := hide h
    obtain ⟨hf1, hf2⟩ := hf
    obtain ⟨ht1, ht2⟩ := ht
    obtain ⟨x, y, hx, hy⟩ : ∃ x y, min f t = x ∧ max f t = y := ⟨_, _, rfl, rfl⟩
    have hxy : 1 ≤ x ∧ x ≤ y ∧ y ≤ (n : Int) := by omega
    obtain ⟨hx1, hxy1, hy1⟩ := hxy
    rw [hx, hy]
    have HX := hide (And.intro hx hy)
    have HI0 := hide (CInv.start (p := zs) hx1 hxy1 (by rw [hl]; exact hy1))
    clear hb h hl hok hx hy
    go_enter Try.func13, Try.ntmps13
    go_wp2_with fail
    refine (unhide H0).mono ?_
    rintro e w1 ⟨rfl, hd⟩
    go_wp2_with fail
    refine (unhide H1 _).mono ?_
    rintro e w2 ⟨rfl, rfl⟩
    go_wp2_with fail
    refine (unhide H2 _).mono ?_
    rintro e w3 ⟨rfl, rfl⟩
    clear H0 H1 H2
    go_wp2_with fail
    refine (smin_any _ _ _).mono ?_
    rintro e w4 ⟨rfl, rfl⟩
    rw [(unhide HX).1]
    go_wp2_with fail
    refine (max_any _ _ _).mono ?_
    rintro e w5 ⟨rfl, rfl⟩
    rw [(unhide HX).2]
    have hsz := hd.below_size
    have hA := (unhide HC).below (hd.below _)
    have hbw := hd.below w.heap.size
    clear hd HC
    have HA := hide hA
    have hrd := hide hA.reads
    clear hA
    go_wp2
    go_loop [8, 9, 10, 11, 12, 13] (fun a b _ _ _ _ => ∃ a' b' : Nat, a = .int .i64 a' ∧ b = .int .i64 b' ∧ a' ≤ b' ∧ b' < n ∧ Hid (CInv zs x y a' b')) (fun a b _ _ _ _ => n - ((intOf b).toNat - (intOf a).toNat))
    case atStart => exact ⟨(x - 1).toNat, (y - 1).toNat, by congr 1; omega, by congr 1; omega, by omega, by omega, HI0⟩
    case round =>
      obtain ⟨a, b, rfl, rfl, hab, hbn, hI⟩ := hrel
      cases hv : iv zs a (b - a) with
      | true =>
        have H3 := hide (fun F T (hF : F = (a : Int)) (hT : T = (b : Int)) => srun_any A n c B zs a (b - a) F T hF (by omega) true hv w5 (unhide HA) (unhide HP) (by omega))
        have HR := hide ((unhide hI).done hv)
        have hIr := Ints.made2 w5 w.heap.size ((a : Int) + 1) ((b : Int) + 1) hsz
        have hb9 := below_after hbw ((Below.refl w5.heap.size w5).alloc (Nat.le_refl _) (.cells #[.int .i64 ((a : Int) + 1), .int .i64 ((b : Int) + 1)] 3))
        clear hv hI
        go_wp2_with fail
        refine (unhide H3 _ _ rfl rfl).mono ?_
        rintro e w6 ⟨rfl, rfl⟩
        go_wp2
        go_ret2
        rw [unhide HR]
        exact GivesIB.mk _ hIr hb9
      | false =>
        have hI0 := hide (unhide hI)
        have H3 := hide (fun F T (hF : F = (a : Int)) (hT : T = (b : Int)) => srun_any A n c B zs a (b - a) F T hF (by omega) false hv w5 (unhide HA) (unhide HP) (by omega))
        have HV := hide hv
        obtain ⟨ad, u, rfl, _, hu, hc⟩ := (unhide hrd).at_ (show a < n by omega)
        obtain ⟨x0, hx0, rfl⟩ := i64_at hu
        have hx1 : x0 = at0 zs a := (at0_of hx0).symm
        have HL0 := hide (show x0 = loF zs a 0 by rw [hx1, loF_zero (unhide HP) (by rw [unhide HL]; omega)])
        have HH0 := hide (show x0 = hiF zs a 0 by rw [hx1, hiF_zero (unhide HP) (by rw [unhide HL]; omega)])
        have hnn : a < n := by omega
        clear hv hI hu hx0 hx1
        go_wp2_with fail
        refine (unhide H3 _ _ rfl rfl).mono ?_
        rintro e w6 ⟨rfl, rfl⟩
        clear H3
        go_wp2
        go_loop [10, 11, 12] (fun l m i => ∃ j : Nat, j ≤ b - a + 1 ∧ i = .int .i64 ((a : Int) + j) ∧ l = .int .i64 (loF zs a j) ∧ m = .int .i64 (hiF zs a j)) (fun _ _ i => b + 1 - (intOf i).toNat)
        case atStart => exact ⟨0, by omega, by go_num, by rw [← unhide HL0], by rw [← unhide HH0]⟩
        case round =>
          obtain ⟨j, hj, rfl, rfl, rfl⟩ := hrel
          by_cases hlt : j ≤ b - a
          · obtain ⟨ad', u', hA', _, hu, hc'⟩ := (unhide hrd).at_ (show a + j < n by omega)
            injection hA' with hA'
            subst hA'
            obtain ⟨z, hz, rfl⟩ := i64_at hu
            have hlt' : (a : Int) + j ≤ (b : Int) := by omega
            have hs1 := hide (loF_step hz)
            have hs2 := hide (hiF_step hz)
            clear hu hz
            go_wp2_with fail
            refine (smin_any _ _ _).mono ?_
            rintro e w7 ⟨rfl, rfl⟩
            rw [unhide hs1]
            go_wp2_with fail
            refine (max_any _ _ _).mono ?_
            rintro e w8 ⟨rfl, rfl⟩
            rw [unhide hs2]
            go_wp2
            go_round
            case rel => exact ⟨j + 1, by omega, by go_num, rfl, rfl⟩
            case measure => simp [intOf]; omega
          · obtain rfl : j = b - a + 1 := by omega
            have hlt' : ¬ (a : Int) + ((b - a + 1 : Nat) : Int) ≤ (b : Int) := by omega
            rw [loF_all (p := zs) (a := a) (k := b - a) (by rw [unhide HL]; omega), hiF_all (p := zs) (a := a) (k := b - a) (by rw [unhide HL]; omega)]
            obtain ⟨L, hLL⟩ : ∃ L, lo (seg zs a (b - a + 1)) = L := ⟨_, rfl⟩
            obtain ⟨H, hHH⟩ : ∃ H, hi (seg zs a (b - a + 1)) = H := ⟨_, rfl⟩
            rw [hLL, hHH]
            have HLH := hide (And.intro hLL hHH)
            clear hLL hHH
            go_wp2
            go_loop [8, 9, 13] (fun p q i => ∃ a1 b1 k : Nat, p = .int .i64 a1 ∧ q = .int .i64 b1 ∧ i = .int .i64 k ∧ k ≤ n ∧ a1 ≤ a ∧ b ≤ b1 ∧ b1 < n ∧ Hid (CInv zs x y a1 b1) ∧ Hid (∀ (d : Nat) v, d < k → zs[d]? = some v → L ≤ v → v ≤ H → a1 ≤ d ∧ d ≤ b1)) (fun _ _ i => n - (intOf i).toNat)
            case atStart => exact ⟨a, b, 0, rfl, rfl, rfl, Nat.zero_le _, Nat.le_refl _, Nat.le_refl _, hbn, hI0, fun d v hd => by omega⟩
            case round =>
              obtain ⟨a1, b1, k, rfl, rfl, rfl, hk, ha1, hb1, hb1n, hI1, hall⟩ := hrel
              by_cases hlt2 : k < n
              · obtain ⟨ad', u', hA', _, hu, hc'⟩ := (unhide hrd).at_ hlt2
                injection hA' with hA'
                subst hA'
                obtain ⟨z, hz, rfl⟩ := i64_at hu
                have HZ := hide hz
                clear hu hz
                by_cases hin : L ≤ z ∧ z ≤ H
                · have H5 := hide (fun w => l1in_any z L H true (decide_eq_true hin) w)
                  have hkl : k < zs.length := by rw [unhide HL]; exact hlt2
                  have hw := (unhide hI1).widen hkl ((unhide hI0).holds (unhide HP) (unhide HZ) (by rw [(unhide HLH).1]; exact hin.1) (by rw [(unhide HLH).2]; exact hin.2))
                  have hI2 := hide hw
                  have hb2 : max b1 k < n := by have := hw.lt.2; rw [unhide HL] at this; exact this
                  have hall2 : Hid (∀ (d : Nat) v, d < k + 1 → zs[d]? = some v → L ≤ v → v ≤ H → min a1 k ≤ d ∧ d ≤ max b1 k) := hide (fun d v hd hv h1 h2 => by
                    by_cases hdk : d = k
                    · omega
                    · have := unhide hall d v (by omega) hv h1 h2
                      omega)
                  clear hin hw hI1 hall hkl
                  go_wp2_with fail
                  refine (unhide H5 _).mono ?_
                  rintro e w7 ⟨rfl, rfl⟩
                  clear H5
                  go_wp2_with fail
                  refine (smin_any _ _ _).mono ?_
                  rintro e w8 ⟨rfl, rfl⟩
                  rw [min_cast]
                  go_wp2_with fail
                  refine (max_any _ _ _).mono ?_
                  rintro e w9 ⟨rfl, rfl⟩
                  rw [max_cast]
                  go_wp2
                  go_round
                  case rel => exact ⟨min a1 k, max b1 k, k + 1, rfl, rfl, by go_num, by omega, by omega, by omega, hb2, hI2, hall2⟩
                  case measure => simp [intOf]; omega
                · have H5 := hide (fun w => l1in_any z L H false (decide_eq_false hin) w)
                  have hall2 : Hid (∀ (d : Nat) v, d < k + 1 → zs[d]? = some v → L ≤ v → v ≤ H → a1 ≤ d ∧ d ≤ b1) := hide (fun d v hd hv h1 h2 => by
                    by_cases hdk : d = k
                    · subst hdk
                      rw [unhide HZ] at hv
                      injection hv with hv
                      subst hv
                      exact absurd ⟨h1, h2⟩ hin
                    · exact unhide hall d v (by omega) hv h1 h2)
                  clear hin hall
                  go_wp2_with fail
                  refine (unhide H5 _).mono ?_
                  rintro e w7 ⟨rfl, rfl⟩
                  clear H5
                  go_wp2
                  go_round
                  case rel => exact ⟨a1, b1, k + 1, rfl, rfl, by go_num, by omega, by omega, by omega, hb1n, hI1, hall2⟩
                  case measure => simp [intOf]; omega
              · obtain rfl : n = k := by omega
                have hgrow : b - a < b1 - a1 := run_lacks (unhide HP) hab (by rw [unhide HL]; exact hbn) (unhide HV) ha1 hb1 (fun d v hv h1 h2 => by
                  rw [(unhide HLH).1] at h1
                  rw [(unhide HLH).2] at h2
                  exact unhide hall d v (by have := (List.getElem?_eq_some_iff.1 hv).1; rw [unhide HL] at this; exact this) hv h1 h2)
                have hle1 := (unhide hI1).lt.1
                clear hall
                go_wp2
                go_round
                case rel => exact ⟨a1, b1, rfl, rfl, hle1, hb1n, hI1⟩
                case measure => simp [intOf]; omega
end Go.Proofs.Ytoiflglccbemeaa
