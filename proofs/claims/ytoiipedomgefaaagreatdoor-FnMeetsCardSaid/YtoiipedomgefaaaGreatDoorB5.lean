/-
  Words and contracts that the laws lean on, bundled: ClassS, Sift, PermsOf, Fill, SymS, ClsS, AllS, OrdS, ClassO.
-/
import Derived.Test.YtoiipedomgefaaaGreatDoorB2
import Derived.Test.YtoiipedomgefaaaGreatDoorB4
import Derived.Test.YtoiipedomgefaaaGreatDoorB3
import Derived.Deep.CutRange
import Derived.Deep.RegionHeld3
import Derived.Test.YtoiipedomgefaaaGreatDoorB1

/-
  spec.l7Has, spec.l12Avoids, spec.IsBasis, spec.InClass, by their contracts.
-/

namespace Go.Proofs.YtoiipedomgefaaaGreatDoor
set_option maxRecDepth 100000
open Go.RowKit

/-- A list of rows with a Boolean. -/
def GivesSSB (w : World) (zss : List (List Int)) (b : Bool) (e : Ending) (w' : World) : Prop := ∃ A c, e = .returned (.tuple #[.slice A zss.length c, .bool b]) ∧ IntsS w' w.heap.size (.slice A zss.length c) zss ∧ Below w.heap.size w w'
theorem GivesSSB.mk {w w' : World} {v : Value} {zss : List (List Int)} (b : Bool) (h : IntsS w' w.heap.size v zss) (hb : Below w.heap.size w w') : GivesSSB w zss b (.returned (.tuple #[v, .bool b])) w' := by
  obtain ⟨A, c, rfl⟩ := h.slice
  exact ⟨A, c, rfl, h, hb⟩
set_option maxHeartbeats 800000 in
theorem l7has_any (A A' : Option Addr) (n c B n' c' B' : Nat) (p q : List Int) (w : World) (h : Arg w B A n c p) (h' : Arg w B' A' n' c' q) (hp : isP p = true) (hq : isP q = true) :
    Calls Tryz.prog 90 #[.slice A n c, .slice A' n' c'] w (GivesB w (hasO p q)) := by
  have hsz : (extL p q q.length []).length ≤ 256 := by
    have h1 := occ_size p q hp
    rwa [occR_yes hp hq] at h1
  have hbx := (Below.refl w.heap.size w).alloc (Nat.le_refl _) (.cells #[] 3)
  have hby := hbx.alloc (by simp) (.cells #[] 36)
  have H3 := hide (l7find_any q.length A A' n c B n' c' B' w.heap.size p q (some ⟨w.heap.size, 0, none⟩) 0 0 [] (.slice (some ⟨w.heap.size + 1, 0, none⟩) 0 0) [] []
    ((w.alloc (.cells #[] 3)).alloc (.cells #[] 36)) (h.below hby) (h'.below hby) h.under h'.under (by simp; omega) hp hq (by simp) (PlOK.nil _)
    ((Ints.made0 w w.heap.size (Nat.le_refl _)).below ((Below.refl _ _).alloc (Nat.le_refl _) _)) (by have := ownS0 (w.alloc (.cells #[] 3)) w.heap.size (by simp); rw [World.size_alloc] at this; exact this) (Inner.nil _ _) (fun x hx => by cases hx) (by simp only [List.length_nil]; omega))
  unfold hasO
  obtain ⟨N, hN⟩ : ∃ N, N = (extL p q q.length []).length := ⟨_, rfl⟩
  rw [← hN] at hsz ⊢
  have HN := hide hN
  clear h h' hp hq hbx hN
  go_enter Tryz.func90, Tryz.ntmps90
  go_wp2_with fail
  refine (unhide H3).mono ?_
  rintro e w5 ⟨v, us, rfl, o5, i5, _, hb5, _⟩
  obtain ⟨A5, c5, rfl, _⟩ := Reads.of_own o5
  simp only [List.length_nil, Nat.zero_add] at o5 ⊢
  rw [← unhide HN]
  have hb6 := hby.trans hb5
  clear H3 o5 i5 hb5 hby
  by_cases h0 : 0 < N
  · have h0' : (0 : Int) < (N : Int) := by omega
    go_wp2
    go_ret
    exact ⟨ret_bool (decide_eq_true h0).symm, hb6⟩
  · have h0' : ¬ (0 : Int) < (N : Int) := by omega
    go_wp2
    go_ret
    exact ⟨ret_bool (by first | rfl | exact (decide_eq_false h0).symm), hb6⟩
set_option maxHeartbeats 800000 in
theorem savo_any (A A' : Option Addr) (n c B n' c' B' : Nat) (zss : List (List Int)) (p : List Int) (w : World) (hS : IntsS w B (.slice A n c) zss) (h' : Arg w B' A' n' c' p) (hp : isP p = true) (hz : ∀ z ∈ zss, isP z = true) (hn : n ≤ 1048576) :
    Calls Tryz.prog 63 #[.slice A n c, .slice A' n' c'] w (GivesB w (avo zss p)) := by
  have hl := hS.len
  have HA := hide (⟨hS, h', hp, hz⟩ : IntsS w B (.slice A n c) zss ∧ Arg w B' A' n' c' p ∧ isP p = true ∧ ∀ z ∈ zss, isP z = true)
  have HL := hide hl
  have hb0 := Below.refl w.heap.size w
  clear hS h' hp hz hl
  go_enter Tryz.func63, Tryz.ntmps63
  go_wp2
  go_loopw [5] (fun i wr => ∃ k : Nat, k ≤ n ∧ i = .int .i64 k ∧ Below w.heap.size w wr ∧ Hid (avo (zss.take k) p = true)) (fun i _ => n - (intOf i).toNat)
  case atStart => exact ⟨0, Nat.zero_le _, rfl, hb0, by exact (rfl : avo (zss.take 0) p = true)⟩
  case round =>
    obtain ⟨k, hk, rfl, hb, ha⟩ := hrel
    clear hb0
    by_cases hlt : k < n
    · obtain ⟨ad, A6, c6, z, rfl, hz, hcell, hI⟩ := ((unhide HA).1.below hb).at_ hlt
      have hzp := (unhide HA).2.2.2 z (List.mem_of_getElem? hz)
      have H4 := hide (l7has_any A' A6 n' c' B' z.length c6 _ p z wr ((unhide HA).2.1.below hb) (hI.argP hzp) (unhide HA).2.2.1 hzp)
      obtain ⟨b, hbb⟩ : ∃ b, hasO p z = b := ⟨_, rfl⟩
      rw [hbb] at H4
      have HB := hide hb
      cases b with
      | true =>
        have HR := hide (avo_no (List.mem_of_getElem? hz) hbb)
        clear hz hzp hI hbb hb ha
        go_wp2_with fail
        refine (unhide H4).mono ?_
        rintro e w2 ⟨rfl, d2⟩
        have hb2 := below_after (unhide HB) d2
        clear H4 HB d2
        go_wp2
        go_ret
        exact ⟨ret_bool (unhide HR).symm, hb2⟩
      | false =>
        have HR := hide (avo_step hz hbb (unhide ha))
        clear hz hzp hI hbb hb ha
        go_wp2_with fail
        refine (unhide H4).mono ?_
        rintro e w2 ⟨rfl, d2⟩
        have hb2 := below_after (unhide HB) d2
        clear H4 HB d2
        go_wp2
        go_roundw
        case rel => exact ⟨k + 1, by omega, by go_num, hb2, HR⟩
        case measure => simp [intOf]; omega
    · obtain rfl : n = k := by omega
      have HR := hide (show avo zss p = true by have h := unhide ha; rwa [List.take_of_length_le (by rw [unhide HL]; exact Nat.le_refl _)] at h)
      clear ha
      go_wp2
      go_ret
      exact ⟨ret_bool (unhide HR).symm, hb⟩
set_option maxHeartbeats 1600000 in
theorem sbas2_any (A : Option Addr) (n c B : Nat) (zss : List (List Int)) (w : World) (hS : IntsS w B (.slice A n c) zss) (hn : n ≤ 2097152) (hsm : ∀ z ∈ zss, z.length ≤ 1048576 ∧ Small z) :
    Calls Tryz.prog 44 #[.slice A n c] w (GivesB w (basis zss)) := by
  have hl := hS.len
  have HA := hide (⟨hS, hsm⟩ : IntsS w B (.slice A n c) zss ∧ ∀ z ∈ zss, z.length ≤ 1048576 ∧ Small z)
  have HL := hide hl
  have hb0 := Below.refl w.heap.size w
  clear hS hsm hl
  go_enter Tryz.func44, Tryz.ntmps44
  go_wp2
  go_loopw [3, 4] (fun i _ wr => ∃ k : Nat, k ≤ n ∧ i = .int .i64 k ∧ Below w.heap.size w wr ∧ Hid (BasTo zss k)) (fun i _ _ => n - (intOf i).toNat)
  case atStart => exact ⟨0, Nat.zero_le _, rfl, hb0, BasTo.zero zss⟩
  case round =>
    obtain ⟨k, hk, rfl, hb, hT⟩ := hrel
    clear hb0
    by_cases hlt : k < n
    · have hS := (unhide HA).1.below hb
      obtain ⟨ad, A6, c6, z, rfl, hz, hcell, hI⟩ := hS.at_ hlt
      obtain ⟨hzl, hzs⟩ := (unhide HA).2 z (List.mem_of_getElem? hz)
      have hA := hI.arg hzl hI.cap hzs
      have hkl : k < zss.length := by rw [unhide HL]; exact hlt
      have hat := basAt_at hz
      have HB := hide hb
      obtain ⟨b1, hb1⟩ : ∃ b, isP z = b := ⟨_, rfl⟩
      have HR1 := hide hA
      cases b1 with
      | false =>
        have HF := hide (basis_no hkl (by rw [hat, hb1]; rfl))
        have hzc := hA.cap
        obtain ⟨lz, hlz⟩ : ∃ l, l = z.length := ⟨_, rfl⟩
        rw [← hlz] at hcell HR1 hzc hzl
        have HP := hide hb1
        clear hz hA hI hat hlz hS hb hzs hb1 hT hkl
        go_wp2
        go_quiet ((go_at_call 72; exact Calls.quiet_of (sisperm_any A6 _ c6 _ z false (unhide HP) _ ((unhide HR1).reads.drewN _) hzl hzc)))
        go_wp2
        go_ret
        exact ⟨ret_bool (unhide HF).symm, (unhide HB).trans ((Drew.refl wr |>.more nq).below _)⟩
      | true =>
        have hz8 := isP_le hb1
        by_cases h0 : z.length = 0
        · have HF := hide (basis_no hkl (by rw [hat, hb1, h0]; rfl))
          have hzc := hA.cap
          rw [h0] at hcell hzc
          have HP := hide hb1
          have HR2 := hide hA.reads
          rw [h0] at HR2
          clear hz hA hI hat hS hb hzs hb1 hT hkl h0 HR1
          go_wp2
          go_quiet ((go_at_call 72; exact Calls.quiet_of (sisperm_any A6 0 c6 _ z true (unhide HP) _ ((unhide HR2).drewN _) (by omega) (by omega))))
          go_wp2
          go_ret
          exact ⟨ret_bool (unhide HF).symm, (unhide HB).trans ((Drew.refl wr |>.more nq).below _)⟩
        · have hz0 : ((z.length : Int) == 0) = false := by rw [beq_eq_false_iff_ne]; omega
          obtain ⟨b2, hb2⟩ : ∃ b, (decide (k = 0) || befL (zss.getD (k - 1) []) z) = b := ⟨_, rfl⟩
          have HP := hide hb1
          have HZ := hide hz
          have hzc := hA.cap
          cases b2 with
          | false =>
            have hk0 : k ≠ 0 := fun e => by rw [e] at hb2; simp at hb2
            obtain ⟨a, rfl⟩ : ∃ a, k = a + 1 := ⟨k - 1, by omega⟩
            obtain ⟨ad2, A7, c7, y, hade, hy, hcell2, hI2⟩ := hS.at_ (show a < n by omega)
            obtain rfl : ad = ad2 := Option.some.inj hade
            obtain ⟨hyl, hys⟩ := (unhide HA).2 y (List.mem_of_getElem? hy)
            have hA2 := hI2.arg hyl hI2.cap hys
            have hbf : befL y z = false := by
              rw [Nat.add_sub_cancel, getD_row hy] at hb2
              simpa using hb2
            have HF := hide (basis_no hkl (by rw [hat, hb1, hb2]; simp))
            have HY := hide hA2
            have HBF := hide hbf
            have q1 : IntKind.i64.wrap ((a : Int) + 1 - 1) = (a : Int) := by rw [IntKind.wrap_i64]; omega
            have q2 : IntKind.i64.wrap (a : Int) = (a : Int) := by rw [IntKind.wrap_i64]; omega
            have hadd : ad.add (a + 1) = ⟨ad.block, ad.off + (a + 1), none⟩ := by unfold Addr.add; rw [if_neg (by omega)]
            rw [hadd] at hcell
            have hbd0 : (0 : Int) ≤ (a : Int) + 1 := by omega
            have hbd1 : (a : Int) + 1 < (n : Int) := by omega
            have hbd2 : (a : Int) < (n : Int) := by omega
            have hpos : decide ((0 : Int) < (a : Int) + 1) = true := decide_eq_true (by omega)
            obtain ⟨lz, hlz⟩ : ∃ l, l = z.length := ⟨_, rfl⟩
            rw [← hlz] at hcell HR1 hzc hzl hz0 h0
            obtain ⟨ly, hly⟩ : ∃ l, l = y.length := ⟨_, rfl⟩
            rw [← hly] at hcell2 HY
            clear hz hA hI hat hlz hly hS hb hzs hb1 hT hkl hade hy hI2 hyl hys hA2 hbf hb2 hadd hk0 hz8
            go_wp2
            go_quiet (first
              | (go_at_call 72; exact Calls.quiet_of (sisperm_any A6 _ c6 _ z true (unhide HP) _ ((unhide HR1).reads.drewN _) hzl hzc))
              | (go_at_call 89; exact Calls.quiet_of (l2bef_any A7 A6 _ c7 _ _ c6 _ y z false (unhide HBF) _ ((unhide HY).below ((Drew.refl _ |>.more _).below _)) ((unhide HR1).below ((Drew.refl _ |>.more _).below _)))))
            go_wp2
            go_ret
            exact ⟨ret_bool (unhide HF).symm, (unhide HB).trans ((Drew.refl wr |>.more nq).below _)⟩
          | true =>
            have HBT := hide hb2
            have HAT := hide hat
            clear hat
            go_upto_region 4 with fail
            go_cut [41] from 5 to 55 (fun b wx => b = .bool false ∧ ∃ m, wx = wr.drewN m)
            case first =>
              by_cases hk0 : k = 0
              · have hpos : decide (0 < k) = false := decide_eq_false (by omega)
                obtain ⟨lz, hlz⟩ : ∃ l, l = z.length := ⟨_, rfl⟩
                rw [← hlz] at hcell HR1 hzc hzl hz0 h0
                clear hz hA hI hlz hS hb hzs hb1 hT hkl hb2 hz8 hk0
                go_quiet ((go_at_call 72; exact Calls.quiet_of (sisperm_any A6 _ c6 _ z true (unhide HP) _ ((unhide HR1).reads.drewN _) hzl hzc)))
                go_wp2_with fail
                go_meet
                exact ⟨rfl, _, rfl⟩
              · obtain ⟨a, rfl⟩ : ∃ a, k = a + 1 := ⟨k - 1, by omega⟩
                obtain ⟨ad2, A7, c7, y, hade, hy, hcell2, hI2⟩ := hS.at_ (show a < n by omega)
                obtain rfl : ad = ad2 := Option.some.inj hade
                obtain ⟨hyl, hys⟩ := (unhide HA).2 y (List.mem_of_getElem? hy)
                have hA2 := hI2.arg hyl hI2.cap hys
                have hbf : befL y z = true := by
                  rw [Nat.add_sub_cancel, getD_row hy] at hb2
                  simpa using hb2
                have HY := hide hA2
                have HBF := hide hbf
                have q1 : IntKind.i64.wrap ((a : Int) + 1 - 1) = (a : Int) := by rw [IntKind.wrap_i64]; omega
                have q2 : IntKind.i64.wrap (a : Int) = (a : Int) := by rw [IntKind.wrap_i64]; omega
                have hadd : ad.add (a + 1) = ⟨ad.block, ad.off + (a + 1), none⟩ := by unfold Addr.add; rw [if_neg (by omega)]
                rw [hadd] at hcell
                have hbd0 : (0 : Int) ≤ (a : Int) + 1 := by omega
                have hbd1 : (a : Int) + 1 < (n : Int) := by omega
                have hbd2 : (a : Int) < (n : Int) := by omega
                have hpos : decide ((0 : Int) < (a : Int) + 1) = true := decide_eq_true (by omega)
                obtain ⟨lz, hlz⟩ : ∃ l, l = z.length := ⟨_, rfl⟩
                rw [← hlz] at hcell HR1 hzc hzl hz0 h0
                obtain ⟨ly, hly⟩ : ∃ l, l = y.length := ⟨_, rfl⟩
                rw [← hly] at hcell2 HY
                clear hz hA hI hlz hly hS hb hzs hb1 hT hkl hade hy hI2 hyl hys hA2 hbf hb2 hadd hk0 hz8
                go_quiet (first
                  | (go_at_call 72; exact Calls.quiet_of (sisperm_any A6 _ c6 _ z true (unhide HP) _ ((unhide HR1).reads.drewN _) hzl hzc))
                  | (go_at_call 89; exact Calls.quiet_of (l2bef_any A7 A6 _ c7 _ _ c6 _ y z true (unhide HBF) _ ((unhide HY).below ((Drew.refl _ |>.more _).below _)) ((unhide HR1).below ((Drew.refl _ |>.more _).below _)))))
                go_wp2_with fail
                go_meet
                exact ⟨rfl, _, rfl⟩
            case rest =>
              obtain ⟨rfl, dm, hwx⟩ := hcut
              have hbc : Below w.heap.size w wc := by rw [hwx]; exact (unhide HB).trans ((Drew.refl wr |>.more dm).below _)
              have HT2 := hide (show avo (zss.take k) z = true → BasTo zss (k + 1) from fun e => (unhide hT).step (by rw [unhide HAT, unhide HP, unhide HBT, e, decide_eq_true h0]; rfl))
              have HF2 := hide (show avo (zss.take k) z = false → basis zss = false from fun e => basis_no hkl (by rw [unhide HAT, e, Bool.and_false]))
              have HPI := hide (fun (i : Nat) (y : List Int) (hi : i < k) (hy : zss[i]? = some y) => (unhide hT).isP hi hy)
              clear hz hA hI hS hb hzs hb1 hT hkl hb2 hz8 hwx HBT HAT HR1 HB hcell hz0
              obtain ⟨wo, rfl⟩ : ∃ wo : World, wo = wc := ⟨_, rfl⟩
              go_wp2
              go_loopw [4] (fun iv wi => ∃ i : Nat, i ≤ k ∧ iv = .int .i64 i ∧ Below w.heap.size w wi ∧ Hid (avo (zss.take i) z = true)) (fun iv _ => k - (intOf iv).toNat)
              case atStart => exact ⟨0, Nat.zero_le _, rfl, hbc, by exact (rfl : avo (zss.take 0) z = true)⟩
              case round =>
                obtain ⟨i, hi, rfl, hbi, hav⟩ := hrel
                clear hbc
                by_cases hik : i < k
                · have hS := (unhide HA).1.below hbi
                  obtain ⟨ad2, A8, c8, z2, hade, hz2, hck, hIk⟩ := hS.at_ hlt
                  obtain rfl : ad = ad2 := Option.some.inj hade
                  obtain rfl : z = z2 := Option.some.inj ((unhide HZ).symm.trans hz2)
                  obtain ⟨ad3, A9, c9, y, hade3, hy, hci, hIi⟩ := hS.at_ (show i < n by omega)
                  obtain rfl : ad = ad3 := Option.some.inj hade3
                  have hyp := unhide HPI i y hik hy
                  have H4 := hide (fun (w' : World) (d : Below wr.heap.size wr w') => l7has_any A8 A9 z.length c8 _ y.length c9 _ z y w' ((hIk.argP (unhide HP)).below d) ((hIi.argP hyp).below d) (unhide HP) hyp)
                  have hlk := World.block_lt_of_cell? wr _ hck
                  have hli := World.block_lt_of_cell? wr _ hci
                  obtain ⟨b, hbb⟩ : ∃ b, hasO z y = b := ⟨_, rfl⟩
                  rw [hbb] at H4
                  obtain ⟨lz, hlz⟩ : ∃ l, l = z.length := ⟨_, rfl⟩
                  obtain ⟨ly, hly⟩ : ∃ l, l = y.length := ⟨_, rfl⟩
                  rw [← hlz] at hck H4
                  rw [← hly] at hci H4
                  have HB := hide hbi
                  have HYM := hide (show y ∈ zss.take k from List.mem_of_getElem? (i := i) (by rw [List.getElem?_take_of_lt hik]; exact hy))
                  have HY := hide hy
                  have hb0 := (Below.refl wr.heap.size wr).drew
                  have hin : (i : Int) < (n : Int) := by omega
                  have hin2 : i < n := by omega
                  clear hS hade hz2 hIk hade3 hy hIi hyp hlz hly hbi
                  go_wp2
                  go_region_held3 (fun w' => w'.cell? (ad.add k) = some (.slice A8 lz c8) ∧ w'.cell? (ad.add i) = some (.slice A9 ly c9))
                    (first | go_keep | exact ⟨(d4.cell hlk).trans hck, (d4.cell hli).trans hci⟩)
                    (first | (go_simp; go_at_call 90; refine (unhide H4 _ hb0).mono ?_; rintro e w4 ⟨rfl, d4⟩))
                  have hb5 := below_after (unhide HB) (hb0.trans d4)
                  clear H4 hck hci hlk hli HB hb0 d4
                  cases b with
                  | true =>
                    have HF := hide (unhide HF2 (avo_no (unhide HYM) hbb))
                    clear hbb hav
                    go_wp2
                    go_ret
                    exact ⟨ret_bool (unhide HF).symm, hb5⟩
                  | false =>
                    have HR := hide (avo_step (unhide HY) hbb (unhide hav))
                    clear hbb hav
                    go_wp2
                    go_roundw
                    case rel => exact ⟨i + 1, by omega, by go_num, hb5, HR⟩
                    case measure => simp [intOf]; omega
                · obtain rfl : k = i := by omega
                  have HT := hide (unhide HT2 (unhide hav))
                  clear hav
                  go_wp2
                  go_roundw
                  case rel => exact ⟨k + 1, by omega, by go_num, hbi, HT⟩
                  case measure => simp [intOf]; omega
    · have hkn : n = k := by omega
      subst hkn
      have hE := hide (show basis zss = decide (n ≤ 8) by have h := (unhide hT); have h2 := BasTo.end_ (L := zss) (by rw [unhide HL]; exact h); rwa [unhide HL] at h2)
      clear hT
      by_cases h8 : n ≤ 8
      · have h8' : (n : Int) ≤ 8 := by omega
        go_wp2
        go_ret
        exact ⟨ret_bool (by rw [unhide hE, decide_eq_true h8]), hb⟩
      · have h8' : ¬ (n : Int) ≤ 8 := by omega
        go_wp2
        go_ret
        exact ⟨ret_bool (by rw [unhide hE, decide_eq_false h8]), hb⟩
theorem sbas_any (A : Option Addr) (n c B : Nat) (zss : List (List Int)) (w : World) (hS : IntsS w B (.slice A n c) zss) (hn : n ≤ 1048576) (hsm : ∀ z ∈ zss, z.length ≤ 1048576 ∧ Small z) :
    Calls Tryz.prog 44 #[.slice A n c] w (GivesB w (basis zss)) := sbas2_any A n c B zss w hS (by omega) hsm
set_option maxHeartbeats 800000 in
theorem sinc_any (A A' : Option Addr) (n c B n' c' B' : Nat) (zss : List (List Int)) (p : List Int) (w : World) (hS : IntsS w B (.slice A n c) zss) (hn : n ≤ 1048576) (hsm : ∀ z ∈ zss, z.length ≤ 1048576 ∧ Small z) (h' : Arg w B' A' n' c' p) :
    Calls Tryz.prog 28 #[.slice A n c, .slice A' n' c'] w (GivesB w (inC zss p)) := by
  obtain ⟨b, hb⟩ : ∃ b, basis zss = b := ⟨_, rfl⟩
  have H1 := hide (sbas_any A n c B zss w hS hn hsm)
  rw [hb] at H1
  cases b with
  | false =>
    have HR := hide (show inC zss p = false by unfold inC; rw [hb]; rfl)
    rw [unhide HR]
    clear hb hS h' hsm
    go_enter Tryz.func28, Tryz.ntmps28
    go_wp2_with fail
    refine (unhide H1).mono ?_
    rintro e w1 ⟨rfl, hb1⟩
    clear H1
    go_wp2
    go_ret
    exact ⟨rfl, hb1⟩
  | true =>
    obtain ⟨b2, hb2⟩ : ∃ b, isP p = b := ⟨_, rfl⟩
    have H2 := hide (fun (w' : World) (d : Below w.heap.size w w') => sisperm_any A' n' c' B' p b2 hb2 w' (h'.below d).reads h'.le h'.cap)
    cases b2 with
    | false =>
      have HR := hide (show inC zss p = false by unfold inC; rw [hb, hb2]; rfl)
      rw [unhide HR]
      clear hb hb2 hS h' hsm
      go_enter Tryz.func28, Tryz.ntmps28
      go_wp2_with fail
      refine (unhide H1).mono ?_
      rintro e w1 ⟨rfl, hb1⟩
      have H3 := hide (unhide H2 w1 hb1)
      clear H1 H2
      go_wp2_with fail
      refine (unhide H3).mono ?_
      rintro e w2 ⟨rfl, d2⟩
      have hb3 := hb1.trans (d2.below _)
      clear H3 d2 hb1
      go_wp2
      go_ret
      exact ⟨rfl, hb3⟩
    | true =>
      have HR := hide (show inC zss p = avo zss p by unfold inC; rw [hb, hb2]; rfl)
      rw [unhide HR]
      have H4 := hide (fun (w' : World) (d : Below w.heap.size w w') => savo_any A A' n c B n' c' B' zss p w' (hS.below d) (h'.below d) hb2 (fun z hz => (basis_isP hb z hz).1) hn)
      obtain ⟨b3, hb3⟩ : ∃ b, avo zss p = b := ⟨_, rfl⟩
      rw [hb3] at H4 ⊢
      clear hb hb2 hS h' hsm hb3
      go_enter Tryz.func28, Tryz.ntmps28
      go_wp2_with fail
      refine (unhide H1).mono ?_
      rintro e w1 ⟨rfl, hb1⟩
      have H3 := hide (unhide H2 w1 hb1)
      clear H1 H2
      go_wp2_with fail
      refine (unhide H3).mono ?_
      rintro e w2 ⟨rfl, d2⟩
      have hb3 := hb1.trans (d2.below _)
      have H5 := hide (unhide H4 w2 hb3)
      clear H3 H4 d2 hb1
      go_wp2_with fail
      refine (unhide H5).mono ?_
      rintro e w3 ⟨rfl, d3⟩
      have hb4 := below_after hb3 d3
      clear H5 d3 hb3
      go_wp2
      go_ret
      exact ⟨rfl, hb4⟩
end Go.Proofs.YtoiipedomgefaaaGreatDoor


/-
  WORDS: a list of rows taken out of another one ('out = append(out, all[k])'). Nothing here speaks of a function of the program.
-/

namespace Go.Proofs.YtoiipedomgefaaaGreatDoor
set_option maxRecDepth 100000
open Go.RowKit

/-- The list lv holds the rows Z, all made from block C on; the list ov holds U: some of lv's first k rows and rows made before. -/
structure Sib (w : World) (B C : Nat) (lv : Value) (vs : List Value) (Z : List (List Int)) (ov : Value) (us : List Value) (U : List (List Int)) (k : Nat) : Prop where
  all : w.ownsRow B 36 1 lv Z.length vs
  alli : Inner w B vs Z
  out : w.ownsRow B 36 1 ov U.length us
  outi : Inner w B us U
  sub : ∀ x ∈ us, x ∈ vs.take k ∨ Until C x
  since : ∀ x ∈ vs, Since C x
  apart : Away lv ov
section
variable {w w' : World} {B C k : Nat} {lv ov : Value} {vs us : List Value} {Z U : List (List Int)}
theorem Sib.below (h : Sib w B C lv vs Z ov us U k) (hb : Below w.heap.size w w') : Sib w' B C lv vs Z ov us U k :=
  ⟨own_below h.all hb, h.alli.keepI (KeepI.of_below hb), own_below h.out hb, h.outi.keepI (KeepI.of_below hb), h.sub, h.since, h.apart⟩
theorem Sib.skip (h : Sib w B C lv vs Z ov us U k) : Sib w B C lv vs Z ov us U (k + 1) :=
  ⟨h.all, h.alli, h.out, h.outi, fun x hx => by
    rcases h.sub x hx with h1 | h1
    · rw [List.take_add_one]
      exact .inl (List.mem_append_left _ h1)
    · exact .inr h1, h.since, h.apart⟩
theorem Sib.outS (h : Sib w B C lv vs Z ov us U k) : IntsS w B ov U := ⟨us, h.out, h.outi⟩
theorem Sib.allS (h : Sib w B C lv vs Z ov us U k) : IntsS w B lv Z := ⟨vs, h.all, h.alli⟩
theorem Sib.row (h : Sib w B C lv vs Z ov us U k) {A : Option Addr} {n c : Nat} (hv : lv = .slice A n c) {i : Nat} (hi : i < n) :
    ∃ ad A' c' z, A = some ad ∧ Z[i]? = some z ∧ vs[i]? = some (.slice A' z.length c') ∧ w.cell? (ad.add i) = some (.slice A' z.length c') ∧ Ints w B (.slice A' z.length c') z := by
  subst hv
  have h1 := h.all
  have hn : n = Z.length := by
    rcases h1.2 with ⟨hv, hz⟩ | ⟨g, cap, cur, hv, _⟩
    · injection hv with _ h3; omega
    · injection hv
  subst hn
  obtain ⟨ad, u, hA, _, hu, hc⟩ := (Reads.of_own_at h1).at_ hi
  have hz : Z[i]? = some Z[i] := List.getElem?_eq_getElem hi
  have hr := h.alli.row i u _ hu hz
  obtain ⟨A', c', rfl⟩ := hr.slice
  exact ⟨ad, A', c', _, hA, hz, hu, hc, hr⟩
/-- A new list behind rows that stand. -/
theorem Sib.next {W : World} {n : Nat} {A : Option Addr} {c : Nat} (ho : IntsS W B ov U) (hb : Below W.heap.size W w) (h : IntsS w W.heap.size (.slice A n c) Z) (hB : B ≤ W.heap.size) : ∃ vs us, Sib w B W.heap.size (.slice A n c) vs Z ov us U 0 := by
  obtain ⟨us, o1, o2⟩ := ho
  obtain ⟨vs, h1, h2⟩ := h
  refine ⟨vs, us, ?_, h2.low hB, own_below o1 hb, o2.keepI (KeepI.of_below hb), fun x hx => .inr ?_, fun x hx => ?_, ?_⟩
  · refine ⟨h1.1, ?_⟩
    rcases h1.2 with h0 | ⟨g, cap, cur, hv, hb', hr⟩
    · exact .inl h0
    · exact .inr ⟨g, cap, cur, hv, Nat.le_trans hB hb', hr⟩
  · obtain ⟨z, hz⟩ := o2.mem hx
    exact hz.until_
  · obtain ⟨z, hz⟩ := h2.mem hx
    exact hz.since
  · rcases h1.2 with ⟨hv, _⟩ | ⟨g, cap, cur, hv, hb', _⟩
    · exact .inl (by rw [hv]; rfl)
    · refine .inr fun e => ?_
      rw [hv] at e
      have h5 := (o1.lt g (by rw [← e]; rfl)).2
      omega
theorem Sib.start {W : World} {n : Nat} {A : Option Addr} {c : Nat} (ho : W.ownsRow B 36 1 ov 0 []) (hb : Below W.heap.size W w) (h : IntsS w W.heap.size (.slice A n c) Z) (hB : B ≤ W.heap.size) : ∃ vs us, Sib w B W.heap.size (.slice A n c) vs Z ov us [] 0 :=
  Sib.next ⟨[], ho, Inner.nil _ _⟩ hb h hB
theorem mem_take_at {vs : List Value} {k : Nat} {x : Value} (h : x ∈ vs.take k) : ∃ i, i < k ∧ vs[i]? = some x := by
  obtain ⟨i, hi, he⟩ := List.getElem_of_mem h
  rw [List.length_take] at hi
  refine ⟨i, by omega, ?_⟩
  rw [← he, List.getElem_take]
  exact List.getElem?_eq_getElem (by omega)
theorem pair_at {vs : List Value} (h : vs.Pairwise Away) {i k : Nat} {x y : Value} (hik : i < k) (hx : vs[i]? = some x) (hy : vs[k]? = some y) : Away x y := by
  obtain ⟨h1, rfl⟩ := List.getElem?_eq_some_iff.1 hx
  obtain ⟨h2, rfl⟩ := List.getElem?_eq_some_iff.1 hy
  exact (List.pairwise_iff_getElem.1 h) i k h1 h2 hik
end
theorem wpList_sift {ops : Array Oper} {rest : List Oper} {o : Oper} {a : Act} {W : World} {Q : Exit → Act → World → Prop} (hgd : o.guard = none) (sl x : Operand)
    (ho : o.op = .call { callee := .builtin .append, args := #[sl, x], argTypes := #[24, 24] })
    (B C : Nat) (W0 wr : World) (lv v u : Value) (vs us : List Value) (Z U : List (List Int)) (k : Nat) (z : List Int) (hs : a.eval sl = v) (hx : a.eval x = .slice (some ⟨wr.heap.size, 0, none⟩) 1 1) (hW : W = wr.alloc (.cells #[u] 36))
    (h : Sib wr B C lv vs Z v us U k) (hu : vs[k]? = some u) (hz : Z[k]? = some z) (hn : U.length ≤ 1048576) (hb : Below B W0 wr) (hbase : B ≤ W0.heap.size)
    (K : ∀ v' w', Sib w' B C lv vs Z v' (us ++ [u]) (U ++ [z]) (k + 1) → Below B W0 w' → wpList Tryz.prog ops Q rest (a.put o.dst v') w') : wpList Tryz.prog ops Q (o :: rest) a W := by
  obtain ⟨i0, hi, hz0, hz1, hz2⟩ := info_parts rowsInfo
  have hal := (Below.refl wr.heap.size wr).alloc (Nat.le_refl _) (.cells #[u] 36)
  have h0 := h.below hal
  have hBw : B ≤ wr.heap.size := Nat.le_trans hbase hb.size
  have hr := h.alli.row k u z hu hz
  obtain ⟨A1, c1, rfl⟩ := hr.slice
  subst hW
  refine wpList_append_own_at _ hgd sl x 24 ho B 36 i0 (.slice none 0 0) 1 24 Tryz.underlying24 hi hz0 hz1 hz2 rfl (by decide) v _ _ hs h0.out ⟨wr.heap.size, 0, none⟩ 1 1 [.slice A1 z.length c1] hx rfl ?_ ?_ (by unfold maxLen; omega) (by omega) (by simp; omega) ?_
  · intro j y hj
    match j, hj with
    | 0, hj => simp at hj; subst hj; simp [Addr.add]
  · intro y hy
    obtain rfl := List.mem_singleton.1 hy
    rfl
  · intro v' w' h1 h2 _ h4
    have hk := KeepI.of_grown h0.out h2
    refine K v' w' ⟨h0.all.kept h2 h0.apart, h0.alli.keepI hk, by rw [List.length_append]; exact h1, ?_, ?_, h.since, ?_⟩ ?_
    · refine (h0.outi.keepI hk).push ((h0.alli.row k _ z hu hz).keepI hk) fun y hy => ?_
      rcases h.sub y hy with h6 | h6
      · obtain ⟨i, hik, hy2⟩ := mem_take_at h6
        exact pair_at h.alli.away hik hy2 hu
      · exact apart h6 (h.since _ (List.mem_of_getElem? hu)) (Nat.le_refl _)
    · intro y hy
      rcases List.mem_append.1 hy with hy | hy
      · rcases h.sub y hy with h6 | h6
        · rw [List.take_add_one]
          exact .inl (List.mem_append_left _ h6)
        · exact .inr h6
      · obtain rfl := List.mem_singleton.1 hy
        rw [List.take_add_one, hu]
        exact .inl (by simp)
    · rcases h4 with h4 | h4
      · rcases h.apart with ha | ha
        · exact .inl ha
        · exact .inr (by rw [h4]; exact ha)
      · cases hl : lv.ownBlock with
        | none => exact .inl hl
        | some g =>
          refine .inr ?_
          rw [hl, h4]
          intro e
          have h5 := (h.all.lt g hl).2
          have h6 := (h0.all.lt g hl).2
          simp at e
          omega
    · exact (hb.trans (hal.mono hBw)).grown h2 (by simp; omega) (fun g hg => (h.out.lt g hg).1)
end Go.Proofs.YtoiipedomgefaaaGreatDoor


/-
  spec.PermsOf and impl.PermsOf, by their contracts.
-/

namespace Go.Proofs.YtoiipedomgefaaaGreatDoor
set_option maxRecDepth 100000
open Go.RowKit

theorem own_head {w : World} {base n : Nat} {v : Value} {xs : List Value} {e : TypeId} (h : w.ownsRow base e 1 v n xs) (hn : 0 < n) : ∃ g c, v = .slice (some ⟨g, 0, none⟩) n c := by
  rcases h.2 with ⟨_, h0⟩ | ⟨g, cap, cur, rfl, _⟩
  · omega
  · exact ⟨g, cap, rfl⟩

set_option maxHeartbeats 400000 in
theorem behind_any (f : Int) (A : Option Addr) (n c B : Nat) (r : List Int) (w : World) (hr : Reads w B A n (i64s r)) (hB : B ≤ w.heap.size) (hn : n ≤ 8) (hx : ∀ x ∈ r, 1 ≤ x ∧ x ≤ 6) :
    Calls Tryz.prog 145 #[.int .i64 f, .slice A n c] w (GivesI w (behind f r)) := by
  obtain ⟨i0, hi, hz0, hz1, hz2⟩ := info_parts intInfo
  have HL := hide hr.len
  have HX := hide (fun k z (hz : r[k]? = some z) => hx z (List.mem_of_getElem? hz))
  clear hx
  go_enter Tryz.func145, Tryz.ntmps145
  go_wp2_with (first
    | (at_make; refine wpList_make_own _ rfl (.const (.int .i64 0)) (.tmp 10) 36 rfl w.heap.size 3 i0 (.int .i64 0) 1 Tryz.underlying36 hi hz0 hz1 .i64 .i64 _ (n + 1) rfl rfl (by omega) (by rw [hz2]; omega) (by unfold maxLen; omega) (Nat.le_refl _) ?_; intro w1 hown1 hg1; have hb1 := (Below.refl w.heap.size w).grown hg1 (Nat.le_refl _) (by simp); clear hg1)
    | (at_builtin; refine wpList_append_one rfl (.tmp 12) (.tmp 14) 36 rfl w.heap.size 3 i0 (.int .i64 0) 8 Tryz.underlying36 hi hz0 hz1 hz2 rfl w w1 _ _ _ rfl hown1 (.int .i64 f) rfl rfl rfl (by omega) (by simp only [maxLen]; omega) hb1 hb1.size ?_; intro v2 w2 hown2 hb2 hg2; clear hg2))
  clear hown1 hb1
  go_loopw [5, 7, 18] (fun v _ i wr => ∃ k : Nat, k ≤ n ∧ i = .int .i64 k ∧ Below w.heap.size w wr ∧ wr.ownsRow w.heap.size 3 1 v (k + 1) (i64s (f :: (r.take k).map (up f)))) (fun _ _ i _ => n - (intOf i).toNat)
  case atStart => exact ⟨0, Nat.zero_le _, rfl, hb2, hown2⟩
  case round =>
    obtain ⟨k, hk, rfl, hb, hown⟩ := hrel
    clear hown2 hb2
    by_cases hlt : k < n
    · obtain ⟨ad, u, rfl, _, hu, hc⟩ := ((hr.more hB).below hb).at_ hlt
      obtain ⟨z, hz, rfl⟩ := i64_at hu
      obtain ⟨hz3, hz4⟩ := unhide HX k z hz
      have hst := behind_step (f := f) hz
      have e : i64s (f :: (r.take k).map (up f)) ++ [.int .i64 (up f z)] = i64s (f :: (r.take (k + 1)).map (up f)) := by rw [hst]; unfold i64s; simp
      clear hst hu hz
      by_cases hfz : f ≤ z
      · rw [up_yes hfz] at e
        have HE := hide e
        clear e
        go_wp2_with (first
          | (at_builtin; refine wpList_append_one rfl (.tmp 27) (.tmp 29) 36 rfl w.heap.size 3 i0 (.int .i64 0) 8 Tryz.underlying36 hi hz0 hz1 hz2 rfl w wr _ _ _ rfl hown (.int .i64 (z + 1)) rfl rfl rfl (by omega) (by simp only [maxLen]; omega) hb hb.size ?_; intro v3 w3 hown3 hb3 hg3; clear hg3))
        rw [unhide HE] at hown3
        clear hown hb HE
        go_roundw
        case rel => exact ⟨k + 1, by omega, by go_num, hb3, hown3⟩
        case measure => simp [intOf]; omega
      · have hfz' : z < f := by omega
        rw [up_no hfz'] at e
        have HE := hide e
        clear e
        go_wp2_with (first
          | (at_builtin; refine wpList_append_one rfl (.tmp 27) (.tmp 29) 36 rfl w.heap.size 3 i0 (.int .i64 0) 8 Tryz.underlying36 hi hz0 hz1 hz2 rfl w wr _ _ _ rfl hown (.int .i64 z) rfl rfl rfl (by omega) (by simp only [maxLen]; omega) hb hb.size ?_; intro v3 w3 hown3 hb3 hg3; clear hg3))
        rw [unhide HE] at hown3
        clear hown hb HE
        go_roundw
        case rel => exact ⟨k + 1, by omega, by go_num, hb3, hown3⟩
        case measure => simp [intOf]; omega
    · obtain rfl : n = k := by omega
      have e : r.take n = r := List.take_of_length_le (by rw [unhide HL]; exact Nat.le_refl _)
      rw [e] at hown
      have hI : Ints wr w.heap.size u5 (behind f r) := Ints.of_own hown
      clear hown e
      go_wp2
      go_ret
      exact GivesI.mk hI hb

theorem IntsS.push {w : World} {B : Nat} {v : Value} {vs : List Value} {zss : List (List Int)} {u : Value} {zs : List Int} {n : Nat} (hn : n = zss.length) (hown : w.ownsRow B 36 1 v (n + 1) (vs ++ [u])) (hin : Inner w B (vs ++ [u]) (zss ++ [zs])) : IntsS w B v (zss ++ [zs]) := by
  subst hn
  refine ⟨vs ++ [u], ?_, hin⟩
  rw [List.length_append]
  exact hown

set_option maxHeartbeats 1600000 in
theorem iperms_step (n : Nat) (hn : n + 1 ≤ 6) (IH : ∀ w, Calls Tryz.prog 128 #[.int .i64 (n : Int)] w (GivesSS w (permL n))) (w : World) :
    Calls Tryz.prog 128 #[.int .i64 ((n : Int) + 1)] w (GivesSS w (permL (n + 1))) := by
  obtain ⟨i0, hi, hz0, hz1, hz2⟩ := info_parts rowsInfo
  have hL := (permL_small n (by omega)).1
  have HR := hide (fun i r (h : (permL n)[i]? = some r) => permL_rows n (by omega) r (List.mem_of_getElem? h))
  have HI := hide IH
  clear IH
  go_enter Tryz.func128, Tryz.ntmps128
  go_wp2_with fail
  refine (unhide HI _).mono ?_
  rintro e w1 ⟨A1, c1, rfl, hR, hb1⟩
  have hrest := hide hR
  have hs1 := hb1.size
  clear HI hR
  obtain ⟨L, hLL⟩ : ∃ L, L = (permL n).length := ⟨_, rfl⟩
  rw [← hLL] at hL hrest ⊢
  have HLL := hide hLL
  clear hLL
  go_wp2
  go_loopw [3, 5, 7, 28] (fun o i _ _ wr => ∃ j : Nat, j ≤ n + 1 ∧ i = .int .i64 ((j : Int) + 1) ∧ Below w1.heap.size w1 wr ∧ IntsS wr w1.heap.size o (permK n j)) (fun _ i _ _ _ => n + 2 - (intOf i).toNat)
  case atStart => exact ⟨0, Nat.zero_le _, rfl, Below.refl _ _, IntsS.nil _ _⟩
  case round =>
    obtain ⟨j, hj, rfl, hb, hall⟩ := hrel
    by_cases hlt : j < n + 1
    · have hlt' : (j : Int) + 1 ≤ (n : Int) + 1 := by omega
      have hall' := hide hall
      clear hall
      obtain ⟨wo, rfl⟩ : ∃ wo : World, wo = wr := ⟨_, rfl⟩
      go_wp2
      go_loopw [3, 7, 28] (fun o _ i wi => ∃ k : Nat, k ≤ L ∧ i = .int .i64 k ∧ Below w1.heap.size w1 wi ∧ IntsS wi w1.heap.size o (permI n j k)) (fun _ _ i _ => L - (intOf i).toNat)
      case atStart => exact ⟨0, Nat.zero_le _, rfl, hb, by rw [permI_zero]; exact unhide hall'⟩
      case round =>
        obtain ⟨k, hk, rfl, hbi, hal⟩ := hrel
        clear hall' hb
        by_cases hkt : k < L
        · obtain ⟨ad, A2, c2, r, rfl, hr, hc, hI⟩ := ((unhide hrest).stay hbi (Nat.le_refl _)).at_ hkt
          have hrow := unhide HR k r hr
          have H1 := hide (behind_any ((j : Int) + 1) A2 r.length c2 wr.heap.size r wr hI.reads (Nat.le_refl _) (by omega) hrow.2)
          obtain ⟨vs, hown, hin⟩ := hal
          have hlen : (permI n j k).length ≤ 5040 := by
            rw [permI_length n j k (by rw [← unhide HLL]; exact hk), ← unhide HLL]
            have := Nat.mul_le_mul (show j ≤ 6 by omega) hL
            omega
          have hstep := hide (permI_step (j := j) hr)
          have hrl : r.length ≤ 6 := by omega
          have Hin := hide hin
          have Hown := hide hown
          have hsi := hbi.size
          clear hr hrow hI hin hown
          go_wp2_with fail
          refine (unhide H1).mono ?_
          rintro e w2 ⟨A3, c3, rfl, own3, b3⟩
          have hown2 := own_below (unhide Hown) b3
          have hb2 := hbi.trans (b3.mono hsi)
          have Own3 := hide own3
          have B3 := hide b3
          clear H1 own3 b3 hbi
          go_wp2_with (first
            | (at_builtin; refine wpList_append_one rfl (.tmp 32) (.tmp 36) 24 rfl w1.heap.size 36 i0 (.slice none 0 0) 24 Tryz.underlying24 hi hz0 hz1 hz2 rfl w1 w2 _ _ _ rfl hown2 (.slice A3 (behind ((j : Int) + 1) r).length c3) rfl rfl rfl (by omega) (by simp only [maxLen]; omega) hb2 hb2.size ?_; intro v4 w4 hown4 hb4 hg4))
          have hk4 := KeepI.of_grown hown2 hg4
          have hin4 := (((unhide Hin).keepI (KeepI.of_below (unhide B3))).keepI hk4).push (((unhide Own3).low hsi).keepI hk4) ((unhide Hin).away_new (unhide Own3).since (Nat.le_refl _))
          have hnext : IntsS w4 w1.heap.size v4 (permI n j (k + 1)) := by rw [unhide hstep]; exact IntsS.push rfl hown4 hin4
          clear hk4 hin4 hown4 hg4 hown2 hb2
          go_roundw
          case rel => exact ⟨k + 1, by omega, by go_num, hb4, hnext⟩
          case measure => simp [intOf]; omega
        · obtain rfl : L = k := by omega
          rw [unhide HLL, permI_all] at hal
          go_wp2
          go_roundw
          case rel => exact ⟨j + 1, by omega, by go_num, hbi, hal⟩
          case measure => simp [intOf]; omega
    · obtain rfl : j = n + 1 := by omega
      have hlt' : ¬ (((n + 1 : Nat) : Int) + 1 ≤ (n : Int) + 1) := by omega
      have hbe := below_after hb1 hb
      have hfin := hall.low hs1
      rw [permK_all] at hfin
      clear hall hb hb1
      go_wp2
      go_ret
      exact GivesSS.mk hfin hbe

theorem iperms_zero (w : World) : Calls Tryz.prog 128 #[.int .i64 0] w (GivesSS w (permL 0)) := by
  go_enter Tryz.func128, Tryz.ntmps128
  go_wp2
  go_ret
  have hI := (Ints.made0 w w.heap.size (Nat.le_refl _)).below (w' := (w.alloc (.cells #[] 3)).alloc (.cells #[.slice (some ⟨w.heap.size, 0, none⟩) 0 0] 36)) ((Below.refl _ _).alloc (Nat.le_refl _) _)
  have hown : ((w.alloc (.cells #[] 3)).alloc (.cells #[.slice (some ⟨w.heap.size, 0, none⟩) 0 0] 36)).ownsRow w.heap.size 36 1 (.slice (some ⟨w.heap.size + 1, 0, none⟩) 1 1) 1 [.slice (some ⟨w.heap.size, 0, none⟩) 0 0] := by
    refine ⟨rfl, .inr ⟨w.heap.size + 1, 1, #[.slice (some ⟨w.heap.size, 0, none⟩) 0 0], rfl, by omega, ?_, Nat.le_refl _, by unfold maxLen; omega, rfl, rfl⟩⟩
    have := heap_alloc_new (w.alloc (.cells #[] 3)) (.cells #[.slice (some ⟨w.heap.size, 0, none⟩) 0 0] 36)
    rwa [show (w.alloc (.cells #[] 3)).heap.size = w.heap.size + 1 by simp] at this
  have hin : Inner ((w.alloc (.cells #[] 3)).alloc (.cells #[.slice (some ⟨w.heap.size, 0, none⟩) 0 0] 36)) w.heap.size [.slice (some ⟨w.heap.size, 0, none⟩) 0 0] (permL 0) :=
    (Inner.nil _ _).push hI (fun x hx => by simp at hx)
  exact GivesSS.mk ⟨_, hown, hin⟩ (((Below.refl _ _).alloc (Nat.le_refl _) _).alloc (by simp) _)

theorem iperms_in : ∀ (n : Nat), n ≤ 6 → ∀ w, Calls Tryz.prog 128 #[.int .i64 (n : Int)] w (GivesSS w (permL n))
  | 0, _ => fun w => iperms_zero w
  | n + 1, hn => fun w => by
    have h := iperms_step n hn (iperms_in n (by omega)) w
    rw [show (((n + 1 : Nat) : Int)) = (n : Int) + 1 by omega]
    exact h
theorem iperms_any (m : Int) (hm : -9223372036854775808 ≤ m ∧ m ≤ 9223372036854775807) (w : World) :
    Calls Tryz.prog 128 #[.int .i64 m] w (GivesSS w (permsR m)) := by
  by_cases h0 : 0 ≤ m
  · by_cases h6 : m ≤ 6
    · obtain ⟨n, rfl⟩ : ∃ n : Nat, m = (n : Int) := ⟨m.toNat, by omega⟩
      rw [permsR_yes (by omega)]
      exact iperms_in n (by omega) w
    · rw [permsR_no (by omega)]
      have h0' : ¬ m < 0 := by omega
      have h6' : 6 < m := by omega
      obtain ⟨hm1, hm2⟩ := hm
      go_enter Tryz.func128, Tryz.ntmps128
      go_wp2
      go_ret
      exact GivesSS.mk (v := .slice none 0 0) (IntsS.nil _ _) (Below.refl _ _)
  · rw [permsR_no (by omega)]
    have h0' : m < 0 := by omega
    obtain ⟨hm1, hm2⟩ := hm
    go_enter Tryz.func128, Tryz.ntmps128
    go_wp2
    go_ret
    exact GivesSS.mk (v := .slice none 0 0) (IntsS.nil _ _) (Below.refl _ _)

end Go.Proofs.YtoiipedomgefaaaGreatDoor


/-
  spec.l2Fill and spec.PermsOf, by their contracts.
-/

namespace Go.Proofs.YtoiipedomgefaaaGreatDoor
set_option maxRecDepth 100000
open Go.RowKit

def FillEnds (w : World) (B : Nat) (zss : List (List Int)) (e : Ending) (w' : World) : Prop := ∃ v, e = .returned v ∧ IntsS w' B v zss ∧ Below B w w' ∧ KeepI w w'
/-- What l2Fill is handed: a head, a list of rows, the head away from them. -/
structure Handed (w : World) (B : Nat) (hv : Value) (hd : List Int) (ov : Value) (out : List (List Int)) (vs : List Value) : Prop where
  head : Ints w B hv hd
  own : w.ownsRow B 36 1 ov out.length vs
  inner : Inner w B vs out
  away : ∀ x ∈ vs, Away x hv

set_option maxHeartbeats 800000 in
theorem fill_leaf (n : Nat) (g c : Nat) (hd : List Int) (out : List (List Int)) (ov : Value) (vs : List Value) (B : Nat) (w : World) (hn : hd.length = n) (h : Handed w B (.slice (some ⟨g, 0, none⟩) n c) hd ov out vs) (hB : B ≤ w.heap.size) (hl : out.length ≤ 1000000) :
    Calls Tryz.prog 75 #[.int .i64 (n : Int), .slice (some ⟨g, 0, none⟩) n c, ov] w (FillEnds w B (out ++ fillL n 0 hd)) := by
  obtain ⟨i0, hi, hz0, hz1, hz2⟩ := info_parts rowsInfo
  have hown := h.own
  have hbel := Below.refl B w
  have HH := hide h
  clear h
  have HN := hide hn
  clear hn
  go_enter Tryz.func75, Tryz.ntmps75
  go_wp2_with (first
    | (at_builtin; refine wpList_append_one rfl (.tmp 12) (.tmp 14) 24 rfl B 36 i0 (.slice none 0 0) 24 Tryz.underlying24 hi hz0 hz1 hz2 rfl w w _ _ _ rfl hown (.slice (some ⟨g, 0, none⟩) n c) rfl rfl rfl (by omega) (by simp only [maxLen]; omega) hbel hB ?_; intro v4 w4 hown4 hb4 hg4))
  have hk4 := KeepI.of_grown hown hg4
  have hin4 := ((unhide HH).inner.keepI hk4).push ((unhide HH).head.keepI hk4) (unhide HH).away
  have hfin : IntsS w4 B v4 (out ++ fillL n 0 hd) := IntsS.push rfl hown4 hin4
  clear hin4 hown4 hg4 hown hbel
  go_ret
  exact ⟨_, rfl, hfin, hb4, hk4⟩

theorem below_ends {w0 w w' : World} {B : Nat} {zss : List (List Int)} {e : Ending} (hb : Below B w0 w) (hk : KeepI w0 w) (h : FillEnds w B zss e w') : FillEnds w0 B zss e w' := by
  obtain ⟨v, he, hI, hb2, hk2⟩ := h
  exact ⟨v, he, hI, hb.trans hb2, hk.trans hk2⟩

set_option maxHeartbeats 1600000 in
theorem fill_step (n d : Nat) (hn6 : n ≤ 6) (B : Nat)
    (IH : ∀ (m : Nat) (g c : Nat) (hd : List Int) (out : List (List Int)) (ov : Value) (vs : List Value) (w : World), hd.length = m → m + d = n → Handed w B (.slice (some ⟨g, 0, none⟩) m c) hd ov out vs → B ≤ w.heap.size → out.length + (fillL n d hd).length ≤ 1000000 →
      Calls Tryz.prog 75 #[.int .i64 (n : Int), .slice (some ⟨g, 0, none⟩) m c, ov] w (FillEnds w B (out ++ fillL n d hd)))
    (m g c : Nat) (hd : List Int) (out : List (List Int)) (ov : Value) (vs : List Value) (w : World) (hm : hd.length = m) (hmd : m + (d + 1) = n) (h : Handed w B (.slice (some ⟨g, 0, none⟩) m c) hd ov out vs) (hB : B ≤ w.heap.size) (hl : out.length + (fillL n (d + 1) hd).length ≤ 1000000) :
    Calls Tryz.prog 75 #[.int .i64 (n : Int), .slice (some ⟨g, 0, none⟩) m c, ov] w (FillEnds w B (out ++ fillL n (d + 1) hd)) := by
  obtain ⟨i0, hi, hz0, hz1, hz2⟩ := info_parts intInfo
  have hne : ((m : Int) == (n : Int)) = false := by simp; omega
  have hm6 : m < n := by omega
  have hst : IntsS w B ov (out ++ fillK n d hd 0) := by rw [fillK_zero, List.append_nil]; exact ⟨vs, h.own, h.inner⟩
  have HH := hide h.head
  have HI := hide IH
  have HM := hide hm
  have HMD := hide hmd
  have HLL := hide hl
  clear IH h hm hmd hl
  go_enter Tryz.func75, Tryz.ntmps75
  go_wp2
  go_loopw [2, 7] (fun o i wr => ∃ k : Nat, k ≤ n ∧ i = .int .i64 ((k : Int) + 1) ∧ Below B w wr ∧ KeepI w wr ∧ IntsS wr B o (out ++ fillK n d hd k)) (fun _ i _ => n + 1 - (intOf i).toNat)
  case atStart => exact ⟨0, Nat.zero_le _, rfl, Below.refl _ _, KeepI.refl _, hst⟩
  case round =>
    obtain ⟨k, hk, rfl, hb, hkk, hout⟩ := hrel
    clear hst
    by_cases hlt : k < n
    · have hlt' : (k : Int) + 1 ≤ (n : Int) := by omega
      have hI := (unhide HH).keepI hkk
      obtain ⟨b2, hb2⟩ : ∃ b2, decide ((k : Int) + 1 ∈ hd) = b2 := ⟨_, rfl⟩
      have H1 := hide (l2has_any (some ⟨g, 0, none⟩) m c _ hd ((k : Int) + 1) b2 hb2 wr hI.reads (by omega))
      have HB2 := hide hb2
      clear hb2
      cases b2 with
      | true =>
        have hin : (k : Int) + 1 ∈ hd := by simpa using unhide HB2
        rw [← fillK_in (n := n) (d := d) hin] at hout
        clear hin hI
        go_wp2_with fail
        refine (unhide H1).mono ?_
        rintro e w' ⟨rfl, hw'⟩
        rw [hw']
        clear hw' H1
        go_wp2
        go_roundw
        case rel => exact ⟨k + 1, by omega, by go_num, hb, hkk, hout⟩
        case measure => simp [intOf]; omega
      | false =>
        have hno : (k : Int) + 1 ∉ hd := by simpa using unhide HB2
        have hstep := hide (fillK_out (n := n) (d := d) hno)
        obtain ⟨vs2, hown, hin⟩ := hout
        have hg : g < wr.heap.size := (Row.lt hI g rfl).2
        -- the head's cells, behind the new empty row
        have hcl : ∀ j u, (i64s hd)[j]? = some u → (wr.alloc (.cells #[] 3)).cell? ((⟨g, 0, none⟩ : Addr).add j) = some u := fun j u hu => by
          rw [World.cell?_alloc_lt]
          · have hr := hI.reads
            have hj : j < m := by have := (List.getElem?_eq_some_iff.1 hu).1; rw [i64_length, unhide HM] at this; exact this
            obtain ⟨ad, he, _, hc⟩ := hr.2 (by omega)
            injection he with he
            subst he
            exact hc j u hu
          · rw [block_of_add]; exact hg
        have hs1 := Nat.le_trans hB hb.size
        have hown0 := own0 wr wr.heap.size (Nat.le_refl _)
        have hb0 := (Below.refl wr.heap.size wr).alloc (Nat.le_refl _) (.cells #[] 3)
        have hone : ∀ u ∈ i64s hd, u.oneCell' = true := fun u hu => by
          unfold i64s at hu
          obtain ⟨z, _, rfl⟩ := List.mem_map.1 hu
          rfl
        have hln : (i64s hd).length = m * 1 := by rw [i64_length, unhide HM]; omega
        have HCL := hide hcl
        have HONE := hide hone
        have HLN := hide hln
        have Hown := hide hown
        have Hin := hide hin
        clear hcl hone hln hno hI hown hin
        go_wp2_with fail
        refine (unhide H1).mono ?_
        rintro e w' ⟨rfl, hw'⟩
        rw [hw']
        clear hw' H1
        go_wp2_with (at_builtin; refine wpList_append_own _ rfl (.tmp 26) (.tmp 27) 36 rfl wr.heap.size 3 i0 (.int .i64 0) 1 8 Tryz.underlying36 hi hz0 hz1 hz2 rfl (by decide) _ _ _ rfl hown0 ⟨g, 0, none⟩ m c (i64s hd) rfl ?_ ?_ ?_ ?_ ?_ ?_ ?_)
        · exact unhide HLN
        · exact unhide HCL
        · exact unhide HONE
        · unfold maxLen; omega
        · omega
        · simp
        intro v1 w1 hown1 hg1 _
        have hb1 : Below wr.heap.size wr w1 := hb0.grown hg1 (by simp) (fun q hq => by simp [Value.ownBlock] at hq; omega)
        clear hg1
        go_wp2_with (at_builtin; refine wpList_append_one rfl (.tmp 28) (.tmp 30) 36 rfl wr.heap.size 3 i0 (.int .i64 0) 8 Tryz.underlying36 hi hz0 hz1 hz2 rfl wr w1 _ _ _ rfl hown1 (.int .i64 ((k : Int) + 1)) rfl rfl rfl (by omega) (by simp only [maxLen]; omega) hb1 hb1.size ?_; intro v3 w3 hown3 hb3 hg3; clear hg3; obtain ⟨g3, c3, rfl⟩ := own_head hown3 (by omega))
        have hI3 : Ints w3 wr.heap.size (.slice (some ⟨g3, 0, none⟩) (m + 1) c3) (hd ++ [(k : Int) + 1]) := Ints.of_own (n := m + 1) (by have h := hown3; rwa [show i64s hd ++ [Value.int .i64 ((k : Int) + 1)] = i64s (hd ++ [(k : Int) + 1]) by unfold i64s; simp] at h)
        have hk3 := KeepI.of_below hb3
        have hH : Handed w3 B (.slice (some ⟨g3, 0, none⟩) (m + 1) c3) (hd ++ [(k : Int) + 1]) _ (out ++ fillK n d hd k) vs2 := ⟨hI3.low hs1, own_below (unhide Hown) hb3, (unhide Hin).keepI hk3, (unhide Hin).away_new hI3.since (Nat.le_refl _)⟩
        have hb4 := hb.trans (hb3.mono hs1)
        have hk4 := hkk.trans hk3
        have hlen : (out ++ fillK n d hd k).length + (fillL n d (hd ++ [(k : Int) + 1])).length ≤ 1000000 := by
          have h1 := unhide HLL
          have h2 := fillK_mono n d hd (k + 1) (n - (k + 1))
          rw [show k + 1 + (n - (k + 1)) = n by omega, fillK_all, unhide hstep, List.length_append] at h2
          rw [List.length_append]
          omega
        have H5 := hide (unhide HI (m + 1) g3 c3 (hd ++ [(k : Int) + 1]) _ _ vs2 w3 (by rw [List.length_append, unhide HM]; rfl) (by have := unhide HMD; omega) hH (Nat.le_trans hB hb4.size) hlen)
        rw [List.append_assoc, ← unhide hstep] at H5
        clear hown0 hb0 hown1 hb1 hown3 hb3 hI3 hk3 hH hlen hb hkk
        go_wp2_with fail
        refine (unhide H5).mono ?_
        rintro e w5 ⟨v5, rfl, hI5, hb5, hk5⟩
        have hb6 := hb4.trans hb5
        have hk6 := hk4.trans hk5
        clear H5 hb4 hk4 hb5 hk5
        go_wp2
        go_roundw
        case rel => exact ⟨k + 1, by omega, by go_num, hb6, hk6, hI5⟩
        case measure => simp [intOf]; omega
    · obtain rfl : n = k := by omega
      have hlt' : ¬ ((n : Int) + 1 ≤ (n : Int)) := by omega
      rw [fillK_all] at hout
      go_wp2
      go_ret
      exact ⟨_, rfl, hout, hb, hkk⟩

theorem fill_any (n : Nat) (hn6 : n ≤ 6) (B : Nat) : ∀ (d m g c : Nat) (hd : List Int) (out : List (List Int)) (ov : Value) (vs : List Value) (w : World), hd.length = m → m + d = n → Handed w B (.slice (some ⟨g, 0, none⟩) m c) hd ov out vs → B ≤ w.heap.size → out.length + (fillL n d hd).length ≤ 1000000 →
    Calls Tryz.prog 75 #[.int .i64 (n : Int), .slice (some ⟨g, 0, none⟩) m c, ov] w (FillEnds w B (out ++ fillL n d hd))
  | 0, m, g, c, hd, out, ov, vs, w, hm, hmd, h, hB, hl => by
    obtain rfl : m = n := by omega
    exact fill_leaf m g c hd out ov vs B w hm h hB (by omega)
  | d + 1, m, g, c, hd, out, ov, vs, w, hm, hmd, h, hB, hl => fill_step n d hn6 B (fill_any n hn6 B d) m g c hd out ov vs w hm hmd h hB hl

set_option maxHeartbeats 800000 in
theorem sperms_any (m : Int) (hm : -9223372036854775808 ≤ m ∧ m ≤ 9223372036854775807) (w : World) :
    Calls Tryz.prog 30 #[.int .i64 m] w (GivesSS w (permsR m)) := by
  by_cases hin : 0 ≤ m ∧ m ≤ 6
  · obtain ⟨n, rfl⟩ : ∃ n : Nat, m = (n : Int) := ⟨m.toNat, by omega⟩
    have hn : n ≤ 6 := by omega
    rw [permsR_yes hn]
    have H1 := hide (l1in_any (n : Int) 0 6 true (by simp; omega) w)
    -- the two empty rows
    have hI0 := Ints.made0 w w.heap.size (Nat.le_refl _)
    have hb1 := (Below.refl w.heap.size w).alloc (Nat.le_refl _) (.cells #[] 3)
    have hsz : (w.alloc (.cells #[] 3)).heap.size = w.heap.size + 1 := by simp
    have hown := ownS0 (w.alloc (.cells #[] 3)) w.heap.size (by simp)
    rw [hsz] at hown
    have hbA := (Below.refl (w.alloc (.cells #[] 3)).heap.size (w.alloc (.cells #[] 3))).alloc (Nat.le_refl _) (.cells #[] 36)
    have hI1 := hI0.below hbA
    have hb2 := hb1.alloc (by simp) (.cells #[] 36)
    have hH : Handed ((w.alloc (.cells #[] 3)).alloc (.cells #[] 36)) w.heap.size (.slice (some ⟨w.heap.size, 0, none⟩) 0 0) [] (.slice (some ⟨w.heap.size + 1, 0, none⟩) 0 0) [] [] := ⟨hI1, hown, Inner.nil _ _, fun x hx => by simp at hx⟩
    have hlen : ([] : List (List Int)).length + (fillL n n []).length ≤ 1000000 := by
      rw [two_ways n hn]
      have := (permL_small n hn).1
      simp only [List.length_nil]
      omega
    have H2 := hide (fill_any n hn w.heap.size n 0 w.heap.size 0 [] [] _ [] _ rfl (by omega) hH (by simp; omega) hlen)
    rw [List.nil_append, two_ways n hn] at H2
    clear hI0 hb1 hsz hown hbA hI1 hH hlen hin hm
    go_enter Tryz.func30, Tryz.ntmps30
    go_wp2_with fail
    refine (unhide H1).mono ?_
    rintro e w' ⟨rfl, hw'⟩
    rw [hw']
    clear hw' H1
    go_wp2_with fail
    refine (unhide H2).mono ?_
    rintro e w5 ⟨v5, rfl, hI5, hb5, _⟩
    have hb6 := hb2.trans hb5
    clear H2 hb5 hb2
    go_wp2
    go_ret
    exact GivesSS.mk hI5 hb6
  · rw [permsR_no hin]
    have H1 := hide (l1in_any m 0 6 false (by simp; omega) w)
    have hI := IntsS.made0 w w.heap.size (Nat.le_refl _)
    have hb := (Below.refl w.heap.size w).alloc (Nat.le_refl _) (.cells #[] 36)
    obtain ⟨hm1, hm2⟩ := hm
    clear hin
    go_enter Tryz.func30, Tryz.ntmps30
    go_wp2_with fail
    refine (unhide H1).mono ?_
    rintro e w' ⟨rfl, hw'⟩
    rw [hw']
    clear hw' H1
    go_wp2
    go_ret
    exact GivesSS.mk hI hb
end Go.Proofs.YtoiipedomgefaaaGreatDoor


/-
  spec.l3Symmetry and spec.SymmetryOf, by their contracts.
-/

namespace Go.Proofs.YtoiipedomgefaaaGreatDoor
set_option maxRecDepth 100000
open Go.RowKit

set_option maxHeartbeats 400000 in
theorem l3sym_0 (A : Option Addr) (n c B : Nat) (zs : List Int) (k : Nat) (hk : k ≤ 7) (hb1 : ((k : Int) % 2 == 1) = false) (hb2 : ((k : Int) / 2 % 2 == 1) = false) (hb3 : decide (4 ≤ (k : Int)) = false) (w : World) (h : Arg w B A n c zs) (hp : isP zs = true) :
    Calls Tryz.prog 58 #[.slice A n c, .int .i64 (k : Int)] w (GivesI w (symL zs k)) := by
  have hs : symL zs k = zs := by
    unfold symL sym2 sym1
    simp at hb1 hb2 hb3
    rw [if_neg (by omega : ¬ (4 ≤ k)), if_neg (by omega : ¬ (k / 2 % 2 = 1)), if_neg (by omega : ¬ (k % 2 = 1))]
  rw [hs]
  have hbel := (Below.refl w.heap.size w).alloc (Nat.le_refl _) (.cells #[] 3)
  have hst := own0 w w.heap.size (Nat.le_refl _)
  have hA := h.below hbel
  have hl := hide h.len
  clear h hs
  have _hp := hp
  go_enter Tryz.func58, Tryz.ntmps58
  go_wp2_with (at_builtin; refine wpList_append_arg rfl (.tmp 6) (.tmp 7) rfl w.heap.size B 0 n c w _ A [] zs rfl rfl hst hA (by omega) hbel hbel.size ?_; intro v1 w1 hown1 hb _)
  · have cur : Ints w1 w.heap.size v1 zs := Ints.of_own hown1
    obtain ⟨A1, c1, rfl⟩ := cur.slice
    clear hst hA hbel hown1
    go_wp2
    go_ret
    exact GivesI.mk cur hb
set_option maxHeartbeats 400000 in
theorem l3sym_1 (A : Option Addr) (n c B : Nat) (zs : List Int) (k : Nat) (hk : k ≤ 7) (hb1 : ((k : Int) % 2 == 1) = true) (hb2 : ((k : Int) / 2 % 2 == 1) = false) (hb3 : decide (4 ≤ (k : Int)) = false) (w : World) (h : Arg w B A n c zs) (hp : isP zs = true) :
    Calls Tryz.prog 58 #[.slice A n c, .int .i64 (k : Int)] w (GivesI w (symL zs k)) := by
  have hs : symL zs k = invFill zs zs.length := by
    unfold symL sym2 sym1
    simp at hb1 hb2 hb3
    rw [if_neg (by omega : ¬ (4 ≤ k)), if_neg (by omega : ¬ (k / 2 % 2 = 1)), if_pos (by omega : (k % 2 = 1))]
  rw [hs]
  have hbel := (Below.refl w.heap.size w).alloc (Nat.le_refl _) (.cells #[] 3)
  have hst := own0 w w.heap.size (Nat.le_refl _)
  have hA := h.below hbel
  have hl := hide h.len
  clear h hs
  have _hp := hp
  go_enter Tryz.func58, Tryz.ntmps58
  go_wp2_with (at_builtin; refine wpList_append_arg rfl (.tmp 6) (.tmp 7) rfl w.heap.size B 0 n c w _ A [] zs rfl rfl hst hA (by omega) hbel hbel.size ?_; intro v1 w1 hown1 hb _)
  · have cur : Ints w1 w.heap.size v1 zs := Ints.of_own hown1
    obtain ⟨A1, c1, rfl⟩ := cur.slice
    clear hst hA hbel hown1
    have H := hide (l2inv_any _ _ _ _ _ _ (cur.argP hp) hp)
    have hsz := hb.size
    clear cur
    go_wp2_with fail
    refine (unhide H).mono ?_
    rintro e w2 ⟨A2, c2, rfl, o2, d⟩
    have cur := o2.low hsz
    replace hb := below_after hb d
    replace hp := isP_inv hp
    clear H o2 d hsz
    go_wp2
    go_ret
    exact GivesI.mk cur hb
set_option maxHeartbeats 400000 in
theorem l3sym_2 (A : Option Addr) (n c B : Nat) (zs : List Int) (k : Nat) (hk : k ≤ 7) (hb1 : ((k : Int) % 2 == 1) = false) (hb2 : ((k : Int) / 2 % 2 == 1) = true) (hb3 : decide (4 ≤ (k : Int)) = false) (w : World) (h : Arg w B A n c zs) (hp : isP zs = true) :
    Calls Tryz.prog 58 #[.slice A n c, .int .i64 (k : Int)] w (GivesI w (symL zs k)) := by
  have hs : symL zs k = (zs).reverse := by
    unfold symL sym2 sym1
    simp at hb1 hb2 hb3
    rw [if_neg (by omega : ¬ (4 ≤ k)), if_pos (by omega : (k / 2 % 2 = 1)), if_neg (by omega : ¬ (k % 2 = 1))]
  rw [hs]
  have hbel := (Below.refl w.heap.size w).alloc (Nat.le_refl _) (.cells #[] 3)
  have hst := own0 w w.heap.size (Nat.le_refl _)
  have hA := h.below hbel
  have hl := hide h.len
  clear h hs
  have _hp := hp
  go_enter Tryz.func58, Tryz.ntmps58
  go_wp2_with (at_builtin; refine wpList_append_arg rfl (.tmp 6) (.tmp 7) rfl w.heap.size B 0 n c w _ A [] zs rfl rfl hst hA (by omega) hbel hbel.size ?_; intro v1 w1 hown1 hb _)
  · have cur : Ints w1 w.heap.size v1 zs := Ints.of_own hown1
    obtain ⟨A1, c1, rfl⟩ := cur.slice
    clear hst hA hbel hown1
    have H := hide (l3rev_any _ _ _ _ _ _ (cur.argP hp))
    have hsz := hb.size
    clear cur
    go_wp2_with fail
    refine (unhide H).mono ?_
    rintro e w2 ⟨A2, c2, rfl, o2, d⟩
    have cur := o2.low hsz
    replace hb := below_after hb d
    replace hp := isP_rev hp
    clear H o2 d hsz
    rw [List.length_reverse] at cur
    go_wp2
    go_ret
    exact GivesI.mk cur hb
set_option maxHeartbeats 400000 in
theorem l3sym_3 (A : Option Addr) (n c B : Nat) (zs : List Int) (k : Nat) (hk : k ≤ 7) (hb1 : ((k : Int) % 2 == 1) = true) (hb2 : ((k : Int) / 2 % 2 == 1) = true) (hb3 : decide (4 ≤ (k : Int)) = false) (w : World) (h : Arg w B A n c zs) (hp : isP zs = true) :
    Calls Tryz.prog 58 #[.slice A n c, .int .i64 (k : Int)] w (GivesI w (symL zs k)) := by
  have hs : symL zs k = (invFill zs zs.length).reverse := by
    unfold symL sym2 sym1
    simp at hb1 hb2 hb3
    rw [if_neg (by omega : ¬ (4 ≤ k)), if_pos (by omega : (k / 2 % 2 = 1)), if_pos (by omega : (k % 2 = 1))]
  rw [hs]
  have hbel := (Below.refl w.heap.size w).alloc (Nat.le_refl _) (.cells #[] 3)
  have hst := own0 w w.heap.size (Nat.le_refl _)
  have hA := h.below hbel
  have hl := hide h.len
  clear h hs
  have _hp := hp
  go_enter Tryz.func58, Tryz.ntmps58
  go_wp2_with (at_builtin; refine wpList_append_arg rfl (.tmp 6) (.tmp 7) rfl w.heap.size B 0 n c w _ A [] zs rfl rfl hst hA (by omega) hbel hbel.size ?_; intro v1 w1 hown1 hb _)
  · have cur : Ints w1 w.heap.size v1 zs := Ints.of_own hown1
    obtain ⟨A1, c1, rfl⟩ := cur.slice
    clear hst hA hbel hown1
    have H := hide (l2inv_any _ _ _ _ _ _ (cur.argP hp) hp)
    have hsz := hb.size
    clear cur
    go_wp2_with fail
    refine (unhide H).mono ?_
    rintro e w2 ⟨A2, c2, rfl, o2, d⟩
    have cur := o2.low hsz
    replace hb := below_after hb d
    replace hp := isP_inv hp
    clear H o2 d hsz
    have H := hide (l3rev_any _ _ _ _ _ _ (cur.argP hp))
    have hsz := hb.size
    clear cur
    go_wp2_with fail
    refine (unhide H).mono ?_
    rintro e w2 ⟨A2, c2, rfl, o2, d⟩
    have cur := o2.low hsz
    replace hb := below_after hb d
    replace hp := isP_rev hp
    clear H o2 d hsz
    rw [List.length_reverse] at cur
    go_wp2
    go_ret
    exact GivesI.mk cur hb
set_option maxHeartbeats 400000 in
theorem l3sym_4 (A : Option Addr) (n c B : Nat) (zs : List Int) (k : Nat) (hk : k ≤ 7) (hb1 : ((k : Int) % 2 == 1) = false) (hb2 : ((k : Int) / 2 % 2 == 1) = false) (hb3 : decide (4 ≤ (k : Int)) = true) (w : World) (h : Arg w B A n c zs) (hp : isP zs = true) :
    Calls Tryz.prog 58 #[.slice A n c, .int .i64 (k : Int)] w (GivesI w (symL zs k)) := by
  have hs : symL zs k = cplL (zs) := by
    unfold symL sym2 sym1
    simp at hb1 hb2 hb3
    rw [if_pos (by omega : (4 ≤ k)), if_neg (by omega : ¬ (k / 2 % 2 = 1)), if_neg (by omega : ¬ (k % 2 = 1))]
  rw [hs]
  have hbel := (Below.refl w.heap.size w).alloc (Nat.le_refl _) (.cells #[] 3)
  have hst := own0 w w.heap.size (Nat.le_refl _)
  have hA := h.below hbel
  have hl := hide h.len
  clear h hs
  have _hp := hp
  go_enter Tryz.func58, Tryz.ntmps58
  go_wp2_with (at_builtin; refine wpList_append_arg rfl (.tmp 6) (.tmp 7) rfl w.heap.size B 0 n c w _ A [] zs rfl rfl hst hA (by omega) hbel hbel.size ?_; intro v1 w1 hown1 hb _)
  · have cur : Ints w1 w.heap.size v1 zs := Ints.of_own hown1
    obtain ⟨A1, c1, rfl⟩ := cur.slice
    clear hst hA hbel hown1
    have H := hide (l3cpl_any _ _ _ _ _ _ (cur.argP hp) hp)
    have hsz := hb.size
    clear cur
    go_wp2_with fail
    refine (unhide H).mono ?_
    rintro e w2 ⟨A2, c2, rfl, o2, d⟩
    have cur := o2.low hsz
    replace hb := below_after hb d
    replace hp := isP_cpl hp
    clear H o2 d hsz
    go_wp2
    go_ret
    exact GivesI.mk cur hb
set_option maxHeartbeats 400000 in
theorem l3sym_5 (A : Option Addr) (n c B : Nat) (zs : List Int) (k : Nat) (hk : k ≤ 7) (hb1 : ((k : Int) % 2 == 1) = true) (hb2 : ((k : Int) / 2 % 2 == 1) = false) (hb3 : decide (4 ≤ (k : Int)) = true) (w : World) (h : Arg w B A n c zs) (hp : isP zs = true) :
    Calls Tryz.prog 58 #[.slice A n c, .int .i64 (k : Int)] w (GivesI w (symL zs k)) := by
  have hs : symL zs k = cplL (invFill zs zs.length) := by
    unfold symL sym2 sym1
    simp at hb1 hb2 hb3
    rw [if_pos (by omega : (4 ≤ k)), if_neg (by omega : ¬ (k / 2 % 2 = 1)), if_pos (by omega : (k % 2 = 1))]
  rw [hs]
  have hbel := (Below.refl w.heap.size w).alloc (Nat.le_refl _) (.cells #[] 3)
  have hst := own0 w w.heap.size (Nat.le_refl _)
  have hA := h.below hbel
  have hl := hide h.len
  clear h hs
  have _hp := hp
  go_enter Tryz.func58, Tryz.ntmps58
  go_wp2_with (at_builtin; refine wpList_append_arg rfl (.tmp 6) (.tmp 7) rfl w.heap.size B 0 n c w _ A [] zs rfl rfl hst hA (by omega) hbel hbel.size ?_; intro v1 w1 hown1 hb _)
  · have cur : Ints w1 w.heap.size v1 zs := Ints.of_own hown1
    obtain ⟨A1, c1, rfl⟩ := cur.slice
    clear hst hA hbel hown1
    have H := hide (l2inv_any _ _ _ _ _ _ (cur.argP hp) hp)
    have hsz := hb.size
    clear cur
    go_wp2_with fail
    refine (unhide H).mono ?_
    rintro e w2 ⟨A2, c2, rfl, o2, d⟩
    have cur := o2.low hsz
    replace hb := below_after hb d
    replace hp := isP_inv hp
    clear H o2 d hsz
    have H := hide (l3cpl_any _ _ _ _ _ _ (cur.argP hp) hp)
    have hsz := hb.size
    clear cur
    go_wp2_with fail
    refine (unhide H).mono ?_
    rintro e w2 ⟨A2, c2, rfl, o2, d⟩
    have cur := o2.low hsz
    replace hb := below_after hb d
    replace hp := isP_cpl hp
    clear H o2 d hsz
    go_wp2
    go_ret
    exact GivesI.mk cur hb
set_option maxHeartbeats 400000 in
theorem l3sym_6 (A : Option Addr) (n c B : Nat) (zs : List Int) (k : Nat) (hk : k ≤ 7) (hb1 : ((k : Int) % 2 == 1) = false) (hb2 : ((k : Int) / 2 % 2 == 1) = true) (hb3 : decide (4 ≤ (k : Int)) = true) (w : World) (h : Arg w B A n c zs) (hp : isP zs = true) :
    Calls Tryz.prog 58 #[.slice A n c, .int .i64 (k : Int)] w (GivesI w (symL zs k)) := by
  have hs : symL zs k = cplL ((zs).reverse) := by
    unfold symL sym2 sym1
    simp at hb1 hb2 hb3
    rw [if_pos (by omega : (4 ≤ k)), if_pos (by omega : (k / 2 % 2 = 1)), if_neg (by omega : ¬ (k % 2 = 1))]
  rw [hs]
  have hbel := (Below.refl w.heap.size w).alloc (Nat.le_refl _) (.cells #[] 3)
  have hst := own0 w w.heap.size (Nat.le_refl _)
  have hA := h.below hbel
  have hl := hide h.len
  clear h hs
  have _hp := hp
  go_enter Tryz.func58, Tryz.ntmps58
  go_wp2_with (at_builtin; refine wpList_append_arg rfl (.tmp 6) (.tmp 7) rfl w.heap.size B 0 n c w _ A [] zs rfl rfl hst hA (by omega) hbel hbel.size ?_; intro v1 w1 hown1 hb _)
  · have cur : Ints w1 w.heap.size v1 zs := Ints.of_own hown1
    obtain ⟨A1, c1, rfl⟩ := cur.slice
    clear hst hA hbel hown1
    have H := hide (l3rev_any _ _ _ _ _ _ (cur.argP hp))
    have hsz := hb.size
    clear cur
    go_wp2_with fail
    refine (unhide H).mono ?_
    rintro e w2 ⟨A2, c2, rfl, o2, d⟩
    have cur := o2.low hsz
    replace hb := below_after hb d
    replace hp := isP_rev hp
    clear H o2 d hsz
    rw [List.length_reverse] at cur
    have H := hide (l3cpl_any _ _ _ _ _ _ (cur.argP hp) hp)
    have hsz := hb.size
    clear cur
    go_wp2_with fail
    refine (unhide H).mono ?_
    rintro e w2 ⟨A2, c2, rfl, o2, d⟩
    have cur := o2.low hsz
    replace hb := below_after hb d
    replace hp := isP_cpl hp
    clear H o2 d hsz
    go_wp2
    go_ret
    exact GivesI.mk cur hb
set_option maxHeartbeats 400000 in
theorem l3sym_7 (A : Option Addr) (n c B : Nat) (zs : List Int) (k : Nat) (hk : k ≤ 7) (hb1 : ((k : Int) % 2 == 1) = true) (hb2 : ((k : Int) / 2 % 2 == 1) = true) (hb3 : decide (4 ≤ (k : Int)) = true) (w : World) (h : Arg w B A n c zs) (hp : isP zs = true) :
    Calls Tryz.prog 58 #[.slice A n c, .int .i64 (k : Int)] w (GivesI w (symL zs k)) := by
  have hs : symL zs k = cplL ((invFill zs zs.length).reverse) := by
    unfold symL sym2 sym1
    simp at hb1 hb2 hb3
    rw [if_pos (by omega : (4 ≤ k)), if_pos (by omega : (k / 2 % 2 = 1)), if_pos (by omega : (k % 2 = 1))]
  rw [hs]
  have hbel := (Below.refl w.heap.size w).alloc (Nat.le_refl _) (.cells #[] 3)
  have hst := own0 w w.heap.size (Nat.le_refl _)
  have hA := h.below hbel
  have hl := hide h.len
  clear h hs
  have _hp := hp
  go_enter Tryz.func58, Tryz.ntmps58
  go_wp2_with (at_builtin; refine wpList_append_arg rfl (.tmp 6) (.tmp 7) rfl w.heap.size B 0 n c w _ A [] zs rfl rfl hst hA (by omega) hbel hbel.size ?_; intro v1 w1 hown1 hb _)
  · have cur : Ints w1 w.heap.size v1 zs := Ints.of_own hown1
    obtain ⟨A1, c1, rfl⟩ := cur.slice
    clear hst hA hbel hown1
    have H := hide (l2inv_any _ _ _ _ _ _ (cur.argP hp) hp)
    have hsz := hb.size
    clear cur
    go_wp2_with fail
    refine (unhide H).mono ?_
    rintro e w2 ⟨A2, c2, rfl, o2, d⟩
    have cur := o2.low hsz
    replace hb := below_after hb d
    replace hp := isP_inv hp
    clear H o2 d hsz
    have H := hide (l3rev_any _ _ _ _ _ _ (cur.argP hp))
    have hsz := hb.size
    clear cur
    go_wp2_with fail
    refine (unhide H).mono ?_
    rintro e w2 ⟨A2, c2, rfl, o2, d⟩
    have cur := o2.low hsz
    replace hb := below_after hb d
    replace hp := isP_rev hp
    clear H o2 d hsz
    rw [List.length_reverse] at cur
    have H := hide (l3cpl_any _ _ _ _ _ _ (cur.argP hp) hp)
    have hsz := hb.size
    clear cur
    go_wp2_with fail
    refine (unhide H).mono ?_
    rintro e w2 ⟨A2, c2, rfl, o2, d⟩
    have cur := o2.low hsz
    replace hb := below_after hb d
    replace hp := isP_cpl hp
    clear H o2 d hsz
    go_wp2
    go_ret
    exact GivesI.mk cur hb
theorem l3sym_any (A : Option Addr) (n c B : Nat) (zs : List Int) (k : Nat) (hk : k ≤ 7) (w : World) (h : Arg w B A n c zs) (hp : isP zs = true) :
    Calls Tryz.prog 58 #[.slice A n c, .int .i64 (k : Int)] w (GivesI w (symL zs k)) := by
  cases h1 : ((k : Int) % 2 == 1) <;> cases h2 : ((k : Int) / 2 % 2 == 1) <;> cases h3 : decide (4 ≤ (k : Int))
  · exact l3sym_0 A n c B zs k hk h1 h2 h3 w h hp
  · exact l3sym_4 A n c B zs k hk h1 h2 h3 w h hp
  · exact l3sym_2 A n c B zs k hk h1 h2 h3 w h hp
  · exact l3sym_6 A n c B zs k hk h1 h2 h3 w h hp
  · exact l3sym_1 A n c B zs k hk h1 h2 h3 w h hp
  · exact l3sym_5 A n c B zs k hk h1 h2 h3 w h hp
  · exact l3sym_3 A n c B zs k hk h1 h2 h3 w h hp
  · exact l3sym_7 A n c B zs k hk h1 h2 h3 w h hp

end Go.Proofs.YtoiipedomgefaaaGreatDoor


/-
  spec.SymmetryClass and spec.LeastSymmetry, by their contracts.
-/

namespace Go.Proofs.YtoiipedomgefaaaGreatDoor
set_option maxRecDepth 100000
open Go.RowKit

theorem PutS.start (w : World) : PutS (w.alloc (.cells #[] 36)) w.heap.size (.slice (some ⟨w.heap.size, 0, none⟩) 0 0) [] := ⟨IntsS.made0 w w.heap.size (Nat.le_refl _), w.heap.size, 0, rfl⟩
theorem PutS.below {w w' : World} {B : Nat} {v : Value} {zss : List (List Int)} (h : PutS w B v zss) (hb : Below w.heap.size w w') : PutS w' B v zss := ⟨h.1.below hb, h.2⟩
theorem PutS.keepDrew {w w' : World} {B : Nat} {v : Value} {zss : List (List Int)} (h : PutS w B v zss) (hd : Drew w w') : PutS w' B v zss := h.below (hd.below _)
theorem ordL_all {l : List (List Int)} (h : allP l = true) (k : Nat) : ∀ z ∈ ordL l k, isP z = true := fun _ hz => allP_at h (List.mem_of_mem_take (ordL_mem.1 hz))
theorem tot_le8 : ∀ l : List (List Int), (∀ z ∈ l, z.length ≤ 8) → tot l ≤ 8 * l.length
  | [], _ => by simp [tot]
  | z :: l, h => by
    have h1 := h z (by simp)
    have h2 := tot_le8 l fun y hy => h y (by simp [hy])
    simp only [tot, List.length_cons, List.map_cons, List.sum_cons] at h2 ⊢
    omega
theorem clsR_small (p : List Int) : (clsR p).length ≤ 8 ∧ tot (clsR p) ≤ 64 := by
  have h1 := clsR_len p
  have h2 := tot_le8 (clsR p) fun z hz => isP_le (clsR_mem hz)
  omega
end Go.Proofs.YtoiipedomgefaaaGreatDoor


/-
  spec.l3All, by its contract.
-/

namespace Go.Proofs.YtoiipedomgefaaaGreatDoor
set_option maxRecDepth 100000
open Go.RowKit

theorem l3all_any (A : Option Addr) (n c B : Nat) (zss : List (List Int)) (b : Bool) (hb : allP zss = b) (w : World) (hS : IntsS w B (.slice A n c) zss) (hn : n ≤ 1048576) (hsm : ∀ z ∈ zss, z.length ≤ 1048576 ∧ Small z) :
    Calls Tryz.prog 73 #[.slice A n c] w fun e w' => e = .returned (.bool b) ∧ Drew w w' := by
  have hl := hS.len
  have HL := hide hl
  have HB := hide hb
  have HSM := hide hsm
  clear hl hb hsm
  go_enter Tryz.func73, Tryz.ntmps73
  go_wp2
  go_loopw [3] (fun i wr => ∃ k : Nat, k ≤ n ∧ i = .int .i64 k ∧ Drew w wr ∧ Hid (∀ z ∈ zss.take k, isP z = true)) (fun i _ => n - (intOf i).toNat)
  case atStart => exact ⟨0, Nat.zero_le _, rfl, Drew.refl _, fun z hz => by simp at hz⟩
  case round =>
    obtain ⟨k, hk, rfl, hd, hP⟩ := hrel
    by_cases hlt : k < n
    · obtain ⟨ad, A1, c1, z, rfl, hz, hcell, hI⟩ := (hS.below (hd.below _)).at_ hlt
      obtain ⟨hzl, hzs⟩ := unhide HSM z (List.mem_of_getElem? hz)
      have hA := hI.arg hzl hI.cap hzs
      obtain ⟨b1, hb1⟩ : ∃ b, isP z = b := ⟨_, rfl⟩
      have H1 := hide (sisperm_any A1 z.length c1 wr.heap.size z b1 hb1 wr hA.reads hA.le hA.cap)
      cases b1 with
      | false =>
        obtain rfl : b = false := (unhide HB).symm.trans (allP_no (List.mem_of_getElem? hz) hb1)
        have HD := hide hd
        clear hz hb1 hI hA hP hzs HB hd
        go_wp2_with fail
        refine (unhide H1).mono ?_
        rintro e w2 ⟨rfl, hd⟩
        have hd2 := (unhide HD).trans hd
        clear H1 hd HD
        go_wp2
        go_ret
        exact ⟨rfl, hd2⟩
      | true =>
        have hnext : Hid (∀ z ∈ zss.take (k + 1), isP z = true) := hide (fun y hy => by
          rw [List.take_add_one, hz] at hy
          rcases List.mem_append.1 hy with h | h
          · exact unhide hP y h
          · simp at h
            subst h
            exact hb1)
        have HD := hide hd
        clear hz hb1 hI hA hP hzs hd
        go_wp2_with fail
        refine (unhide H1).mono ?_
        rintro e w2 ⟨rfl, hd⟩
        have hd2 := (unhide HD).trans hd
        clear H1 hd HD
        go_wp2
        go_roundw
        case rel => exact ⟨k + 1, by omega, by go_num, hd2, hnext⟩
        case measure => simp [intOf]; omega
    · obtain rfl : n = k := by omega
      obtain rfl : b = true := (unhide HB).symm.trans (allP_yes fun z hz => unhide hP z (by rw [List.take_of_length_le (by rw [unhide HL]; exact Nat.le_refl _)]; exact hz))
      clear HB hP
      go_wp2
      go_ret
      exact ⟨rfl, hd⟩
end Go.Proofs.YtoiipedomgefaaaGreatDoor


/-
  spec.l3All and spec.OrderPerms, by their contracts.
-/

namespace Go.Proofs.YtoiipedomgefaaaGreatDoor
set_option maxRecDepth 100000
open Go.RowKit

theorem tot_app (a b : List (List Int)) : tot (a ++ b) = tot a + tot b := by simp [tot]
theorem tot_put (l : List (List Int)) (p : List Int) : tot (putL l p) ≤ tot l + p.length := by
  unfold putL
  split
  · omega
  · have h := congrArg tot (List.take_append_drop (scanL l p l.length) l)
    rw [tot_app] at h
    rw [tot_app, tot_app]
    have : tot [p] = p.length := by simp [tot]
    omega
theorem tot_foldl : ∀ (l a : List (List Int)), tot (l.foldl putL a) ≤ tot a + tot l
  | [], a => by simp [tot]
  | p :: l, a => by
    have h1 := tot_foldl l (putL a p)
    have h2 := tot_put a p
    have h3 := tot_app [p] l
    have h4 : tot [p] = p.length := by simp [tot]
    rw [List.foldl_cons]
    rw [List.singleton_append] at h3
    omega
theorem ordR_tot (l : List (List Int)) : tot (ordR l) ≤ tot l := by
  cases h : allP l with
  | true =>
    rw [ordR_yes h]
    unfold ordL
    have h1 := tot_foldl (l.take l.length) []
    rw [List.take_length] at h1 ⊢
    simpa [tot] using h1
  | false => rw [ordR_no h]; simp [tot]
set_option maxHeartbeats 800000 in
theorem sord_any (A : Option Addr) (n c B : Nat) (zss : List (List Int)) (w : World) (hS : IntsS w B (.slice A n c) zss) (hn : n ≤ 1048576) (hsm : ∀ z ∈ zss, z.length ≤ 1048576 ∧ Small z) :
    Calls Tryz.prog 91 #[.slice A n c] w (GivesSS w (ordR zss)) := by
  have hl := hS.len
  have HL := hide hl
  have hst := PutS.start w
  have hbel := (Below.refl w.heap.size w).alloc (Nat.le_refl _) (.cells #[] 36)
  obtain ⟨b, hb⟩ : ∃ b, allP zss = b := ⟨_, rfl⟩
  have H1 := hide (fun w' (hb' : Below w.heap.size w w') => l3all_any A n c B zss b hb w' (hS.below hb') hn hsm)
  clear hl hsm
  cases b with
  | false =>
    have hr := hide (ordR_no hb)
    have hne : ¬ n = 0 := fun h => by
      have h2 := unhide HL
      rw [h] at h2
      obtain rfl := List.eq_nil_of_length_eq_zero h2
      cases hb
    have H2 := hide (unhide H1 _ hbel)
    clear hS hb H1
    go_enter Tryz.func91, Tryz.ntmps91
    go_wp2
    go_loopw [3, 4] (fun v i wr => v = .slice (some ⟨w.heap.size, 0, none⟩) 0 0 ∧ i = .int .i64 0 ∧ wr = w.alloc (.cells #[] 36)) (fun _ _ _ => 0)
    case atStart => exact ⟨rfl, rfl, rfl⟩
    case round =>
      obtain ⟨rfl, rfl, hw⟩ := hrel
      have hpos : (0 : Int) < (n : Int) := by omega
      go_wp2_with fail
      refine (unhide H2).mono ?_
      rintro e w2 ⟨rfl, hd⟩
      have hst2 := hst.keepDrew hd
      have hb2 := below_after hbel (hd.below _)
      clear H2 hst hbel hd
      go_wp2
      go_ret
      rw [unhide hr]
      exact GivesSS.mk hst2.1 hb2
  | true =>
    have hall := hide hb
    have hr := hide (show ordR zss = ordL zss n by rw [ordR_yes hb, unhide HL])
    clear hb
    go_enter Tryz.func91, Tryz.ntmps91
    go_wp2
    go_loopw [3, 4] (fun v i wr => ∃ k : Nat, k ≤ n ∧ i = .int .i64 k ∧ Below w.heap.size w wr ∧ PutS wr w.heap.size v (ordL zss k)) (fun _ i _ => n - (intOf i).toNat)
    case atStart => exact ⟨0, Nat.zero_le _, rfl, hbel, by rw [ordL_zero]; exact hst⟩
    case round =>
      obtain ⟨k, hk, rfl, hbw, hP⟩ := hrel
      clear hst hbel
      by_cases hlt : k < n
      · have H3 := hide (unhide H1 wr hbw)
        obtain ⟨g, cap, rfl⟩ := hP.2
        go_wp2_with fail
        refine (unhide H3).mono ?_
        rintro e w2 ⟨rfl, hd⟩
        have hb2 := below_after hbw (hd.below _)
        have hP2 := hP.keepDrew hd
        obtain ⟨ad, A1, c1, z, rfl, hz, hcell, hI⟩ := (hS.below hb2).at_ hlt
        have hA := hI.argP (allP_at (unhide hall) (List.mem_of_getElem? hz))
        have hlen : (ordL zss k).length ≤ 1048576 := by have := ordL_len zss k; rw [unhide HL] at this; omega
        have H5 := hide (l3put_any w.heap.size (ordL zss k) g (ordL zss k).length cap A1 z.length c1 w2.heap.size z w2 hP2.1 hA hb2.size (ordL_all (unhide hall) k) hlen)
        rw [← ordL_step hz] at H5
        clear H3 hbw hP hd hP2 hz hI hA hlen
        go_wp2_with fail
        refine (unhide H5).mono ?_
        rintro e w4 ⟨v4, rfl, hS4, hb4, _⟩
        have hb5 := hb2.trans hb4
        clear H5 hb2 hb4
        go_wp2
        go_roundw
        case rel => exact ⟨k + 1, by omega, by go_num, hb5, hS4⟩
        case measure => simp [intOf]; omega
      · obtain rfl : n = k := by omega
        clear H1
        go_wp2
        go_ret
        rw [unhide hr]
        exact GivesSS.mk hP.1 hbw
end Go.Proofs.YtoiipedomgefaaaGreatDoor


/-
  spec.ClassOf and spec.MakeBasis, by their contracts.
-/

namespace Go.Proofs.YtoiipedomgefaaaGreatDoor
set_option maxRecDepth 100000
open Go.RowKit

theorem clsO_no {L : List (List Int)} {m : Int} (h : ¬ (basis L = true ∧ 0 ≤ m ∧ m ≤ 6)) : clsO L m = [] := by unfold clsO; rw [if_neg h]
theorem clsO_yes {L : List (List Int)} {k : Nat} (h : basis L = true) (hk : k ≤ 6) : clsO L (k : Int) = sift (avo L) (permL k) (permL k).length := by
  unfold clsO
  rw [if_pos ⟨h, by omega, by omega⟩, sift_all, Int.toNat_natCast]
  rfl
theorem permL_isPm : ∀ n : Nat, n ≤ 6 → ∀ z ∈ permL n, isP z = true := by decide +kernel
set_option maxHeartbeats 1600000 in
theorem sclo_any (A : Option Addr) (n c B : Nat) (zss : List (List Int)) (m : Int) (hm : -9223372036854775808 ≤ m ∧ m ≤ 9223372036854775807) (w : World) (hS : IntsS w B (.slice A n c) zss) (hn : n ≤ 1048576) (hsm : ∀ z ∈ zss, z.length ≤ 1048576 ∧ Small z) :
    Calls Tryz.prog 33 #[.slice A n c, .int .i64 m] w (GivesSS w (clsO zss m)) := by
  obtain ⟨hm1, hm2⟩ := hm
  have hst := ownS0 w w.heap.size (Nat.le_refl _)
  have hbel := (Below.refl w.heap.size w).alloc (Nat.le_refl _) (.cells #[] 36)
  obtain ⟨b, hb⟩ : ∃ b, basis zss = b := ⟨_, rfl⟩
  have H1 := hide (sbas_any A n c B zss _ (hS.below hbel) hn hsm)
  rw [hb] at H1
  cases b with
  | false =>
    rw [clsO_no (fun h => by rw [hb] at h; cases h.1)]
    have hI := IntsS.made0 w w.heap.size (Nat.le_refl _)
    clear hb hS hsm hst
    go_enter Tryz.func33, Tryz.ntmps33
    go_wp2_with fail
    refine (unhide H1).mono ?_
    rintro e w1 ⟨rfl, d1⟩
    have hI2 := hI.below d1
    have hb1 := below_after hbel d1
    clear H1 d1 hI hbel
    go_wp2
    go_ret
    exact GivesSS.mk hI2 hb1
  | true =>
    by_cases hin : 0 ≤ m ∧ m ≤ 6
    · obtain ⟨k, rfl⟩ : ∃ k : Nat, m = (k : Int) := ⟨m.toNat, by omega⟩
      have hk6 : k ≤ 6 := by omega
      rw [clsO_yes hb hk6]
      have H2 := hide (fun w' => l1in_any (k : Int) 0 6 true (decide_eq_true hin) w')
      have H3 := hide (fun w' => by have h5 := sperms_any ((k : Nat) : Int) (by omega) w'; rw [permsR_yes hk6] at h5; exact h5)
      have hLs := (permL_small k hk6).1
      have HPP := hide (fun (j : Nat) (z : List Int) (hz : (permL k)[j]? = some z) => permL_isPm k hk6 z (List.mem_of_getElem? hz))
      have HA := hide (⟨hS, fun z hz => (basis_isP hb z hz).1⟩ : IntsS w B (.slice A n c) zss ∧ ∀ z ∈ zss, isP z = true)
      obtain ⟨Z, hZ⟩ : ∃ Z, Z = permL k := ⟨_, rfl⟩
      rw [← hZ] at H3 hLs HPP ⊢
      clear hb hS hsm hin hm1 hm2 hZ
      go_enter Tryz.func33, Tryz.ntmps33
      go_wp2_with fail
      refine (unhide H1).mono ?_
      rintro e w1 ⟨rfl, d1⟩
      have hst1 := own_below hst d1
      have hb1 := below_after hbel d1
      clear H1 d1 hst hbel
      go_wp2_with fail
      refine (unhide H2 w1).mono ?_
      rintro e w2 ⟨rfl, hw2⟩
      rw [hw2]
      clear H2 hw2 w2
      go_wp2_with fail
      refine (unhide H3 w1).mono ?_
      rintro e w3 ⟨A3, c3, rfl, o3, d3⟩
      have hb3 := below_after hb1 d3
      obtain ⟨vs, us0, hsib⟩ := Sib.start hst1 d3 o3 hb1.size
      obtain ⟨C, hC⟩ : ∃ C, C = w1.heap.size := ⟨_, rfl⟩
      rw [← hC] at hsib
      clear hC
      obtain ⟨N, hN⟩ : ∃ N, N = Z.length := ⟨_, rfl⟩
      rw [← hN] at hLs hsib ⊢
      have HN := hide hN
      clear H3 hst1 o3 d3 hb1 hN
      go_wp2
      go_loopw [5, 7] (fun ov i wr => ∃ (j : Nat) (us : List Value), j ≤ N ∧ i = .int .i64 j ∧ Below w.heap.size w wr ∧ Sib wr w.heap.size C (.slice A3 N c3) vs Z ov us (sift (avo zss) Z j) j) (fun _ i _ => N - (intOf i).toNat)
      case atStart => exact ⟨0, us0, Nat.zero_le _, rfl, hb3, hsib⟩
      case round =>
        obtain ⟨j, us, hj, rfl, hb, hs⟩ := hrel
        clear hsib hb3
        have hle := sift_le (avo zss) Z j
        by_cases hlt : j < N
        · obtain ⟨ad, A6, c6, z, rfl, hz, hvz, hcell, hI⟩ := hs.row rfl hlt
          have hzp := unhide HPP j z hz
          have H4 := hide (savo_any A A6 n c B z.length c6 _ zss z wr ((unhide HA).1.below hb) (hI.argP hzp) hzp (unhide HA).2 hn)
          obtain ⟨b, hbb⟩ : ∃ b, avo zss z = b := ⟨_, rfl⟩
          rw [hbb] at H4
          have HZ := hide (⟨hz, hvz⟩ : _ ∧ _)
          have HS := hide hs
          have HB := hide hb
          have hcl := World.block_lt_of_cell? wr _ hcell
          obtain ⟨lz, hlz⟩ : ∃ l, l = z.length := ⟨_, rfl⟩
          rw [← hlz] at hcell H4 HZ
          have HLZ := hide hlz
          clear hz hvz hzp hI hs hb hlz
          go_wp2_with fail
          refine (unhide H4).mono ?_
          rintro e w4 ⟨rfl, d4⟩
          have hb4 := below_after (unhide HB) d4
          have hs4 := (unhide HS).below d4
          have hcell4 := (d4.cell hcl).trans hcell
          clear H4 HB HS d4 hcell hcl
          cases b with
          | true =>
            have HE := hide (sift_yes (unhide HZ).1 hbb)
            clear hbb
            go_wp2_with (first
              | (at_builtin; refine wpList_sift rfl (.tmp 32) (.tmp 37) rfl w.heap.size C w w4 (.slice (some ad) N c3) _ (.slice A6 lz c6) vs us Z _ j z rfl rfl rfl hs4 (unhide HZ).2 (unhide HZ).1 (by omega) hb4 (Nat.le_refl _) ?_; intro v5 w5 hs5 hb5))
            rw [← unhide HE] at hs5
            clear hs4 hb4 hcell4
            go_roundw
            case rel => exact ⟨j + 1, _, by omega, by go_num, hb5, hs5⟩
            case measure => simp [intOf]; omega
          | false =>
            have HE := hide (sift_no (unhide HZ).1 hbb)
            have hs5 := hs4.skip
            rw [← unhide HE] at hs5
            clear hbb hs4 hcell4
            go_wp2
            go_roundw
            case rel => exact ⟨j + 1, us, by omega, by go_num, hb4, hs5⟩
            case measure => simp [intOf]; omega
        · obtain rfl : N = j := by omega
          have hI := hide hs.outS
          rw [unhide HN] at hI
          clear hs
          go_wp2
          go_ret
          exact GivesSS.mk (unhide hI) hb
    · rw [clsO_no (fun h => hin h.2)]
      have H2 := hide (fun w' => l1in_any m 0 6 false (decide_eq_false hin) w')
      have hI := IntsS.made0 w w.heap.size (Nat.le_refl _)
      clear hb hS hsm hst hin
      go_enter Tryz.func33, Tryz.ntmps33
      go_wp2_with fail
      refine (unhide H1).mono ?_
      rintro e w1 ⟨rfl, d1⟩
      have hI2 := hI.below d1
      have hb1 := below_after hbel d1
      clear H1 d1 hI hbel
      go_wp2_with fail
      refine (unhide H2 w1).mono ?_
      rintro e w2 ⟨rfl, hw2⟩
      rw [hw2]
      clear H2 hw2 w2
      go_wp2
      go_ret
      exact GivesSS.mk hI2 hb1
set_option maxHeartbeats 1600000 in
theorem smkb_any (A : Option Addr) (n c B : Nat) (zss : List (List Int)) (w : World) (hS : IntsS w B (.slice A n c) zss) (hn : n ≤ 1048576) (hsm : ∀ z ∈ zss, z.length ≤ 1048576 ∧ Small z) :
    Calls Tryz.prog 45 #[.slice A n c] w (GivesSSB w (mkR zss) (mkOK zss)) := by
  obtain ⟨b, hb⟩ : ∃ b, allP zss = b := ⟨_, rfl⟩
  have H1 := hide (l3all_any A n c B zss b hb w hS hn hsm)
  cases b with
  | false =>
    have hno : mkOK zss = false := by unfold mkOK; rw [hb]; rfl
    rw [mkR_no hno, hno]
    clear hb hS hsm hno
    go_enter Tryz.func45, Tryz.ntmps45
    go_wp2_with fail
    refine (unhide H1).mono ?_
    rintro e w1 ⟨rfl, hd⟩
    have hb1 := hd.below w.heap.size
    have hm := IntsS.made0 w1 w.heap.size hb1.size
    have hb2 := hb1.alloc hb1.size (.cells #[] 36)
    clear H1 hd hb1
    go_wp2
    go_ret2
    exact GivesSSB.mk false hm hb2
  | true =>
    have H2 := hide (fun (w' : World) (d : Below w.heap.size w w') => sord_any A n c B zss w' (hS.below d) hn hsm)
    have hlen : (ordR zss).length ≤ n := by have := ordR_len zss; have := hS.len; omega
    have HPP := hide (fun (j : Nat) (z : List Int) (hz : (ordR zss)[j]? = some z) => ordR_mem (List.mem_of_getElem? hz))
    have HK := hide (show ∀ k, k ≤ (ordR zss).length → ∀ x ∈ mkK (ordR zss) k, isP x = true from fun k hk x hx => ordR_mem (mkK_mem k hk x hx))
    have HM := hide (show mkOK zss = basis (mkO zss) by unfold mkOK; rw [hb]; rfl)
    have HO := hide (show mkO zss = mkK (ordR zss) (ordR zss).length from rfl)
    obtain ⟨Z, hZ⟩ : ∃ Z, Z = ordR zss := ⟨_, rfl⟩
    rw [← hZ] at H2 hlen HPP HK HO
    obtain ⟨N, hN⟩ : ∃ N, N = Z.length := ⟨_, rfl⟩
    rw [← hN] at hlen HK HO
    have HN := hide hN
    clear hb hS hsm hZ hN
    go_enter Tryz.func45, Tryz.ntmps45
    go_wp2_with fail
    refine (unhide H1).mono ?_
    rintro e w1 ⟨rfl, hd⟩
    have hb1 := hd.below w.heap.size
    have H3 := hide (unhide H2 w1 hb1)
    clear H1 H2 hd
    go_wp2_with fail
    refine (unhide H3).mono ?_
    rintro e w2 ⟨A3, c3, rfl, o3, d3⟩
    have hb2 := below_after hb1 d3
    rw [← unhide HN] at o3 ⊢
    have o4 := o3.low hb1.size
    have hal := (Below.refl w2.heap.size w2).alloc (Nat.le_refl _) (.cells #[] 36)
    have hst := ownS0 w2 w.heap.size hb2.size
    have hb3 := hb2.alloc hb2.size (.cells #[] 36)
    have hsib : ∃ vs, Sib (w2.alloc (.cells #[] 36)) w.heap.size 0 (.slice A3 N c3) vs Z (.slice (some ⟨w2.heap.size, 0, none⟩) 0 0) [] [] 0 := by
      obtain ⟨vs, h1, h2⟩ := o4
      refine ⟨vs, own_below h1 hal, h2.keepI (KeepI.of_below hal), hst, Inner.nil _ _, fun x hx => (by cases hx), fun x _ k _ => Nat.zero_le k, ?_⟩
      cases hl : (Value.slice A3 N c3).ownBlock with
      | none => exact .inl hl
      | some g =>
        refine .inr fun e => ?_
        rw [hl] at e
        have h5 := (h1.lt g hl).2
        simp [Value.ownBlock] at e
        omega
    obtain ⟨vs, hsib⟩ := hsib
    clear H3 o3 o4 d3 hb1 hb2 hst hal
    go_wp2
    go_loopw [5, 6] (fun ov i wr => ∃ (j : Nat) (us : List Value), j ≤ N ∧ i = .int .i64 j ∧ Below w.heap.size w wr ∧ Sib wr w.heap.size 0 (.slice A3 N c3) vs Z ov us (mkK Z j) j) (fun _ i _ => N - (intOf i).toNat)
    case atStart => exact ⟨0, [], Nat.zero_le _, rfl, hb3, hsib⟩
    case round =>
      obtain ⟨j, us, hj, rfl, hb, hs⟩ := hrel
      clear hsib hb3
      have hle := mkK_le Z j
      obtain ⟨Ao, co, rfl⟩ := hs.outS.slice
      by_cases hlt : j < N
      · obtain ⟨ad, A6, c6, z, rfl, hz, hvz, hcell, hI⟩ := hs.row rfl hlt
        have hzp := unhide HPP j z hz
        have H4 := hide (savo_any Ao A6 _ co w.heap.size z.length c6 _ (mkK Z j) z wr hs.outS (hI.argP hzp) hzp (unhide HK j hj) (by omega))
        obtain ⟨b, hbb⟩ : ∃ b, avo (mkK Z j) z = b := ⟨_, rfl⟩
        rw [hbb] at H4
        have HZ := hide (⟨hz, hvz⟩ : _ ∧ _)
        have HS := hide hs
        have HB := hide hb
        have hcl := World.block_lt_of_cell? wr _ hcell
        obtain ⟨lz, hlz⟩ : ∃ l, l = z.length := ⟨_, rfl⟩
        rw [← hlz] at hcell H4 HZ
        obtain ⟨U, hU⟩ : ∃ U, U = mkK Z j := ⟨_, rfl⟩
        rw [← hU] at hbb HS hle H4 ⊢
        have HU := hide hU
        clear hz hvz hzp hI hs hb hlz hU
        go_wp2_with fail
        refine (unhide H4).mono ?_
        rintro e w4 ⟨rfl, d4⟩
        have hb4 := below_after (unhide HB) d4
        have hs4 := (unhide HS).below d4
        have hcell4 := (d4.cell hcl).trans hcell
        clear H4 HB HS d4 hcell hcl
        cases b with
        | true =>
          have HE := hide (mkK_yes (unhide HZ).1 (by rw [← unhide HU]; exact hbb))
          clear hbb
          go_wp2_with (first
            | (at_builtin; refine wpList_sift rfl (.tmp 26) (.tmp 31) rfl w.heap.size 0 w w4 (.slice (some ad) N c3) _ (.slice A6 lz c6) vs us Z U j z rfl rfl rfl hs4 (unhide HZ).2 (unhide HZ).1 (by omega) hb4 (Nat.le_refl _) ?_; intro v5 w5 hs5 hb5))
          rw [unhide HU, ← unhide HE] at hs5
          clear hs4 hb4 hcell4
          go_roundw
          case rel => exact ⟨j + 1, _, by omega, by go_num, hb5, hs5⟩
          case measure => simp [intOf]; omega
        | false =>
          have HE := hide (mkK_no (unhide HZ).1 (by rw [← unhide HU]; exact hbb))
          have hs5 : Sib w4 w.heap.size 0 (.slice (some ad) N c3) vs Z (.slice Ao U.length co) us (mkK Z (j + 1)) (j + 1) := by
            rw [unhide HE, ← unhide HU]
            exact hs4.skip
          clear hbb hs4 hcell4
          go_wp2
          go_roundw
          case rel => exact ⟨j + 1, us, by omega, by go_num, hb4, hs5⟩
          case measure => simp [intOf]; omega
      · obtain rfl : N = j := by omega
        have hI := hs.outS
        rw [← unhide HO] at hI ⊢
        have hle2 : (mkO zss).length ≤ 1048576 := by rw [unhide HO]; omega
        have H5 := hide (sbas_any Ao _ co w.heap.size (mkO zss) wr hI hle2 (fun z hz => by
          have h1 := unhide HK N (Nat.le_refl _) z (by rw [← unhide HO]; exact hz)
          have h2 := isP_le h1
          exact ⟨by omega, isP_small h1⟩))
        obtain ⟨bb, hbb⟩ : ∃ b, basis (mkO zss) = b := ⟨_, rfl⟩
        rw [hbb] at H5
        have HR := hide (show mkOK zss = bb from (unhide HM).trans hbb)
        have HI := hide hI
        obtain ⟨O, hO⟩ : ∃ O, O = mkO zss := ⟨_, rfl⟩
        rw [← hO] at H5 HI ⊢
        have HOO := hide hO
        clear hbb hI hs hle2 hO
        go_wp2_with fail
        refine (unhide H5).mono ?_
        rintro e w5 ⟨rfl, d5⟩
        have hb5 := below_after hb d5
        have hI5 := hide ((unhide HI).below d5)
        clear H5 HI d5 hb
        cases bb with
        | true =>
          have HF := hide (mkR_yes (unhide HR))
          go_wp2
          go_ret2
          rw [show mkR zss = O from (unhide HF).trans (unhide HOO).symm, unhide HR]
          exact GivesSSB.mk true (unhide hI5) hb5
        | false =>
          have HF := hide (mkR_no (unhide HR))
          have hm := IntsS.made0 w5 w.heap.size hb5.size
          have hb6 := hb5.alloc hb5.size (.cells #[] 36)
          go_wp2
          go_ret2
          rw [unhide HF, unhide HR]
          exact GivesSSB.mk false hm hb6
end Go.Proofs.YtoiipedomgefaaaGreatDoor
