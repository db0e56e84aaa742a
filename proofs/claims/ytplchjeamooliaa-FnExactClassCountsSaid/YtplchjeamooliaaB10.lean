/-
  Words and contracts that the laws lean on, bundled: ClaC, ClassR, Strs, SJoin, ClassT, IJoin, ClaD, ClaE.
-/
import Derived.Test.YtplchjeamooliaaB8
import Derived.Test.YtplchjeamooliaaB9
import Derived.Test.YtplchjeamooliaaB6
import Derived.Test.YtplchjeamooliaaProg
import Derived.Test.YtplchjeamooliaaB2
import Derived.WalkKit
import Derived.Deep.QuietTactic
import Derived.BigQuiet
import Derived.Lib.AppendStr
import Derived.Lib.UnsafeStr
import Derived.Lib.BufferRead
import Derived.Lib.Join
import Derived.Laws.IdiomStrings
import Derived.Test.YtplchjeamooliaaB4
import Derived.Test.YtplchjeamooliaaShelfJ

/-
  impl.classUpTo, impl.ClassOf, impl.ClassCounts, by their contracts.
-/

namespace Go.Proofs.Ytplchjeamooliaa
set_option maxRecDepth 100000
open Go.RowKit Go.Maps

set_option maxHeartbeats 1600000 in
theorem iclu_any (A : Option Addr) (n c B m : Nat) (zss : List (List Int)) (w : World) (hS : IntsS w B (.slice A n c) zss) (hbas : basis zss = true) (hm : m ≤ 6) :
    Calls Try.prog 51 #[.slice A n c, .int .i64 m] w (GivesSS w (clsU zss m)) := by
  have hL := fun z hz => (basis_isP hbas z hz).1
  have hn8 : n ≤ 8 := by have := basis_le hbas; have := hS.len; omega
  have H1 := hide (psof_any A n c B zss w hS (by omega) hL)
  have HST := hide (fun (k : Nat) (p : List Int) (hp : (allU m)[k]? = some p) => cls_step hL hm hp)
  have HPP := hide (fun (k : Nat) (p : List Int) (hp : (allU m)[k]? = some p) => ((mem_allU hm).1 (List.mem_of_getElem? hp)).1)
  have H2 := hide (fun (w' : World) => iupto_any m hm w')
  have hN0 := allU_len m hm
  rw [clsU_sift]
  obtain ⟨Z, hZ⟩ : ∃ Z, Z = allU m := ⟨_, rfl⟩
  rw [← hZ] at H2 hN0 HST HPP ⊢
  obtain ⟨N, hN⟩ : ∃ N, N = Z.length := ⟨_, rfl⟩
  rw [← hN] at hN0 ⊢
  have HN := hide hN
  clear hS hbas hL hZ hN
  go_enter Try.func51, Try.ntmps51
  go_wp2_with fail
  refine (unhide H1).mono ?_
  rintro e w1 ⟨rfl, hP1, d1⟩
  have hmk := run_makeMap (P := Try.prog) 52 w1
  have hal : Below w1.heap.size w1 (w1.alloc (.map #[] 0)) := (Below.refl _ w1).alloc (Nat.le_refl _) _
  have hP2 := hP1.later hal
  have hK2 := PSet.new w1
  have hb2 := below_after d1 hal
  have hne := hP1.lt
  have H3 := hide (unhide H2 (w1.alloc (.map #[] 0)))
  clear H1 H2 d1 hP1 hal
  go_wp2_with fail
  refine (unhide H3).mono ?_
  rintro e w3 ⟨A3, c3, rfl, o3, d3⟩
  have hb3 := below_after hb2 d3
  obtain ⟨vs, us0, hsib⟩ := Sib.start (B := w.heap.size) (ov := .slice none 0 0) ⟨rfl, .inl ⟨rfl, rfl⟩⟩ d3 o3 hb2.size
  have hP3 := hP2.later d3
  have hK3 := hK2.later d3
  obtain ⟨C, hC⟩ : ∃ C, C = (w1.alloc (.map #[] 0)).heap.size := ⟨_, rfl⟩
  rw [← hC] at hsib
  rw [← unhide HN] at hsib ⊢
  obtain ⟨lb, hlb⟩ : ∃ b, b = w.heap.size := ⟨_, rfl⟩
  obtain ⟨kb, hkb⟩ : ∃ b, b = w1.heap.size := ⟨_, rfl⟩
  rw [← hlb] at hP3 hne
  rw [← hkb] at hK3 hne
  rw [← hlb, ← hkb]
  have HLB := hide (show w.heap.size ≤ lb ∧ w.heap.size ≤ kb by omega)
  clear hC H3 o3 d3 hb2 hP2 hK2 hmk hlb hkb
  go_wp2
  go_loopw [5, 9, 16] (fun ov _ i wr => ∃ (j : Nat) (us : List Value), j ≤ N ∧ i = .int .i64 j ∧ Below w.heap.size w wr ∧ Sib wr w.heap.size C (.slice A3 N c3) vs Z ov us (sift (avo zss) Z j) j ∧ PSet wr lb n zss ∧ PSet wr kb j (sift (avo zss) Z j)) (fun _ _ i _ => N - (intOf i).toNat)
  case atStart => exact ⟨0, us0, Nat.zero_le _, rfl, hb3, hsib, hP3, hK3⟩
  case round =>
    obtain ⟨j, us, hj, rfl, hb, hs, hP, hK⟩ := hrel
    clear hsib hb3 hP3 hK3
    have hle := sift_le (avo zss) Z j
    by_cases hlt : j < N
    · obtain ⟨ad, A6, c6, z, rfl, hz, hvz, hcell, hI⟩ := hs.row rfl hlt
      have hzp := unhide HPP j z hz
      have hstep := unhide HST j z hz
      obtain ⟨b1, hb1⟩ : ∃ b, decide (z ∈ zss) = b := ⟨_, rfl⟩
      obtain ⟨b2, hb2⟩ : ∃ b, lowIn (sift (avo zss) Z j) z = b := ⟨_, rfl⟩
      have H4 := hide (pshas_any lb n zss A6 z.length c6 _ z wr hP (hI.argP hzp) hzp)
      have H5 := hide (fun (w' : World) (d : Below wr.heap.size wr w') => pslow_any kb j (sift (avo zss) Z j) A6 z.length c6 _ z w' (hK.later d) ((hI.argP hzp).below d))
      have H6 := hide (fun (w' : World) (d : Below wr.heap.size wr w') => psadd_any kb j (sift (avo zss) Z j) A6 z.length c6 _ z w' (hK.later d) (by omega) ((hI.argP hzp).below d) hzp)
      rw [hb1] at H4
      rw [hb2] at H5
      rw [hb1, hb2] at hstep
      have HZ := hide (⟨hz, hvz⟩ : _ ∧ _)
      have HS := hide (fun (w' : World) (d : Below wr.heap.size wr w') => hs.below d)
      have HPK := hide (fun (w' : World) (d : Below wr.heap.size wr w') => (⟨hP.later d, hK.later d⟩ : PSet w' lb n zss ∧ PSet w' kb j (sift (avo zss) Z j)))
      have HB := hide hb
      have hcl := World.block_lt_of_cell? wr _ hcell
      obtain ⟨lz, hlz⟩ : ∃ l, l = z.length := ⟨_, rfl⟩
      rw [← hlz] at hcell H4 H5 H6 HZ
      clear hz hvz hzp hI hs hP hK hlz hb1 hb2
      cases b1 with
      | true =>
        have HE := hide (sift_no (g := avo zss) (unhide HZ).1 (by rw [hstep]; rfl))
        clear hstep H5 H6
        go_wp2_with fail
        refine (unhide H4).mono ?_
        rintro e w4 ⟨rfl, d4⟩
        have hb4 := below_after hb d4
        have hs4 := (unhide HS w4 d4).skip
        obtain ⟨hP4, hK4⟩ := unhide HPK w4 d4
        rw [← unhide HE] at hs4 hK4
        have HS4 := hide hs4
        have HK4 := hide (hK4.mono (Nat.le_succ j))
        clear H4 HS HPK d4 hcell hcl hb hs4 hK4
        go_wp2
        go_roundw
        case rel => exact ⟨j + 1, us, by omega, by go_num, hb4, unhide HS4, hP4, unhide HK4⟩
        case measure => simp [intOf]; omega
      | false =>
        cases b2 with
        | false =>
          have HE := hide (sift_no (g := avo zss) (unhide HZ).1 (by rw [hstep]; rfl))
          clear hstep H6
          go_wp2_with fail
          refine (unhide H4).mono ?_
          rintro e w4 ⟨rfl, d4⟩
          have H7 := hide (unhide H5 w4 d4)
          clear H4 H5
          go_wp2_with fail
          refine (unhide H7).mono ?_
          rintro e w5 ⟨rfl, d5⟩
          have d := below_after d4 d5
          have hb4 := below_after hb d
          have hs4 := (unhide HS w5 d).skip
          obtain ⟨hP4, hK4⟩ := unhide HPK w5 d
          rw [← unhide HE] at hs4 hK4
          have HS4 := hide hs4
          have HK4 := hide (hK4.mono (Nat.le_succ j))
          clear H7 HS HPK d4 d5 d hcell hcl hb hs4 hK4
          go_wp2
          go_roundw
          case rel => exact ⟨j + 1, us, by omega, by go_num, hb4, unhide HS4, hP4, unhide HK4⟩
          case measure => simp [intOf]; omega
        | true =>
          have HE := hide (sift_yes (g := avo zss) (unhide HZ).1 (by rw [hstep]; rfl))
          clear hstep
          go_wp2_with fail
          refine (unhide H4).mono ?_
          rintro e w4 ⟨rfl, d4⟩
          have H7 := hide (unhide H5 w4 d4)
          clear H4 H5
          go_wp2_with fail
          refine (unhide H7).mono ?_
          rintro e w5 ⟨rfl, d5⟩
          have d := below_after d4 d5
          have H8 := hide (unhide H6 w5 d)
          have hs5 := unhide HS w5 d
          obtain ⟨hP5, hK5⟩ := unhide HPK w5 d
          have hcell5 := (d.cell hcl).trans hcell
          have hb5 := below_after hb d
          clear H6 H7 HS HPK d4 d5 d hcell hcl hb
          go_wp2_with fail
          refine (unhide H8).mono ?_
          rintro e w6 ⟨rfl, hK6, hg6⟩
          have hs6 := hs5.set hK5 hg6
          have hP6 := hP5.kept hg6 (by simp; omega)
          have hb6 : Below w.heap.size w w6 := hb5.grown hg6 hb5.size (fun g hg => by injection hg with hg; have := unhide HLB; omega)
          have hsl : (sift (avo zss) Z j).length ≤ 1048576 := by omega
          clear H8 hs5 hP5 hK5 hcell5 hb5 hg6
          go_wp2_with (first
            | (at_builtin; refine wpList_sift_keep rfl (.tmp 32) (.tmp 34) rfl w.heap.size C w w6 (.slice (some ad) N c3) _ (.slice A6 lz c6) vs us Z (sift (avo zss) Z j) j z rfl rfl rfl hs6 (unhide HZ).2 (unhide HZ).1 hsl hb6 (Nat.le_refl _) ?_; intro v7 w7 hs7 hb7 hkt7))
          have hP7 := hkt7 _ _ _ hP6
          have hK7 := hkt7 _ _ _ hK6
          rw [← unhide HE] at hs7 hK7
          clear hs6 hb6 hP6 hK6 hkt7 hsl
          go_roundw
          case rel => exact ⟨j + 1, _, by omega, by go_num, hb7, hs7, hP7, hK7⟩
          case measure => simp [intOf]; omega
    · obtain rfl : N = j := by omega
      have hI := hs.outS
      have HI := hide hI
      clear hs hP hK hI
      go_wp2
      go_ret
      exact GivesSS.mk (unhide HI) hb
set_option maxHeartbeats 400000 in
theorem icl1_any (A : Option Addr) (n c bx : Nat) (m : Int) (w : World) (hx : w.cell? ⟨bx, 0, none⟩ = some (.int .i64 m)) :
    Calls Try.prog 52 #[.slice A n c, .pointer (some ⟨bx, 0, none⟩)] w (GivesB w (decide ((n : Int) < m))) := by
  have hb := Below.refl w.heap.size w
  go_enter Try.func52, Try.ntmps52
  go_wp2
  go_ret
  exact ⟨rfl, hb⟩
set_option maxHeartbeats 1600000 in
theorem iclo_any (A : Option Addr) (n c B : Nat) (zss : List (List Int)) (m : Int) (hm : -9223372036854775808 ≤ m ∧ m ≤ 9223372036854775807) (w : World) (hS : IntsS w B (.slice A n c) zss) (hn : n ≤ 1048576) (hsm : ∀ z ∈ zss, z.length ≤ 1048576 ∧ Small z) :
    Calls Try.prog 24 #[.slice A n c, .int .i64 m] w (GivesSS w (clsO zss m)) := by
  obtain ⟨hm1, hm2⟩ := hm
  have hb0 : Below w.heap.size w (w.alloc (.cells #[.int .i64 m] 3)) := (Below.refl _ w).alloc (Nat.le_refl _) _
  have hc0 : Boxed (w.alloc (.cells #[.int .i64 m] 3)) w.heap.size 3 (.int .i64 m) := Boxed.new w _ _
  obtain ⟨b, hb⟩ : ∃ b, basis zss = b := ⟨_, rfl⟩
  have H1 := hide (ibas_any A n c B zss _ (hS.below hb0) hn hsm)
  rw [hb] at H1
  cases b with
  | false =>
    rw [clsO_no (fun h => by rw [hb] at h; cases h.1)]
    clear hb hS hsm
    go_enter Try.func24, Try.ntmps24
    go_wp2_with fail
    refine (unhide H1).mono ?_
    rintro e w1 ⟨rfl, d1⟩
    have hb1 := below_after hb0 d1
    have hI := IntsS.nil w1 w.heap.size
    clear H1 d1 hb0 hc0
    go_wp2
    go_ret
    exact GivesSS.mk hI hb1
  | true =>
    by_cases hin : 0 ≤ m ∧ m ≤ 6
    · obtain ⟨k, rfl⟩ : ∃ k : Nat, m = (k : Int) := ⟨m.toNat, by omega⟩
      have hk6 : k ≤ 6 := by omega
      have HE := hide (show (clsU zss k).filter (fun z => !decide ((z.length : Int) < (k : Int))) = clsO zss (k : Int) by
        rw [clsO_yes hb hk6, sift_all, show (permL k).filter (avo zss) = clsN zss k from rfl, ← clsU_top zss hk6]
        refine List.filter_congr fun z _ => ?_
        congr 1
        rw [decide_eq_decide]
        omega)
      have HC := hide (fun (w' : World) (d : Below w.heap.size w w') => iclu_any A n c B k zss w' (hS.below d) hb hk6)
      have hlen := clsU_len zss hk6
      have hpos : 0 < (clsU zss k).length := by
        have h1 : ([] : List Int) ∈ clsU zss k := by
          rw [clsU_all]
          refine (mem_all hk6).2 ⟨by decide, by simp, avo_yes.2 fun q hq => ?_⟩
          cases h2 : hasO [] q with
          | false => rfl
          | true =>
            have h3 := (hasO_len (by decide) (basis_isP hb q hq).1 h2).1
            exact absurd (Nat.le_zero.1 h3) (basis_isP hb q hq).2
        exact List.length_pos_of_mem h1
      obtain ⟨Z, hZ⟩ : ∃ Z, Z = clsU zss k := ⟨_, rfl⟩
      rw [← hZ] at HE HC hlen hpos
      have hk0 : ¬ (k : Int) < 0 := by omega
      have hk6' : ¬ (6 : Int) < (k : Int) := by omega
      clear hb hS hsm hin hm1 hm2 hZ
      go_enter Try.func24, Try.ntmps24
      go_wp2_with fail
      refine (unhide H1).mono ?_
      rintro e w1 ⟨rfl, d1⟩
      have hb1 := below_after hb0 d1
      have hc1 := boxed_later hc0 d1
      have hcell := hc1.cell
      have H2 := hide (unhide HC w1 hb1)
      clear H1 HC d1 hb0 hc0
      go_wp2_with fail
      refine (unhide H2).mono ?_
      rintro e w2 ⟨A2, c2, rfl, o2, d2⟩
      have hb2 := below_after hb1 d2
      have hc2 := (boxed_later hc1 d2).cell
      have hlt : w.heap.size < w1.heap.size := World.block_lt_of_cell? w1 _ hcell
      have hsz2 := d2.size
      have H3 := hide (delsCO_any w.heap.size A2 Z.length c2 w1.heap.size Z (fun z => decide ((z.length : Int) < (k : Int))) w2 o2 (by omega) hpos (hide fun w3 g _ hg hgr A9 c9 z _ _ => icl1_any A9 z.length c9 w.heap.size (k : Int) w3 (by
        rw [World.cell?_of_block (hgr.block w.heap.size (by omega) (fun e => by injection e; omega))]
        exact hc2)))
      rw [unhide HE] at H3
      obtain ⟨R, hR⟩ : ∃ R, R = clsO zss (k : Int) := ⟨_, rfl⟩
      rw [← hR] at H3
      have HR := hide hR
      clear H2 o2 hR hcell hc1 hlen
      have HSZ := hide hb1.size
      go_wp2_with fail
      refine (unhide H3).mono ?_
      rintro e w4 ⟨A4, c4, rfl, o4, g, hg4, hgr4⟩
      have hb4 : Below w.heap.size w w4 := hb2.grown hgr4 hb2.size (fun j e => by injection e with e; omega)
      have HI := hide (show IntsS w4 w.heap.size (.slice A4 R.length c4) (clsO zss (k : Int)) by rw [← unhide HR]; exact o4.low (by omega : w.heap.size ≤ w1.heap.size))
      clear H3 o4 hgr4
      go_wp2
      go_ret
      exact GivesSS.mk (unhide HI) hb4
    · rw [clsO_no (fun h => hin h.2)]
      clear hb hS hsm
      have hcase : m < 0 ∨ (¬ m < 0 ∧ 6 < m) := by omega
      rcases hcase with h0 | ⟨h0, h6⟩
      · go_enter Try.func24, Try.ntmps24
        go_wp2_with fail
        refine (unhide H1).mono ?_
        rintro e w1 ⟨rfl, d1⟩
        have hb1 := below_after hb0 d1
        have hcell := (boxed_later hc0 d1).cell
        have hI := IntsS.nil w1 w.heap.size
        clear H1 d1 hb0 hc0
        go_wp2
        go_ret
        exact GivesSS.mk hI hb1
      · go_enter Try.func24, Try.ntmps24
        go_wp2_with fail
        refine (unhide H1).mono ?_
        rintro e w1 ⟨rfl, d1⟩
        have hb1 := below_after hb0 d1
        have hcell := (boxed_later hc0 d1).cell
        have hI := IntsS.nil w1 w.heap.size
        clear H1 d1 hb0 hc0
        go_wp2
        go_ret
        exact GivesSS.mk hI hb1
set_option maxHeartbeats 1600000 in
theorem iccn_any (A : Option Addr) (n c B : Nat) (zss : List (List Int)) (m : Int) (hm : -9223372036854775808 ≤ m ∧ m ≤ 9223372036854775807) (w : World) (hS : IntsS w B (.slice A n c) zss) (hn : n ≤ 1048576) (hsm : ∀ z ∈ zss, z.length ≤ 1048576 ∧ Small z) :
    Calls Try.prog 26 #[.slice A n c, .int .i64 m] w (GivesI w (cntsR zss m)) := by
  obtain ⟨i0, hi, hz0, hz1, hz2⟩ := info_parts intInfo
  obtain ⟨hm1, hm2⟩ := hm
  obtain ⟨b, hb⟩ : ∃ b, basis zss = b := ⟨_, rfl⟩
  have H1 := hide (ibas_any A n c B zss w hS hn hsm)
  rw [hb] at H1
  cases b with
  | false =>
    rw [cntsR_no (fun h => by rw [hb] at h; cases h.1)]
    clear hb hS hsm
    go_enter Try.func26, Try.ntmps26
    go_wp2_with fail
    refine (unhide H1).mono ?_
    rintro e w1 ⟨rfl, d1⟩
    have hI := Ints.nil w1 w.heap.size
    clear H1
    go_wp2
    go_ret
    exact GivesI.mk hI d1
  | true =>
    by_cases hin : 0 ≤ m ∧ m ≤ 6
    · obtain ⟨k, rfl⟩ : ∃ k : Nat, m = (k : Int) := ⟨m.toNat, by omega⟩
      have hk6 : k ≤ 6 := by omega
      have HC := hide (fun (w' : World) (d : Below w.heap.size w w') => iclu_any A n c B k zss w' (hS.below d) hb hk6)
      have hlen := clsU_len zss hk6
      have HZL := hide (fun (j : Nat) (z : List Int) (hz : (clsU zss k)[j]? = some z) => (clsU_mem hk6 (List.mem_of_getElem? hz)).2)
      have HEND := hide (show tallyU (clsU zss k) k (clsU zss k).length = cntsR zss (k : Int) by rw [tallyU_all zss hk6, cntsR_yes hb hk6])
      obtain ⟨Z, hZ⟩ : ∃ Z, Z = clsU zss k := ⟨_, rfl⟩
      rw [← hZ] at HC hlen HZL HEND
      obtain ⟨N, hN⟩ : ∃ N, N = Z.length := ⟨_, rfl⟩
      rw [← hN] at hlen HEND
      have HN := hide hN
      have hk0 : ¬ (k : Int) < 0 := by omega
      have hk6' : ¬ (6 : Int) < (k : Int) := by omega
      clear hb hS hsm hin hm1 hm2 hZ hN
      go_enter Try.func26, Try.ntmps26
      go_wp2_with fail
      refine (unhide H1).mono ?_
      rintro e w1 ⟨rfl, d1⟩
      have hs1 := d1.size
      clear H1
      go_wp2_with (first
        | (at_make; refine wpList_make_full _ rfl (.tmp 20) (.tmp 20) 29 rfl w.heap.size 3 i0 (.int .i64 0) 1 Try.underlying29 hi hz0 hz1 _ _ _ _ (k + 1) rfl rfl (by first | rfl | omega) (by first | rfl | omega) (by rw [hz2]; omega) (by unfold maxLen; omega) hs1 ?_; intro w2 hown hg))
      have hb2 := d1.grown hg hs1 (by simp)
      have hown2 : w2.ownsRow w.heap.size 3 1 (.slice (some ⟨w1.heap.size, 0, none⟩) (k + 1) (k + 1)) (k + 1) (i64s (tallyU Z k 0)) := by rw [tallyU_zero, ← made_zeros]; exact hown
      obtain ⟨g, hgd⟩ : ∃ g, g = w1.heap.size := ⟨_, rfl⟩
      rw [← hgd] at hown2 ⊢
      have H3 := hide (unhide HC w2 hb2)
      clear HC hown hg d1 hs1 hgd
      go_wp2_with fail
      refine (unhide H3).mono ?_
      rintro e w3 ⟨A3, c3, rfl, o3, d3⟩
      have hown3 := own_below hown2 d3
      have hb3 := below_after hb2 d3
      have HG := hide (hown2.lt g rfl).2
      have HO := hide o3
      rw [← unhide HN] at HO ⊢
      clear H3 hown2 hb2 d3 o3
      go_wp2
      go_loopw [7, 26] (fun _ i wr => ∃ j : Nat, j ≤ N ∧ i = .int .i64 j ∧ Below w.heap.size w wr ∧ w3.grownBy wr (some g) ∧ wr.ownsRow w.heap.size 3 1 (.slice (some ⟨g, 0, none⟩) (k + 1) (k + 1)) (k + 1) (i64s (tallyU Z k j))) (fun _ i _ => N - (intOf i).toNat)
      case atStart => exact ⟨0, Nat.zero_le _, rfl, hb3, World.grownBy.refl w3 _, hown3⟩
      case round =>
        obtain ⟨j, hj, rfl, hb, hgr, hown⟩ := hrel
        clear hb3 hown3
        by_cases hlt : j < N
        · obtain ⟨ad, A6, c6, z, rfl, hz, hcell, hI⟩ := ((unhide HO).off hgr (unhide HG)).at_ hlt
          have hzl := unhide HZL j z hz
          have hcl := tallyU_at (Z := Z) (k := j) hzl
          have hcb : ((Z.take j).countP fun p => decide (p.length = z.length)) ≤ 1048576 := Nat.le_trans List.countP_le_length (by rw [List.length_take]; omega)
          have hst := tallyU_step (n := k) hz
          obtain ⟨lz, hlz⟩ : ∃ l, l = z.length := ⟨_, rfl⟩
          rw [← hlz] at hcell hzl hcl hst hcb
          obtain ⟨cn, hcn⟩ : ∃ l : Nat, l = (Z.take j).countP fun p => decide (p.length = lz) := ⟨_, rfl⟩
          rw [← hcn] at hcl hst hcb
          have hcc : wr.cell? ⟨g, lz, none⟩ = some (.int .i64 (cn : Int)) := by rw [hown.cellAt lz (by omega)]; exact i64_get hcl
          have hfz := hown.frozenAt lz
          have HS2 := hide (show (wr.setCell ⟨g, lz, none⟩ (.int .i64 ((cn : Int) + 1))).ownsRow w.heap.size 3 1 (.slice (some ⟨g, 0, none⟩) (k + 1) (k + 1)) (k + 1) (i64s (tallyU Z k (j + 1))) by
            have h := (hown.stored lz (.int .i64 ((cn : Int) + 1))).1
            have e : i64s (tallyU Z k (j + 1)) = (i64s (tallyU Z k j)).set lz (.int .i64 ((cn : Int) + 1)) := by rw [hst]; unfold i64s; rw [List.map_set]
            rw [e]
            exact h)
          have HG2 := hide (grown_then hgr (hown.stored lz (.int .i64 ((cn : Int) + 1))).2)
          have HB2 := hide (hb.setCell (p := ⟨g, lz, none⟩) (hown.lt g rfl).1 (.int .i64 ((cn : Int) + 1)))
          have hbd : (lz : Int) < (k : Int) + 1 := by omega
          clear hz hI hlz hcn hst hcl hown hgr hb
          go_wp2
          go_roundw
          case rel => exact ⟨j + 1, by omega, by go_num, unhide HB2, unhide HG2, unhide HS2⟩
          case measure => simp [intOf]; omega
        · obtain rfl : N = j := by omega
          have HI := hide (show Ints wr w.heap.size (.slice (some ⟨g, 0, none⟩) (k + 1) (k + 1)) (cntsR zss (k : Int)) by
            rw [← unhide HEND]
            have h := hown
            rw [show k + 1 = (tallyU Z k N).length by rw [tallyU_length]] at h
            rw [show k + 1 = (tallyU Z k N).length by rw [tallyU_length]]
            exact Ints.of_own h)
          clear hown hgr
          go_wp2
          go_ret
          exact GivesI.mk (unhide HI) hb
    · rw [cntsR_no (fun h => hin h.2)]
      clear hb hS hsm
      have hcase : m < 0 ∨ (¬ m < 0 ∧ 6 < m) := by omega
      rcases hcase with h0 | ⟨h0, h6⟩
      · go_enter Try.func26, Try.ntmps26
        go_wp2_with fail
        refine (unhide H1).mono ?_
        rintro e w1 ⟨rfl, d1⟩
        have hI := Ints.nil w1 w.heap.size
        clear H1
        go_wp2
        go_ret
        exact GivesI.mk hI d1
      · go_enter Try.func26, Try.ntmps26
        go_wp2_with fail
        refine (unhide H1).mono ?_
        rintro e w1 ⟨rfl, d1⟩
        have hI := Ints.nil w1 w.heap.size
        clear H1
        go_wp2
        go_ret
        exact GivesI.mk hI d1
end Go.Proofs.Ytplchjeamooliaa


/-
  PLAIN: how large the results of chapter 12 are. Nothing here speaks of the program.
-/

namespace Go.Proofs.Ytplchjeamooliaa
set_option maxRecDepth 100000

theorem clsO_rows (L : List (List Int)) (m : Int) : (clsO L m).length ≤ 720 ∧ tot (clsO L m) ≤ 5760 ∧ ∀ z ∈ clsO L m, isP z = true := by
  unfold clsO
  split
  · rename_i h
    have hk : m.toNat ≤ 6 := by omega
    have h1 : (clsN L m.toNat).length ≤ 720 := Nat.le_trans (List.length_filter_le _ _) (permL_small _ hk).1
    have h2 : ∀ z ∈ clsN L m.toNat, isP z = true := fun z hz => (permL_mem _ hk z (List.mem_filter.1 hz).1).1
    exact ⟨h1, by have := tot_room 8 _ (fun z hz => isP_le (h2 z hz)); omega, h2⟩
  · simp [tot]
theorem buR_rows (L : List (List Int)) (m : Int) : (buR L m).length ≤ 4320 ∧ tot (buR L m) ≤ 34560 ∧ ∀ z ∈ buR L m, isP z = true := by
  unfold buR
  split
  · rename_i h
    have hk : m.toNat ≤ 6 := by omega
    have h1 : (buK L m.toNat).length ≤ 4320 := Nat.le_trans (buK_le L _ hk) (by omega)
    have h2 : ∀ z ∈ buK L m.toNat, isP z = true := fun z hz => ((buK_mem hk).1 hz).1
    exact ⟨h1, by have := tot_room 8 _ (fun z hz => isP_le (h2 z hz)); omega, h2⟩
  · simp [tot]
theorem cntsR_rows (L : List (List Int)) (m : Int) : (cntsR L m).length ≤ 7 ∧ ∀ x ∈ cntsR L m, 0 ≤ x ∧ x ≤ 720 := by
  refine ⟨cntsR_le L m, fun x hx => ?_⟩
  unfold cntsR at hx
  split at hx
  · rename_i h
    unfold cntsN at hx
    obtain ⟨j, hj, rfl⟩ := List.mem_map.1 hx
    have hj := List.mem_range.1 hj
    have h1 : (clsN L j).length ≤ 720 := Nat.le_trans (List.length_filter_le _ _) (permL_small _ (by omega)).1
    omega
  · cases hx
end Go.Proofs.Ytplchjeamooliaa


/-
  CONTRACTS OF THE LAWS' HELPERS OVER []string THAT ONLY READ: szStringS, eqStringS.
-/

namespace Go.Proofs.Ytplchjeamooliaa
set_option maxRecDepth 100000
open Go.RowKit

def szGo : Int → List ByteArray → Int
  | l, [] => l
  | l, s :: r => if l - s.size < 0 then -1 else szGo (l - s.size) r

theorem strs_at {ss : List ByteArray} {k : Nat} {u : Value} (h : (ss.map Value.string)[k]? = some u) : ∃ s, ss[k]? = some s ∧ u = .string s := by
  rw [List.getElem?_map] at h
  cases hs : ss[k]? with
  | none => simp [hs] at h
  | some s => simp [hs] at h; exact ⟨s, rfl, h.symm⟩
theorem drop_at {α : Type} {l : List α} {k : Nat} {x : α} (h : l[k]? = some x) : l.drop k = x :: l.drop (k + 1) := by
  obtain ⟨hk, rfl⟩ := List.getElem?_eq_some_iff.1 h
  exact List.drop_eq_getElem_cons hk

theorem below_set_own {B : Nat} {w w' : World} {e : TypeId} {size : Nat} {g cap n : Nat} {xs : List Value} (hb : Below B w w') (hown : w'.ownsRow B e size (.slice (some ⟨g, 0, none⟩) n cap) n xs) (j : Nat) (u : Value) : Below B w (w'.setCell ⟨g, j, none⟩ u) :=
  hb.setCell (hown.lt g rfl).1 _

theorem strInfo : (Try.prog.info? 9).map (fun i => (i.zero, i.size, i.bytes)) = some (some (.string ByteArray.empty), 1, 16) := by kernel_rfl

theorem take_set_eq {α : Type} {xs ys : List α} {k : Nat} {u : α} (h : xs.take k = ys.take k) (hu : ys[k]? = some u) (hl : k < xs.length) : (xs.set k u).take (k + 1) = ys.take (k + 1) := by
  rw [List.take_add_one, List.take_add_one, List.take_set_of_le (Nat.le_refl _), h]
  simp [hu, hl]

end Go.Proofs.Ytplchjeamooliaa


/-
  spec.Join, by its contract: the bytes of the elements, the separator between them.
-/

namespace Go.Proofs.Ytplchjeamooliaa
set_option maxRecDepth 100000
open Go.RowKit

/-- The text behind k rounds. -/
def jn (sep : ByteArray) (ss : List ByteArray) : Nat → List UInt8
  | 0 => []
  | k + 1 => (jn sep ss k ++ (if 0 < k then sep.data.toList else [])) ++ (ss.getD k ByteArray.empty).data.toList

theorem join_snoc (sep x : List UInt8) (xs : List (List UInt8)) : Lib.join (xs ++ [x]) sep = (Lib.join xs sep ++ (if 0 < xs.length then sep else [])) ++ x := by
  cases xs with
  | nil => simp [Lib.join_nil, Lib.join_one]
  | cons y r => simp [Lib.join_cons, Lib.joinTail]

theorem jn_eq (sep : ByteArray) (ss : List ByteArray) : ∀ k, k ≤ ss.length → jn sep ss k = Lib.join ((ss.take k).map (·.data.toList)) sep.data.toList := by
  intro k
  induction k with
  | zero => intro _; simp [jn, Lib.join_nil]
  | succ k ih =>
    intro hk
    have hs : ss[k]? = some (ss.getD k ByteArray.empty) := by
      rw [List.getD_eq_getElem?_getD, List.getElem?_eq_getElem (by omega)]; rfl
    rw [jn, ih (by omega), List.take_add_one, hs]
    simp only [Option.toList_some, List.map_append, List.map_cons, List.map_nil, join_snoc]
    congr 3
    simp only [List.length_map, List.length_take, Nat.min_eq_left (show k ≤ ss.length by omega)]

theorem own_bytes_string {P : Program} {w : World} {base : Nat} {v : Value} {l : List UInt8} {src dst e : TypeId} (hs : P.underlying src = some (.slice e)) (he : P.underlying e = some (.int .u8)) (hd : P.underlying dst = some .string)
    (h : w.ownsRow base e 1 v l.length (Lib.byteCells l)) : (convert src dst v).run P w = .ok (.string ⟨l.toArray⟩) w := by
  rcases h.2 with ⟨rfl, h0⟩ | ⟨g, cap, cur, rfl, hb, hg, hnc, hcm, hsz, htake⟩
  · obtain rfl : l = [] := List.eq_nil_of_length_eq_zero h0
    exact Lib.run_convert_nil_bytes w src dst e 0 hs he hd
  · refine run_convert_bytes_back w src dst e _ cap l hs he hd fun j hj => ?_
    refine h.cells (g := g) rfl j _ ?_
    simp [Lib.byteCells, hj]

theorem byteInfoJ : (Try.prog.info? 5).map (fun i => (i.zero, i.size, i.bytes)) = some (some (.int .u8 0), 1, 1) := by kernel_rfl
theorem jn_length (sep : ByteArray) (ss : List ByteArray) (k : Nat) (s : ByteArray) (hs : ss[k]? = some s) : jn sep ss (k + 1) = (jn sep ss k ++ (if 0 < k then sep.data.toList else [])) ++ s.data.toList := by
  rw [jn, List.getD_eq_getElem?_getD, hs]; rfl
theorem size_list (s : ByteArray) : s.data.toList.length = s.size := by rw [Array.length_toList]; rfl

set_option maxHeartbeats 800000 in
theorem sjoin_any (A : Option Addr) (n c B : Nat) (ss : List ByteArray) (sep : ByteArray) (w : World) (hr : Reads w B A n (ss.map Value.string)) (hB : B ≤ w.heap.size) (hn : n ≤ 1099511627776)
    (hlen : ∀ k, k ≤ n → (jn sep ss k).length ≤ 4398046511104) :
    Calls Try.prog 55 #[.slice A n c, .string sep] w fun e w' => e = .returned (.string ⟨(jn sep ss n).toArray⟩) ∧ Below w.heap.size w w' := by
  obtain ⟨i0, hi, hz0, hz1, hz2⟩ := info_parts byteInfoJ
  have HL := hide hlen
  clear hlen
  have hst := World.ownsRow_made (base := w.heap.size) (e := 5) (size := 1) w #[] 0 (Nat.le_refl _) (by simp [maxLen]) rfl
  have hb1 : Below w.heap.size w (w.alloc (.cells #[] 5)) := (Below.refl _ _).alloc (Nat.le_refl _) _
  go_enter Try.func55, Try.ntmps55
  go_wp2
  go_loopw [5, 6] (fun v i wr => ∃ (k : Nat), k ≤ n ∧ i = .int .i64 k ∧ Below w.heap.size w wr ∧ wr.ownsRow w.heap.size 5 1 v (jn sep ss k).length (Lib.byteCells (jn sep ss k))) (fun _ i _ => n - (intOf i).toNat)
  case atStart => exact ⟨0, Nat.zero_le _, rfl, hb1, hst⟩
  case round =>
    obtain ⟨k, hk, rfl, hb, hown⟩ := hrel
    rename_i vv _ _
    clear hst hb1
    by_cases hlt : k < n
    · obtain ⟨ad, u, rfl, had, hu, hcw⟩ := (hr.more hB).at_ hlt
      obtain ⟨s, hs, rfl⟩ := strs_at hu
      have hblk : (ad.add k).block < w.heap.size := by rw [block_of_add]; exact had
      have HC := hide hcw
      clear hcw
      have hj := jn_length sep ss k s hs
      have h1 := unhide HL (k + 1) (by omega)
      have h2 := unhide HL k hk
      have hz := size_list s
      have hzs := size_list sep
      clear hu hs
      by_cases hk0 : 0 < k
      · rw [if_pos hk0] at hj
        have hjl : (jn sep ss (k + 1)).length = (jn sep ss k).length + sep.size + s.size := by rw [hj, List.length_append, List.length_append, hz, hzs]
        have HJ := hide hj
        have HJL := hide hjl
        have hb3 : (jn sep ss k).length + sep.size + s.size ≤ 4398046511104 := by omega
        clear hj hjl h1 hz hzs
        go_wp2_with (first
          | (at_builtin; refine Lib.wpList_append_own_string _ rfl (.tmp 16) (.tmp 17) 68 9 rfl w.heap.size 5 i0 Try.underlying68 Try.underlying9 hi hz0 hz1 hz2 _ _ _ rfl hown sep rfl (by simp only [maxLen]; omega) (by omega) hb.size ?_; intro v1 w1 hown1 hg1 hi1; clear hi1; have hb1 := hb.grown hg1 hb.size (fun g hg => (hown.lt g hg).1); have hc1 := (hb1.cell hblk).trans (unhide HC); have hsz1 := hb1.size)
          | (at_builtin; refine Lib.wpList_append_own_string _ rfl (.tmp 19) (.tmp 23) 68 9 rfl w.heap.size 5 i0 Try.underlying68 Try.underlying9 hi hz0 hz1 hz2 _ _ _ rfl hown1 s rfl (by simp only [maxLen]; omega) (by omega) hsz1 ?_; intro v2 w2 hown2 hg2 hi2; clear hi2))
        have hb2 := hb1.grown hg2 hsz1 (fun g hg => (hown1.lt g hg).1)
        have hown3 : w2.ownsRow w.heap.size 5 1 v2 (jn sep ss (k + 1)).length (Lib.byteCells (jn sep ss (k + 1))) := by
          rw [unhide HJL, unhide HJ, Lib.byteCells_append, Lib.byteCells_append, ← Lib.strCells_eq, ← Lib.strCells_eq]
          exact hown2
        clear hown2 hg2 hown1 hg1 hb1 hc1
        go_roundw
        case rel => exact ⟨k + 1, by omega, by go_num, hb2, hown3⟩
        case measure => simp [intOf]; omega
      · rw [if_neg hk0] at hj
        have hjl : (jn sep ss (k + 1)).length = (jn sep ss k).length + s.size := by rw [hj, List.append_nil, List.length_append, hz]
        have HJ := hide hj
        have HJL := hide hjl
        have hb3 : (jn sep ss k).length + s.size ≤ 4398046511104 := by omega
        have hc1 := (hb.cell hblk).trans (unhide HC)
        clear hj hjl h1 hz hzs
        go_wp2_with (first
          | (at_builtin; refine Lib.wpList_append_own_string _ rfl (.tmp 19) (.tmp 23) 68 9 rfl w.heap.size 5 i0 Try.underlying68 Try.underlying9 hi hz0 hz1 hz2 _ _ _ rfl hown s rfl (by simp only [maxLen]; omega) (by omega) hb.size ?_; intro v2 w2 hown2 hg2 hi2; clear hi2))
        have hb2 := hb.grown hg2 hb.size (fun g hg => (hown.lt g hg).1)
        have hown3 : w2.ownsRow w.heap.size 5 1 v2 (jn sep ss (k + 1)).length (Lib.byteCells (jn sep ss (k + 1))) := by
          rw [unhide HJL, unhide HJ, List.append_nil, Lib.byteCells_append, ← Lib.strCells_eq]
          exact hown2
        clear hown2 hg2 hc1
        go_roundw
        case rel => exact ⟨k + 1, by omega, by go_num, hb2, hown3⟩
        case measure => simp [intOf]; omega
    · obtain rfl : n = k := by omega
      have hcv := own_bytes_string Try.underlying68 Try.underlying5 Try.underlying9 hown
      clear hown
      go_wp2
      go_ret
      exact ⟨rfl, hb⟩
end Go.Proofs.Ytplchjeamooliaa


/-
  spec.BasisText by its contract.
-/

namespace Go.Proofs.Ytplchjeamooliaa
set_option maxRecDepth 100000
open Go.RowKit

theorem strInfoC : (Try.prog.info? 9).map (fun i => (i.zero, i.size, i.bytes)) = some (some (.string ByteArray.empty), 1, 16) := by kernel_rfl
theorem jn_small {ss : List ByteArray} (h : ∀ s ∈ ss, s.size ≤ 8) : ∀ k, k ≤ ss.length → (jn ⟨#[32]⟩ ss k).length ≤ 9 * k
  | 0, _ => by simp [jn]
  | k + 1, hk => by
    have ih := jn_small h k (by omega)
    have hs : ss[k]? = some ss[k] := List.getElem?_eq_getElem (by omega)
    have h1 := h _ (List.mem_of_getElem? hs)
    rw [jn_length _ _ _ _ hs, List.length_append, List.length_append, size_list]
    have h2 : (if 0 < k then (⟨#[32]⟩ : ByteArray).data.toList else []).length ≤ 1 := by split <;> simp
    omega
theorem ptext_le (p : List Int) : (ptext p).size ≤ 8 := by
  cases h : isP p with
  | false => rw [ptext_no h]; simp
  | true =>
    by_cases h0 : p.length = 0
    · rw [ptext_nil h h0]; decide
    · rw [ptext_yes h h0]
      have := isP_le h
      show (textL p).toArray.size ≤ 8
      rw [List.size_toArray]
      have h1 : (textL p).length = p.length := by unfold textL; simp
      omega
def btext (L : List (List Int)) : ByteArray := if basis L then ⟨(jn ⟨#[32]⟩ (L.map ptext) L.length).toArray⟩ else ByteArray.empty
theorem btext_yes {L : List (List Int)} (h : basis L = true) : btext L = ⟨(jn ⟨#[32]⟩ (L.map ptext) L.length).toArray⟩ := by unfold btext; rw [if_pos h]
theorem btext_no {L : List (List Int)} (h : basis L = false) : btext L = ByteArray.empty := by unfold btext; rw [if_neg (by simp [h])]
theorem basis_nil : basis [] = true := by decide
set_option maxHeartbeats 1600000 in
theorem sbtx_any (A : Option Addr) (n c B : Nat) (zss : List (List Int)) (w : World) (hS : IntsS w B (.slice A n c) zss) (hn : n ≤ 1048576) (hsm : ∀ z ∈ zss, z.length ≤ 1048576 ∧ Small z) :
    Calls Try.prog 29 #[.slice A n c] w (GivesS w (btext zss)) := by
  obtain ⟨i0, hi, hz0, hz1, hz2⟩ := info_parts strInfoC
  have hl := hS.len
  have hst : (w.alloc (.cells #[] 9)).ownsRow w.heap.size 9 1 (.slice (some ⟨w.heap.size, 0, none⟩) 0 0) 0 [] := World.ownsRow_made (base := w.heap.size) (e := 9) (size := 1) w #[] 0 (Nat.le_refl _) (by simp [maxLen]) rfl
  have hbel := (Below.refl w.heap.size w).alloc (Nat.le_refl _) (.cells #[] 9)
  obtain ⟨b, hb⟩ : ∃ b, basis zss = b := ⟨_, rfl⟩
  have H1 := hide (fun (w' : World) (d : Below w.heap.size w w') => by have h := sbas_any A n c B zss w' (hS.below d) hn hsm; rw [hb] at h; exact h)
  have HJ := hide (fun (w' : World) (A' : Option Addr) (m c' : Nat) (ss : List ByteArray) (hr : Reads w' w'.heap.size A' m (ss.map Value.string)) (hm : m ≤ 8) (h8 : ∀ s ∈ ss, s.size ≤ 8) (hml : ss.length = m) => sjoin_any A' m c' w'.heap.size ss ⟨#[32]⟩ w' hr (Nat.le_refl _) (by omega) (fun k hk => Nat.le_trans (jn_small h8 k (by omega)) (by omega)))
  cases b with
  | false =>
    have hne : ¬ n = 0 := fun e => by
      have h0 : zss = [] := List.eq_nil_of_length_eq_zero (by omega)
      rw [h0, basis_nil] at hb
      cases hb
    rw [btext_no hb]
    clear hS hsm hb hl
    go_enter Try.func29, Try.ntmps29
    go_wp2
    go_loopw [3, 4] (fun ov i wr => ov = .slice (some ⟨w.heap.size, 0, none⟩) 0 0 ∧ i = .int .i64 0 ∧ wr = w.alloc (.cells #[] 9)) (fun _ _ _ => 0)
    case atStart => exact ⟨rfl, rfl, rfl⟩
    case round =>
      obtain ⟨rfl, rfl, rfl⟩ := hrel
      have hn0 : (0 : Int) < (n : Int) := by omega
      have H2 := hide (unhide H1 _ hbel)
      clear H1
      go_wp2_with fail
      refine (unhide H2).mono ?_
      rintro e w2 ⟨rfl, d2⟩
      have hb2 := below_after hbel d2
      have hr0 : Reads w2 w2.heap.size (some ⟨w.heap.size, 0, none⟩) 0 (([] : List ByteArray).map Value.string) := ⟨rfl, fun h => absurd h (by omega)⟩
      have H3 := hide (unhide HJ w2 (some ⟨w.heap.size, 0, none⟩) 0 0 [] hr0 (by omega) (fun s hs => by cases hs) rfl)
      clear H2 d2 hbel hst HJ
      go_wp2_with fail
      refine (unhide H3).mono ?_
      rintro e w3 ⟨rfl, d3⟩
      have hb3 := below_after hb2 d3
      clear H3 d3 hb2
      go_wp2
      go_ret
      exact ⟨rfl, hb3⟩
  | true =>
    have hn8 : n ≤ 8 := by have := basis_le hb; omega
    rw [btext_yes hb, hl]
    have HA := hide (⟨hS, fun z hz => (basis_isP hb z hz).1⟩ : IntsS w B (.slice A n c) zss ∧ ∀ z ∈ zss, isP z = true)
    have HL := hide hl
    obtain ⟨T, hT⟩ : ∃ T, T = zss.map ptext := ⟨_, rfl⟩
    rw [← hT]
    have HT := hide (fun (k : Nat) (z : List Int) (hz : zss[k]? = some z) => show T[k]? = some (ptext z) by rw [hT, List.getElem?_map, hz]; rfl)
    have HTL := hide (show T.length = n by rw [hT, List.length_map, hl])
    have HT8 := hide (show ∀ s ∈ T, s.size ≤ 8 from fun s hs => by
      rw [hT] at hs
      obtain ⟨z, _, rfl⟩ := List.mem_map.1 hs
      exact ptext_le z)
    clear hS hsm hb hl hT
    go_enter Try.func29, Try.ntmps29
    go_wp2
    go_loopw [3, 4] (fun ov i wr => ∃ j : Nat, j ≤ n ∧ i = .int .i64 j ∧ Below w.heap.size w wr ∧ wr.ownsRow w.heap.size 9 1 ov j ((T.take j).map Value.string)) (fun _ i _ => n - (intOf i).toNat)
    case atStart => exact ⟨0, Nat.zero_le _, rfl, hbel, by rw [List.take_zero]; exact hst⟩
    case round =>
      obtain ⟨j, hj, rfl, hb, ho⟩ := hrel
      clear hst hbel
      by_cases hlt : j < n
      · have H2 := hide (unhide H1 wr hb)
        have HB := hide hb
        have HO := hide ho
        clear hb ho
        go_wp2_with fail
        refine (unhide H2).mono ?_
        rintro e w2 ⟨rfl, d2⟩
        have hb2 := below_after (unhide HB) d2
        have ho2 := own_below (unhide HO) d2
        obtain ⟨ad, A6, c6, z, rfl, hz, hcell, hI⟩ := ((unhide HA).1.below hb2).at_ hlt
        have hzp := (unhide HA).2 z (List.mem_of_getElem? hz)
        have H4 := hide (stext_any A6 z.length c6 _ z w2 (hI.argP hzp))
        have hTz := unhide HT j z hz
        have HE := hide (show (T.take j).map Value.string ++ [.string (ptext z)] = (T.take (j + 1)).map Value.string by rw [List.take_add_one, hTz]; simp)
        obtain ⟨lz, hlz⟩ : ∃ l, l = z.length := ⟨_, rfl⟩
        rw [← hlz] at hcell H4
        have HB2 := hide hb2
        have HO2 := hide ho2
        clear H2 HB HO d2 hz hzp hI hTz hlz hb2 ho2
        go_wp2_with fail
        refine (unhide H4).mono ?_
        rintro e w3 ⟨rfl, d3⟩
        have hb3 := below_after (unhide HB2) d3
        have ho3 := own_below (unhide HO2) d3
        clear H4 HB2 HO2 d3 hcell
        go_wp2_with (first
          | (at_builtin; refine wpList_append_one rfl (.tmp 16) (.tmp 22) 47 rfl w.heap.size 9 i0 (.string ByteArray.empty) 16 Try.underlying47 hi hz0 hz1 hz2 rfl w w3 _ _ _ rfl ho3 (.string (ptext z)) rfl rfl rfl (by omega) (by simp only [maxLen]; omega) hb3 hb3.size ?_; intro v4 w4 hown4 hb4 hg4; clear hg4))
        rw [unhide HE] at hown4
        clear ho3 hb3 HE
        go_roundw
        case rel => exact ⟨j + 1, by omega, by go_num, hb4, hown4⟩
        case measure => simp [intOf]; omega
      · obtain rfl : n = j := by omega
        rw [List.take_of_length_le (by rw [unhide HTL]; exact Nat.le_refl _)] at ho
        obtain ⟨Ao, co, rfl, hro⟩ := Reads.of_own ho
        have H3 := hide (unhide HJ wr Ao n co T hro hn8 (unhide HT8) (unhide HTL))
        clear H1 HJ ho hro
        go_wp2_with fail
        refine (unhide H3).mono ?_
        rintro e w3 ⟨rfl, d3⟩
        have hb3 := below_after hb d3
        clear H3 d3 hb
        go_wp2
        go_ret
        exact ⟨rfl, hb3⟩
end Go.Proofs.Ytplchjeamooliaa


/-
  impl.Join at a row of the call's own, by its contract: the library's Join.
-/

namespace Go.Proofs.Ytplchjeamooliaa
set_option maxRecDepth 100000
open Go.RowKit

theorem ijoin_row (g n c : Nat) (ss : List ByteArray) (sep : ByteArray) (w : World) (base : Nat) (hown : w.ownsRow base 9 1 (.slice (some ⟨g, 0, none⟩) n c) n (ss.map Value.string)) (hn : n ≤ 1099511627776) (hc : n ≤ c)
    (hlen : (Lib.join (ss.map (·.data.toList)) sep.data.toList).length ≤ 4398046511104) :
    Calls Try.prog 57 #[.slice (some ⟨g, 0, none⟩) n c, .string sep] w fun e w' => e = .returned (.string ⟨(Lib.join (ss.map (·.data.toList)) sep.data.toList).toArray⟩) ∧ Below w.heap.size w w' := by
  have hl : ss.length = n := by simpa using hown.1
  subst hl
  have hcells : ∀ (j : Nat) x, ss[j]? = some x → w.cell? ⟨g, 0 + j, none⟩ = some (.string x) := fun j x hx => by
    have := hown.cells (g := g) rfl j (.string x) (by rw [List.getElem?_map, hx]; rfl)
    rw [← this]
    congr 1
    unfold Addr.add
    split <;> simp_all
  have H := hide (Try.strings_Join g 0 c ss sep w hcells (hown.lt g rfl).2 (by omega) hc (by omega))
  clear hcells hown hlen hn hc
  go_enter Try.func57, Try.ntmps57
  go_wp2_with fail
  refine (unhide H).mono ?_
  rintro e w' ⟨rfl, hb⟩
  clear H
  go_wp2
  go_ret
  exact ⟨rfl, hb⟩
theorem own_cap {w : World} {base n c g : Nat} {xs : List Value} {e : TypeId} (h : w.ownsRow base e 1 (.slice (some ⟨g, 0, none⟩) n c) n xs) : n ≤ c := by
  rcases h.2 with ⟨h0, _⟩ | ⟨g', cap, cur, hv, _, _, hnc, _⟩
  · cases h0
  · injection hv with _ _ h3
    omega
theorem own_headJ {w : World} {base n : Nat} {v : Value} {xs : List Value} {e : TypeId} (h : w.ownsRow base e 1 v n xs) (hn : 0 < n) : ∃ g c, v = .slice (some ⟨g, 0, none⟩) n c := by
  rcases h.2 with ⟨_, h0⟩ | ⟨g, cap, cur, rfl, _⟩
  · omega
  · exact ⟨g, cap, rfl⟩
end Go.Proofs.Ytplchjeamooliaa


/-
  impl.BasisText, by its contract.
-/

namespace Go.Proofs.Ytplchjeamooliaa
set_option maxRecDepth 100000
open Go.RowKit

set_option maxHeartbeats 1600000 in
theorem ibtx_any (A : Option Addr) (n c B : Nat) (zss : List (List Int)) (w : World) (hS : IntsS w B (.slice A n c) zss) (hn : n ≤ 1048576) (hsm : ∀ z ∈ zss, z.length ≤ 1048576 ∧ Small z) :
    Calls Try.prog 30 #[.slice A n c] w (GivesS w (btext zss)) := by
  obtain ⟨i0, hi, hz0, hz1, hz2⟩ := info_parts strInfoC
  have hl := hS.len
  obtain ⟨b, hb⟩ : ∃ b, basis zss = b := ⟨_, rfl⟩
  have H1 := hide (ibas_any A n c B zss w hS hn hsm)
  rw [hb] at H1
  cases b with
  | false =>
    rw [btext_no hb]
    clear hS hsm hb hl
    go_enter Try.func30, Try.ntmps30
    go_wp2_with fail
    refine (unhide H1).mono ?_
    rintro e w1 ⟨rfl, d1⟩
    clear H1
    go_wp2
    go_ret
    exact ⟨rfl, d1⟩
  | true =>
    have hn8 : n ≤ 8 := by have := basis_le hb; omega
    have HA := hide (⟨hS, fun z hz => (basis_isP hb z hz).1⟩ : IntsS w B (.slice A n c) zss ∧ ∀ z ∈ zss, isP z = true)
    have HL := hide hl
    have HT := hide (btext_yes hb)
    clear hS hsm hb hl
    go_enter Try.func30, Try.ntmps30
    go_wp2_with fail
    refine (unhide H1).mono ?_
    rintro e w1 ⟨rfl, d1⟩
    have hs1 := d1.size
    clear H1
    go_wp2_with (first
      | (at_make; refine wpList_make_full _ rfl (.tmp 10) (.tmp 10) 47 rfl w.heap.size 9 i0 (.string ByteArray.empty) 1 Try.underlying47 hi hz0 hz1 _ _ _ _ n rfl rfl (by first | rfl | omega) (by first | rfl | omega) (by rw [hz2]; omega) (by unfold maxLen; omega) hs1 ?_; intro w2 hown hg))
    have hb2 := d1.grown hg hs1 (by simp)
    obtain ⟨g, hgd⟩ : ∃ g, g = w1.heap.size := ⟨_, rfl⟩
    rw [← hgd] at hown ⊢
    clear hg d1 hs1 hgd
    go_wp2
    go_loopw [4, 5, 14] (fun _ _ i wr => ∃ (k : Nat) (xs : List Value), k ≤ n ∧ i = .int .i64 k ∧ Below w.heap.size w wr ∧ wr.ownsRow w.heap.size 9 1 (.slice (some ⟨g, 0, none⟩) n n) n xs ∧ Hid (xs.take k = ((zss.map ptext).map Value.string).take k)) (fun _ _ i _ => n - (intOf i).toNat)
    case atStart => exact ⟨0, _, Nat.zero_le _, rfl, hb2, hown, by exact rfl⟩
    case round =>
      obtain ⟨k, xs, hk, rfl, hbr, hO, hx⟩ := hrel
      clear hb2 hown
      by_cases hlt : k < n
      · obtain ⟨ad, A6, c6, z, rfl, hz, hcell, hI⟩ := ((unhide HA).1.below hbr).at_ hlt
        have hzp := (unhide HA).2 z (List.mem_of_getElem? hz)
        have H4 := hide (itext_any A6 z.length c6 _ z wr (hI.argP hzp))
        have HZ := hide hz
        have HO := hide hO
        obtain ⟨T, hT⟩ : ∃ T, T = ptext z := ⟨_, rfl⟩
        rw [← hT] at H4
        have HTZ := hide hT
        obtain ⟨lz, hlz⟩ : ∃ l, l = z.length := ⟨_, rfl⟩
        rw [← hlz] at hcell H4
        clear hz hzp hI hO hT hlz
        go_wp2_with fail
        refine (unhide H4).mono ?_
        rintro e w4 ⟨rfl, hb4⟩
        have hO4 := own_below (unhide HO) hb4
        have hl : xs.length = n := by simpa using hO4.1
        obtain ⟨old, hold⟩ : ∃ old, w4.cell? ⟨g, k, none⟩ = some old := ⟨_, by rw [hO4.cellAt k (by omega)]; exact List.getElem?_eq_getElem (by omega)⟩
        have hfz := hO4.frozenAt k
        have hst := hide (take_set_i (unhide hx) (show ((zss.map ptext).map Value.string)[k]? = some (.string T) by rw [List.getElem?_map, List.getElem?_map, unhide HZ, unhide HTZ]; rfl) (by omega))
        have ho2 := (hO4.stored k (.string T)).1
        have hb5 := (below_after hbr hb4).setCell (p := ⟨g, k, none⟩) (hO4.lt g rfl).1 (.string T)
        clear H4 HO hb4 hbr hO4 hcell hl hx
        go_wp2
        go_roundw
        case rel => exact ⟨k + 1, _, by omega, by go_num, hb5, ho2, hst⟩
        case measure => simp [intOf]; omega
      · obtain rfl : n = k := by omega
        have hlx : xs.length = n := by simpa using hO.1
        have hxs : xs = (zss.map ptext).map Value.string := by
          have h := unhide hx
          rwa [List.take_of_length_le (by omega), List.take_of_length_le (by rw [List.length_map, List.length_map, unhide HL]; exact Nat.le_refl _)] at h
        subst hxs
        have hjs := jn_eq ⟨#[32]⟩ (zss.map ptext) (zss.map ptext).length (Nat.le_refl _)
        rw [List.take_length] at hjs
        have hsml := jn_small (ss := zss.map ptext) (fun s hs => by obtain ⟨z, _, rfl⟩ := List.mem_map.1 hs; exact ptext_le z) (zss.map ptext).length (Nat.le_refl _)
        rw [List.length_map, unhide HL] at hsml hjs
        have H7 := hide (ijoin_row g n n (zss.map ptext) ⟨#[32]⟩ wr _ hO (by omega) (Nat.le_refl _) (by rw [← hjs]; omega))
        rw [← hjs] at H7
        have hE : (⟨(jn ⟨#[32]⟩ (zss.map ptext) n).toArray⟩ : ByteArray) = btext zss := by rw [unhide HT, unhide HL]
        rw [hE] at H7
        obtain ⟨R, hR⟩ : ∃ R, R = btext zss := ⟨_, rfl⟩
        rw [← hR] at H7
        have HR := hide hR
        clear hx hlx hO hjs hsml hE hR
        go_wp2_with fail
        refine (unhide H7).mono ?_
        rintro e w5 ⟨rfl, hb5⟩
        have hb6 := below_after hbr hb5
        clear H7 hbr hb5
        go_wp2
        go_ret
        exact ⟨ret_str (unhide HR), hb6⟩
end Go.Proofs.Ytplchjeamooliaa


/-
  impl.BasisUpTo, by its contract.
-/

namespace Go.Proofs.Ytplchjeamooliaa
set_option maxRecDepth 100000
open Go.RowKit Go.Maps

theorem arg_nil (w : World) : Arg w 0 none 0 0 [] := ⟨Reads.none_, Nat.zero_le _, by omega, Nat.le_refl _, (fun z hz => by cases hz), fun _ => rfl⟩
set_option maxHeartbeats 1600000 in
theorem ibu1_any (kb m bx : Nat) (S : List (List Int)) (A : Option Addr) (n c B : Nat) (z : List Int) (w : World) (hx : w.cell? ⟨bx, 0, none⟩ = some (.map (some kb))) (hP : PSet w kb m S) (h : Arg w B A n c z) (hz : isP z = true) :
    Calls Try.prog 63 #[.slice A n c, .pointer (some ⟨bx, 0, none⟩)] w (GivesB w (decide (z ∈ S) || !lowIn S z)) := by
  have H1 := hide (pshas_any kb m S A n c B z w hP h hz)
  have H2 := hide (fun (w' : World) (d : Below w.heap.size w w') => pslow_any kb m S A n c B z w' (hP.later d) (h.below d))
  obtain ⟨b1, hb1⟩ : ∃ b, decide (z ∈ S) = b := ⟨_, rfl⟩
  obtain ⟨b2, hb2⟩ : ∃ b, lowIn S z = b := ⟨_, rfl⟩
  rw [hb1] at H1 ⊢
  rw [hb2] at H2 ⊢
  have hlt := World.block_lt_of_cell? w _ hx
  clear hP h hz hb1 hb2
  cases b1 with
  | true =>
    go_enter Try.func63, Try.ntmps63
    go_wp2_with fail
    refine (unhide H1).mono ?_
    rintro e w1 ⟨rfl, d1⟩
    clear H1 H2 hx
    go_wp2
    go_ret
    exact ⟨rfl, d1⟩
  | false =>
    go_enter Try.func63, Try.ntmps63
    go_wp2_with fail
    refine (unhide H1).mono ?_
    rintro e w1 ⟨rfl, d1⟩
    have hx1 := (d1.cell hlt).trans hx
    have H3 := hide (unhide H2 w1 d1)
    clear H1 H2 hx
    go_wp2_with fail
    refine (unhide H3).mono ?_
    rintro e w2 ⟨rfl, d2⟩
    have hb := below_after d1 d2
    clear H3 d1 d2 hx1
    cases b2 with
    | false =>
      go_wp2
      go_ret
      exact ⟨rfl, hb⟩
    | true =>
      go_wp2
      go_ret
      exact ⟨rfl, hb⟩
set_option maxHeartbeats 1600000 in
theorem ibu_any (A : Option Addr) (n c B : Nat) (zss : List (List Int)) (m : Int) (hm : -9223372036854775808 ≤ m ∧ m ≤ 9223372036854775807) (w : World) (hS : IntsS w B (.slice A n c) zss) (hn : n ≤ 1048576) (hsm : ∀ z ∈ zss, z.length ≤ 1048576 ∧ Small z) :
    Calls Try.prog 32 #[.slice A n c, .int .i64 m] w (GivesSS w (buR zss m)) := by
  obtain ⟨hm1, hm2⟩ := hm
  have H1 := hide (conNP_any A n c B zss (fun z => !isP z) w hS hn (hide fun w1 d A1 c1 z hz hI => inop_any A1 z.length c1 _ z w1 (hI.arg (hsm z hz).1 hI.cap (hsm z hz).2)))
  obtain ⟨b, hb⟩ : ∃ b, allP zss = b := ⟨_, rfl⟩
  have hany : zss.any (fun z => !isP z) = !b := by rw [← hb]; unfold allP; rw [List.not_all_eq_any_not]
  rw [hany] at H1
  cases b with
  | false =>
    rw [buR_no (fun h => by rw [hb] at h; cases h.1)]
    clear hS hsm hb hany
    go_enter Try.func32, Try.ntmps32
    go_wp2_with fail
    refine (unhide H1).mono ?_
    rintro e w1 ⟨rfl, d1⟩
    have hI := IntsS.nil w1 w.heap.size
    clear H1
    go_wp2
    go_ret
    exact GivesSS.mk hI d1
  | true =>
    by_cases hin : 0 ≤ m ∧ m ≤ 6
    · obtain ⟨k, rfl⟩ : ∃ k : Nat, m = (k : Int) := ⟨m.toNat, by omega⟩
      have hk6 : k ≤ 6 := by omega
      have hLP := fun z hz => allP_at hb (z := z) hz
      have H2 := hide (fun (w' : World) (d : Below w.heap.size w w') => psof_any A n c B zss w' (hS.below d) hn hLP)
      have HE := hide (show (allU k).filter (fun z => !outU zss z) = buR zss (k : Int) by rw [bu_all zss k hk6, buR_yes hb hk6])
      have H4 := hide (fun (w' : World) => iupto_any k hk6 w')
      have hlen := allU_len k hk6
      have HPP := hide (fun (z : List Int) (hz : z ∈ allU k) => ((mem_allU hk6).1 hz).1)
      have hpos : 0 < (allU k).length := List.length_pos_of_mem ((mem_allU hk6 (x := [])).2 ⟨by decide, by simp⟩)
      obtain ⟨Z, hZ⟩ : ∃ Z, Z = allU k := ⟨_, rfl⟩
      rw [← hZ] at HE H4 hlen HPP hpos
      have hk0 : ¬ (k : Int) < 0 := by omega
      have hk6' : ¬ (6 : Int) < (k : Int) := by omega
      clear hS hsm hin hm1 hm2 hZ hb hany hLP
      go_enter Try.func32, Try.ntmps32
      go_wp2_with fail
      refine (unhide H1).mono ?_
      rintro e w1 ⟨rfl, d1⟩
      have H5 := hide (unhide H2 w1 d1)
      clear H1 H2
      go_wp2_with fail
      refine (unhide H5).mono ?_
      rintro e w2 ⟨rfl, hP2, d2⟩
      have hb2 := below_after d1 d2
      have hlb := hP2.lt
      have hal : Below w2.heap.size w2 (w2.alloc (.cells #[.map (some w1.heap.size)] 52)) := (Below.refl _ w2).alloc (Nat.le_refl _) _
      have hc3 : Boxed (w2.alloc (.cells #[.map (some w1.heap.size)] 52)) w2.heap.size 52 (.map (some w1.heap.size)) := Boxed.new w2 _ _
      have hP3 := hP2.later hal
      have hb3 := below_after hb2 hal
      have H6 := hide (psadd_any w1.heap.size n zss none 0 0 0 [] _ hP3 hn (arg_nil _) (by decide))
      have hcell3 := hc3.cell
      have hlt1 := d1.size
      clear H5 hP2 hP3 d1 d2 hb2 hal
      go_wp2_with fail
      refine (unhide H6).mono ?_
      rintro e w4 ⟨rfl, hP4, hg4⟩
      have hb4 : Below w.heap.size w w4 := hb3.grown hg4 hb3.size (fun j e => by injection e with e; omega)
      have hc4 := (World.cell?_of_block (hg4.block w2.heap.size (by simp) (fun e => by injection e; omega))).trans hcell3
      have H7 := hide (unhide H4 w4)
      clear H4 H6 hc3 hb3 hcell3 hg4
      go_wp2_with fail
      refine (unhide H7).mono ?_
      rintro e w5 ⟨A5, c5, rfl, o5, d5⟩
      have hb5 := below_after hb4 d5
      have hlt4 := World.block_lt_of_cell? w4 _ hc4
      have hsz4 := hb4.size
      have hlt4' : w2.heap.size < w4.heap.size := hlt4
      have hc5 := (d5.cell hlt4).trans hc4
      have hP5 := hP4.later d5
      have hsz5 := d5.size
      have H8 := hide (delsBU_any w2.heap.size A5 Z.length c5 w4.heap.size Z (outU zss) w5 o5 (by omega) hpos (hide fun w6 g _ hg hgr A9 c9 z hz hI => by
        have hzp := unhide HPP z hz
        have hc6 : w6.cell? ⟨w2.heap.size, 0, none⟩ = some (.map (some w1.heap.size)) := (World.cell?_of_block (hgr.block w2.heap.size (by omega) (fun e => by injection e; omega))).trans hc5
        exact ibu1_any w1.heap.size (n + 1) w2.heap.size (zss ++ [[]]) A9 z.length c9 _ z w6 hc6 (hP5.kept hgr (fun e => by injection e; omega)) (hI.argP hzp) hzp))
      rw [unhide HE] at H8
      obtain ⟨R, hR⟩ : ∃ R, R = buR zss (k : Int) := ⟨_, rfl⟩
      rw [← hR] at H8
      have HR := hide hR
      clear H7 hb4 hP4 hP5 hc4 hc5 hlt4 o5 d5 hR hlen hpos
      go_wp2_with fail
      refine (unhide H8).mono ?_
      rintro e w7 ⟨A7, c7, rfl, o7, g, hg7, hgr7⟩
      have hb7 : Below w.heap.size w w7 := hb5.grown hgr7 hb5.size (fun j e => by injection e with e; omega)
      have HI := hide (show IntsS w7 w.heap.size (.slice A7 R.length c7) (buR zss (k : Int)) by rw [← unhide HR]; exact o7.low hsz4)
      clear H8 o7 hgr7 hb5
      go_wp2
      go_ret
      exact GivesSS.mk (unhide HI) hb7
    · rw [buR_no (fun h => hin h.2)]
      clear hS hsm hb hany
      have hcase : m < 0 ∨ (¬ m < 0 ∧ 6 < m) := by omega
      rcases hcase with h0 | ⟨h0, h6⟩
      · go_enter Try.func32, Try.ntmps32
        go_wp2_with fail
        refine (unhide H1).mono ?_
        rintro e w1 ⟨rfl, d1⟩
        have hI := IntsS.nil w1 w.heap.size
        clear H1
        go_wp2
        go_ret
        exact GivesSS.mk hI d1
      · go_enter Try.func32, Try.ntmps32
        go_wp2_with fail
        refine (unhide H1).mono ?_
        rintro e w1 ⟨rfl, d1⟩
        have hI := IntsS.nil w1 w.heap.size
        clear H1
        go_wp2
        go_ret
        exact GivesSS.mk hI d1
end Go.Proofs.Ytplchjeamooliaa
