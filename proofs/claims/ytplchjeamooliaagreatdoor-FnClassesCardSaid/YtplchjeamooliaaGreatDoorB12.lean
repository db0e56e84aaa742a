/-
  Words and contracts that the laws lean on, bundled: ClaD, ClaE, Sames, Big, End, LaidU.
-/
import Derived.Test.YtplchjeamooliaaGreatDoorB9
import Derived.Test.YtplchjeamooliaaGreatDoorB10
import Derived.Test.YtplchjeamooliaaGreatDoorB11
import Derived.Test.YtplchjeamooliaaGreatDoorB1
import Derived.Test.YtplchjeamooliaaGreatDoorProg
import Derived.Test.YtplchjeamooliaaGreatDoorRows
import Derived.ProofKit
import Derived.OpenShut
import Derived.Carry
import Derived.SliceStrings
import Derived.Test.YtplchjeamooliaaGreatDoorCards
import Derived.Test.YtplchjeamooliaaGreatDoorTie
import Derived.Deep.DeepHandedRow
import Derived.Deep.DeepWitnessRowRef

/-
  impl.BasisText, by its contract.
-/

namespace Go.Proofs.YtplchjeamooliaaGreatDoor
set_option maxRecDepth 100000
open Go.RowKit

set_option maxHeartbeats 1600000 in
theorem ibtx_any (A : Option Addr) (n c B : Nat) (zss : List (List Int)) (w : World) (hS : IntsS w B (.slice A n c) zss) (hn : n ≤ 1048576) (hsm : ∀ z ∈ zss, z.length ≤ 1048576 ∧ Small z) :
    Calls Tryz.prog 24 #[.slice A n c] w (GivesS w (btext zss)) := by
  obtain ⟨i0, hi, hz0, hz1, hz2⟩ := info_parts strInfoC
  have hl := hS.len
  obtain ⟨b, hb⟩ : ∃ b, basis zss = b := ⟨_, rfl⟩
  have H1 := hide (ibas_any A n c B zss w hS hn hsm)
  rw [hb] at H1
  cases b with
  | false =>
    rw [btext_no hb]
    clear hS hsm hb hl
    go_enter Tryz.func24, Tryz.ntmps24
    go_wp2_with fail
    refine (unhide H1).mono ?_
    rintro e w1 ⟨rfl, d1⟩
    clear H1
    go_wp2
    go_ret
    exact ⟨rfl, d1⟩
  | true =>
    have hn8 : n ≤ 8 := by have := basis_le hb; omega
    have HA := hide (⟨hS, fun z hz => (basis_isP hb z hz).1⟩ : IntsS w B (.slice A n c) zss ∧ ∀ z ∈ zss, isP z = true)
    have HL := hide hl
    have HT := hide (btext_yes hb)
    clear hS hsm hb hl
    go_enter Tryz.func24, Tryz.ntmps24
    go_wp2_with fail
    refine (unhide H1).mono ?_
    rintro e w1 ⟨rfl, d1⟩
    have hs1 := d1.size
    clear H1
    go_wp2_with (first
      | (at_make; refine wpList_make_full _ rfl (.tmp 10) (.tmp 10) 47 rfl w.heap.size 9 i0 (.string ByteArray.empty) 1 Tryz.underlying47 hi hz0 hz1 _ _ _ _ n rfl rfl (by first | rfl | omega) (by first | rfl | omega) (by rw [hz2]; omega) (by unfold maxLen; omega) hs1 ?_; intro w2 hown hg))
    have hb2 := d1.grown hg hs1 (by simp)
    obtain ⟨g, hgd⟩ : ∃ g, g = w1.heap.size := ⟨_, rfl⟩
    rw [← hgd] at hown ⊢
    clear hg d1 hs1 hgd
    go_wp2
    go_loopw [4, 5, 14] (fun _ _ i wr => ∃ (k : Nat) (xs : List Value), k ≤ n ∧ i = .int .i64 k ∧ Below w.heap.size w wr ∧ wr.ownsRow w.heap.size 9 1 (.slice (some ⟨g, 0, none⟩) n n) n xs ∧ Hid (xs.take k = ((zss.map ptext).map Value.string).take k)) (fun _ _ i _ => n - (intOf i).toNat)
    case atStart => exact ⟨0, _, Nat.zero_le _, rfl, hb2, hown, by exact rfl⟩
    case round =>
      obtain ⟨k, xs, hk, rfl, hbr, hO, hx⟩ := hrel
      clear hb2 hown
      by_cases hlt : k < n
      · obtain ⟨ad, A6, c6, z, rfl, hz, hcell, hI⟩ := ((unhide HA).1.below hbr).at_ hlt
        have hzp := (unhide HA).2 z (List.mem_of_getElem? hz)
        have H4 := hide (itext_any A6 z.length c6 _ z wr (hI.argP hzp))
        have HZ := hide hz
        have HO := hide hO
        obtain ⟨T, hT⟩ : ∃ T, T = ptext z := ⟨_, rfl⟩
        rw [← hT] at H4
        have HTZ := hide hT
        obtain ⟨lz, hlz⟩ : ∃ l, l = z.length := ⟨_, rfl⟩
        rw [← hlz] at hcell H4
        clear hz hzp hI hO hT hlz
        go_wp2_with fail
        refine (unhide H4).mono ?_
        rintro e w4 ⟨rfl, hb4⟩
        have hO4 := own_below (unhide HO) hb4
        have hl : xs.length = n := by simpa using hO4.1
        obtain ⟨old, hold⟩ : ∃ old, w4.cell? ⟨g, k, none⟩ = some old := ⟨_, by rw [hO4.cellAt k (by omega)]; exact List.getElem?_eq_getElem (by omega)⟩
        have hfz := hO4.frozenAt k
        have hst := hide (take_set_i (unhide hx) (show ((zss.map ptext).map Value.string)[k]? = some (.string T) by rw [List.getElem?_map, List.getElem?_map, unhide HZ, unhide HTZ]; rfl) (by omega))
        have ho2 := (hO4.stored k (.string T)).1
        have hb5 := (below_after hbr hb4).setCell (p := ⟨g, k, none⟩) (hO4.lt g rfl).1 (.string T)
        clear H4 HO hb4 hbr hO4 hcell hl hx
        go_wp2
        go_roundw
        case rel => exact ⟨k + 1, _, by omega, by go_num, hb5, ho2, hst⟩
        case measure => simp [intOf]; omega
      · obtain rfl : n = k := by omega
        have hlx : xs.length = n := by simpa using hO.1
        have hxs : xs = (zss.map ptext).map Value.string := by
          have h := unhide hx
          rwa [List.take_of_length_le (by omega), List.take_of_length_le (by rw [List.length_map, List.length_map, unhide HL]; exact Nat.le_refl _)] at h
        subst hxs
        have hjs := jn_eq ⟨#[32]⟩ (zss.map ptext) (zss.map ptext).length (Nat.le_refl _)
        rw [List.take_length] at hjs
        have hsml := jn_small (ss := zss.map ptext) (fun s hs => by obtain ⟨z, _, rfl⟩ := List.mem_map.1 hs; exact ptext_le z) (zss.map ptext).length (Nat.le_refl _)
        rw [List.length_map, unhide HL] at hsml hjs
        have H7 := hide (ijoin_row g n n (zss.map ptext) ⟨#[32]⟩ wr _ hO (by omega) (Nat.le_refl _) (by rw [← hjs]; omega))
        rw [← hjs] at H7
        have hE : (⟨(jn ⟨#[32]⟩ (zss.map ptext) n).toArray⟩ : ByteArray) = btext zss := by rw [unhide HT, unhide HL]
        rw [hE] at H7
        obtain ⟨R, hR⟩ : ∃ R, R = btext zss := ⟨_, rfl⟩
        rw [← hR] at H7
        have HR := hide hR
        clear hx hlx hO hjs hsml hE hR
        go_wp2_with fail
        refine (unhide H7).mono ?_
        rintro e w5 ⟨rfl, hb5⟩
        have hb6 := below_after hbr hb5
        clear H7 hbr hb5
        go_wp2
        go_ret
        exact ⟨ret_str (unhide HR), hb6⟩
end Go.Proofs.YtplchjeamooliaaGreatDoor


/-
  impl.BasisUpTo, by its contract.
-/

namespace Go.Proofs.YtplchjeamooliaaGreatDoor
set_option maxRecDepth 100000
open Go.RowKit Go.Maps

theorem arg_nil (w : World) : Arg w 0 none 0 0 [] := ⟨Reads.none_, Nat.zero_le _, by omega, Nat.le_refl _, (fun z hz => by cases hz), fun _ => rfl⟩
set_option maxHeartbeats 1600000 in
theorem ibu1_any (kb m bx : Nat) (S : List (List Int)) (A : Option Addr) (n c B : Nat) (z : List Int) (w : World) (hx : w.cell? ⟨bx, 0, none⟩ = some (.map (some kb))) (hP : PSet w kb m S) (h : Arg w B A n c z) (hz : isP z = true) :
    Calls Tryz.prog 60 #[.slice A n c, .pointer (some ⟨bx, 0, none⟩)] w (GivesB w (decide (z ∈ S) || !lowIn S z)) := by
  have H1 := hide (pshas_any kb m S A n c B z w hP h hz)
  have H2 := hide (fun (w' : World) (d : Below w.heap.size w w') => pslow_any kb m S A n c B z w' (hP.later d) (h.below d))
  obtain ⟨b1, hb1⟩ : ∃ b, decide (z ∈ S) = b := ⟨_, rfl⟩
  obtain ⟨b2, hb2⟩ : ∃ b, lowIn S z = b := ⟨_, rfl⟩
  rw [hb1] at H1 ⊢
  rw [hb2] at H2 ⊢
  have hlt := World.block_lt_of_cell? w _ hx
  clear hP h hz hb1 hb2
  cases b1 with
  | true =>
    go_enter Tryz.func60, Tryz.ntmps60
    go_wp2_with fail
    refine (unhide H1).mono ?_
    rintro e w1 ⟨rfl, d1⟩
    clear H1 H2 hx
    go_wp2
    go_ret
    exact ⟨rfl, d1⟩
  | false =>
    go_enter Tryz.func60, Tryz.ntmps60
    go_wp2_with fail
    refine (unhide H1).mono ?_
    rintro e w1 ⟨rfl, d1⟩
    have hx1 := (d1.cell hlt).trans hx
    have H3 := hide (unhide H2 w1 d1)
    clear H1 H2 hx
    go_wp2_with fail
    refine (unhide H3).mono ?_
    rintro e w2 ⟨rfl, d2⟩
    have hb := below_after d1 d2
    clear H3 d1 d2 hx1
    cases b2 with
    | false =>
      go_wp2
      go_ret
      exact ⟨rfl, hb⟩
    | true =>
      go_wp2
      go_ret
      exact ⟨rfl, hb⟩
set_option maxHeartbeats 1600000 in
theorem ibu_any (A : Option Addr) (n c B : Nat) (zss : List (List Int)) (m : Int) (hm : -9223372036854775808 ≤ m ∧ m ≤ 9223372036854775807) (w : World) (hS : IntsS w B (.slice A n c) zss) (hn : n ≤ 1048576) (hsm : ∀ z ∈ zss, z.length ≤ 1048576 ∧ Small z) :
    Calls Tryz.prog 20 #[.slice A n c, .int .i64 m] w (GivesSS w (buR zss m)) := by
  obtain ⟨hm1, hm2⟩ := hm
  have H1 := hide (conNP_any A n c B zss (fun z => !isP z) w hS hn (hide fun w1 d A1 c1 z hz hI => inop_any A1 z.length c1 _ z w1 (hI.arg (hsm z hz).1 hI.cap (hsm z hz).2)))
  obtain ⟨b, hb⟩ : ∃ b, allP zss = b := ⟨_, rfl⟩
  have hany : zss.any (fun z => !isP z) = !b := by rw [← hb]; unfold allP; rw [List.not_all_eq_any_not]
  rw [hany] at H1
  cases b with
  | false =>
    rw [buR_no (fun h => by rw [hb] at h; cases h.1)]
    clear hS hsm hb hany
    go_enter Tryz.func20, Tryz.ntmps20
    go_wp2_with fail
    refine (unhide H1).mono ?_
    rintro e w1 ⟨rfl, d1⟩
    have hI := IntsS.nil w1 w.heap.size
    clear H1
    go_wp2
    go_ret
    exact GivesSS.mk hI d1
  | true =>
    by_cases hin : 0 ≤ m ∧ m ≤ 6
    · obtain ⟨k, rfl⟩ : ∃ k : Nat, m = (k : Int) := ⟨m.toNat, by omega⟩
      have hk6 : k ≤ 6 := by omega
      have hLP := fun z hz => allP_at hb (z := z) hz
      have H2 := hide (fun (w' : World) (d : Below w.heap.size w w') => psof_any A n c B zss w' (hS.below d) hn hLP)
      have HE := hide (show (allU k).filter (fun z => !outU zss z) = buR zss (k : Int) by rw [bu_all zss k hk6, buR_yes hb hk6])
      have H4 := hide (fun (w' : World) => iupto_any k hk6 w')
      have hlen := allU_len k hk6
      have HPP := hide (fun (z : List Int) (hz : z ∈ allU k) => ((mem_allU hk6).1 hz).1)
      have hpos : 0 < (allU k).length := List.length_pos_of_mem ((mem_allU hk6 (x := [])).2 ⟨by decide, by simp⟩)
      obtain ⟨Z, hZ⟩ : ∃ Z, Z = allU k := ⟨_, rfl⟩
      rw [← hZ] at HE H4 hlen HPP hpos
      have hk0 : ¬ (k : Int) < 0 := by omega
      have hk6' : ¬ (6 : Int) < (k : Int) := by omega
      clear hS hsm hin hm1 hm2 hZ hb hany hLP
      go_enter Tryz.func20, Tryz.ntmps20
      go_wp2_with fail
      refine (unhide H1).mono ?_
      rintro e w1 ⟨rfl, d1⟩
      have H5 := hide (unhide H2 w1 d1)
      clear H1 H2
      go_wp2_with fail
      refine (unhide H5).mono ?_
      rintro e w2 ⟨rfl, hP2, d2⟩
      have hb2 := below_after d1 d2
      have hlb := hP2.lt
      have hal : Below w2.heap.size w2 (w2.alloc (.cells #[.map (some w1.heap.size)] 63)) := (Below.refl _ w2).alloc (Nat.le_refl _) _
      have hc3 : Boxed (w2.alloc (.cells #[.map (some w1.heap.size)] 63)) w2.heap.size 63 (.map (some w1.heap.size)) := Boxed.new w2 _ _
      have hP3 := hP2.later hal
      have hb3 := below_after hb2 hal
      have H6 := hide (psadd_any w1.heap.size n zss none 0 0 0 [] _ hP3 hn (arg_nil _) (by decide))
      have hcell3 := hc3.cell
      have hlt1 := d1.size
      clear H5 hP2 hP3 d1 d2 hb2 hal
      go_wp2_with fail
      refine (unhide H6).mono ?_
      rintro e w4 ⟨rfl, hP4, hg4⟩
      have hb4 : Below w.heap.size w w4 := hb3.grown hg4 hb3.size (fun j e => by injection e with e; omega)
      have hc4 := (World.cell?_of_block (hg4.block w2.heap.size (by simp) (fun e => by injection e; omega))).trans hcell3
      have H7 := hide (unhide H4 w4)
      clear H4 H6 hc3 hb3 hcell3 hg4
      go_wp2_with fail
      refine (unhide H7).mono ?_
      rintro e w5 ⟨A5, c5, rfl, o5, d5⟩
      have hb5 := below_after hb4 d5
      have hlt4 := World.block_lt_of_cell? w4 _ hc4
      have hsz4 := hb4.size
      have hlt4' : w2.heap.size < w4.heap.size := hlt4
      have hc5 := (d5.cell hlt4).trans hc4
      have hP5 := hP4.later d5
      have hsz5 := d5.size
      have H8 := hide (delsBU_any w2.heap.size A5 Z.length c5 w4.heap.size Z (outU zss) w5 o5 (by omega) hpos (hide fun w6 g _ hg hgr A9 c9 z hz hI => by
        have hzp := unhide HPP z hz
        have hc6 : w6.cell? ⟨w2.heap.size, 0, none⟩ = some (.map (some w1.heap.size)) := (World.cell?_of_block (hgr.block w2.heap.size (by omega) (fun e => by injection e; omega))).trans hc5
        exact ibu1_any w1.heap.size (n + 1) w2.heap.size (zss ++ [[]]) A9 z.length c9 _ z w6 hc6 (hP5.kept hgr (fun e => by injection e; omega)) (hI.argP hzp) hzp))
      rw [unhide HE] at H8
      obtain ⟨R, hR⟩ : ∃ R, R = buR zss (k : Int) := ⟨_, rfl⟩
      rw [← hR] at H8
      have HR := hide hR
      clear H7 hb4 hP4 hP5 hc4 hc5 hlt4 o5 d5 hR hlen hpos
      go_wp2_with fail
      refine (unhide H8).mono ?_
      rintro e w7 ⟨A7, c7, rfl, o7, g, hg7, hgr7⟩
      have hb7 : Below w.heap.size w w7 := hb5.grown hgr7 hb5.size (fun j e => by injection e with e; omega)
      have HI := hide (show IntsS w7 w.heap.size (.slice A7 R.length c7) (buR zss (k : Int)) by rw [← unhide HR]; exact o7.low hsz4)
      clear H8 o7 hgr7 hb5
      go_wp2
      go_ret
      exact GivesSS.mk (unhide HI) hb7
    · rw [buR_no (fun h => hin h.2)]
      clear hS hsm hb hany
      have hcase : m < 0 ∨ (¬ m < 0 ∧ 6 < m) := by omega
      rcases hcase with h0 | ⟨h0, h6⟩
      · go_enter Tryz.func20, Tryz.ntmps20
        go_wp2_with fail
        refine (unhide H1).mono ?_
        rintro e w1 ⟨rfl, d1⟩
        have hI := IntsS.nil w1 w.heap.size
        clear H1
        go_wp2
        go_ret
        exact GivesSS.mk hI d1
      · go_enter Tryz.func20, Tryz.ntmps20
        go_wp2_with fail
        refine (unhide H1).mono ?_
        rintro e w1 ⟨rfl, d1⟩
        have hI := IntsS.nil w1 w.heap.size
        clear H1
        go_wp2
        go_ret
        exact GivesSS.mk hI d1
end Go.Proofs.YtplchjeamooliaaGreatDoor


/-
  laws.sameInts, laws.sameLists, at equal lists, by their contracts.
-/

namespace Go.Proofs.YtplchjeamooliaaGreatDoor
set_option maxRecDepth 100000
open Go.RowKit

set_option maxHeartbeats 400000 in
/-- laws.sameInts: equal lists. -/
theorem samei_any (A A' : Option Addr) (n c n' c' B B' : Nat) (zs : List Int) (w : World) (hr : Reads w B A n (i64s zs)) (hr' : Reads w B' A' n' (i64s zs)) (hn : n ≤ 1099511627776) :
    Calls Tryz.prog 15 #[.slice A n c, .slice A' n' c'] w fun e w' => e = .returned (.bool true) ∧ Drew w w' := by
  have e1 : zs.length = n := by have := hr.1; rwa [i64_length] at this
  have e2 : zs.length = n' := by have := hr'.1; rwa [i64_length] at this
  obtain rfl : n = n' := by omega
  clear e1 e2
  go_enter Tryz.func15, Tryz.ntmps15
  go_wp2
  go_loopw [5] (fun i wr => ∃ k : Nat, k ≤ n ∧ i = .int .i64 k ∧ Drew w wr) (fun i _ => n - (intOf i).toNat)
  case atStart => exact ⟨0, Nat.zero_le _, rfl, Drew.refl _⟩
  case round =>
    obtain ⟨k, hk, rfl, hd⟩ := hrel
    by_cases hlt : k < n
    · obtain ⟨ad, u, rfl, _, hx, hc⟩ := (hr.ofDrew hd).at_ hlt
      obtain ⟨ad', u', rfl, _, hx', hc'⟩ := (hr'.ofDrew hd).at_ hlt
      obtain ⟨s, hs, rfl⟩ := i64_at hx
      obtain ⟨s', hs', rfl⟩ := i64_at hx'
      obtain rfl : s = s' := by rw [hs] at hs'; exact Option.some.inj hs'
      clear hx hx' hs hs' hr hr'
      have HD := hide hd
      clear hd
      go_wp2
      go_quiet (fail)
      go_wp2
      go_roundw
      case rel => exact ⟨k + 1, by omega, by go_num, (unhide HD).more _⟩
      case measure => simp [intOf]; omega
    · go_wp2
      go_ret
      exact ⟨rfl, hd⟩

set_option maxHeartbeats 400000 in
/-- laws.sameLists: equal lists of rows. -/
theorem samess_any (A A' : Option Addr) (n c n' c' B B' : Nat) (zss : List (List Int)) (w : World) (hr : IntsS w B (.slice A n c) zss) (hr' : IntsS w B' (.slice A' n' c') zss) (hn : n ≤ 1048576) (ht : tot zss ≤ 1099511627776) :
    Calls Tryz.prog 17 #[.slice A n c, .slice A' n' c'] w fun e w' => e = .returned (.bool true) ∧ Drew w w' := by
  have e1 := hr.len
  have e2 := hr'.len
  obtain rfl : n = n' := by omega
  have HE := hide e1
  clear e1 e2
  go_enter Tryz.func17, Tryz.ntmps17
  go_wp2
  go_loopw [5] (fun i wr => ∃ k : Nat, k ≤ n ∧ i = .int .i64 k ∧ Drew w wr) (fun i _ => n - (intOf i).toNat)
  case atStart => exact ⟨0, Nat.zero_le _, rfl, Drew.refl _⟩
  case round =>
    obtain ⟨k, hk, rfl, hd⟩ := hrel
    by_cases hlt : k < n
    · obtain ⟨ad, A1, c1, zs, rfl, hz, hc, hI⟩ := (hr.below (hd.below _)).at_ hlt
      obtain ⟨ad', A1', c1', zs', rfl, hz', hc', hI'⟩ := (hr'.below (hd.below _)).at_ hlt
      obtain rfl : zs = zs' := by rw [hz] at hz'; exact Option.some.inj hz'
      have hle := tot_at hz
      have HD := hide hd
      have H1 := hide hI.reads
      have H2 := hide hI'.reads
      clear hz hz' hd hI hI' hr hr'
      go_wp2
      go_quiet ((go_at_call 15; exact Calls.quiet_of (samei_any _ _ _ _ _ _ _ _ zs _ ((unhide H1).drewN _) ((unhide H2).drewN _) (by omega))))
      go_wp2
      go_roundw
      case rel => exact ⟨k + 1, by omega, by go_num, (unhide HD).more _⟩
      case measure => simp [intOf]; omega
    · go_wp2
      go_ret
      exact ⟨rfl, hd⟩
end Go.Proofs.YtplchjeamooliaaGreatDoor


/-
  laws.big, by its contract.
-/

namespace Go.Proofs.YtplchjeamooliaaGreatDoor
set_option maxRecDepth 100000
open Go.RowKit
theorem big_any (A : Option Addr) (n c : Nat) (hn : n ≤ 9223372036854775807) (w : World) :
    Calls Tryz.prog 4 #[.slice A n c] w fun e w' => e = .returned (.bool (decide (1048576 < n))) ∧ w = w' := by
  go_enter Tryz.func4, Tryz.ntmps4
  go_wp2
  go_ret
  exact ⟨ret_bool (by simp; omega), rfl⟩
end Go.Proofs.YtplchjeamooliaaGreatDoor


/-
  THE LAST STEP OF A LAW: the walk's answer 'true' and 'nothing below the call's own blocks has turned' give the row's post. One lemma for all laws.
-/

namespace Go.Proofs.YtplchjeamooliaaGreatDoor
set_option maxRecDepth 100000
open Go.ChangeShapes Go.WideShapes Go.ChangeAt Go.RowKit

theorem trodAll_below {H : Type} {enc : TypeId × Value → H} {P : Program} (hl : laidOutB P = true) {W W' : World} (hb : Below W.heap.size W W') :
    ∀ (ts : List TypeId) (vs : List Value) (ds : List (DataW H)) (ps : List MemPlace), (∀ t ∈ ts, P.readableRec t = true ∧ t < P.types.size) → (∀ x ∈ ps, x.block < W.heap.size) →
      DataW.TrodAll enc P W 0 (fun _ => true) true ts vs ds ps → DataW.TrodAll enc P W' 0 (fun b => decide (b < W.heap.size)) true ts vs ds ps
  | [], vs, ds, ps, _, _, h => by
    obtain ⟨rfl, rfl, rfl⟩ := trodAll_nil h
    exact trodAll_mk0
  | t :: ts, vs, ds, ps, ht, hp, h => by
    obtain ⟨v, vs1, d, ds1, a, b, rfl, rfl, rfl, h1, h2⟩ := trodAll_cons h
    exact ⟨a, b, Below.trod hl (ht t (by simp)).1 (ht t (by simp)).2 h1 hb (fun x hx => hp x (by simp [hx])),
      trodAll_below hl hb ts vs1 ds1 b (fun t' h' => ht t' (by simp [h'])) (fun x hx => hp x (by simp [hx])) h2, rfl⟩

theorem law_end {H : Type} {enc : TypeId × Value → H} {P : Program} {f : Func} {s : ChangeSpec} {W W' : World} {args : Array Value} {ds gs : List (DataW H)} {before : List MemPlace} {tb : TypeId}
    (hl : laidOutB P = true) (hts : ∀ t ∈ f.params.toList, P.readableRec t = true ∧ t < P.types.size) (hb4 : P.underlying tb = some .bool) (hrt : f.resultTypes = #[tb]) (hv : s.vars = [])
    (hW : DataW.Whole enc P f.params.toList s.vars false W args.toList ds gs before)
    (hfn : s.fn H (ds ++ gs) = { results := [.lit (.bool true)], args := ds }) (hbel : Below W.heap.size W W') :
    s.post enc P f false true false false W args (.bool true) W' := by
  have hlt : ∀ x ∈ before, x.block < W.heap.size := fun x hx => by simpa using hW.lt x hx
  have hW' := hW
  obtain ⟨p, q, hA, hV, rfl, _, _⟩ := hW
  rw [hv] at hV
  obtain ⟨rfl, rfl⟩ := trodVars_none hV
  have hargs := trodAll_below hl hbel _ _ _ _ hts (fun x hx => hlt x (by simp [hx])) hA
  refine ⟨ds, [], _, [] ++ [], p, [], hW', ?_, ?_, ?_, hbel.frame _, fun h => by cases h⟩
  · rw [hfn, hrt]; exact trodAll_mk1 (shut_bool hb4 _)
  · rw [hfn]; exact hargs
  · rw [hfn, hv]; rfl

theorem lt_of_row {W : World} {a : Addr} {m j : Nat} (hlt : ∀ x ∈ MemPlace.row a m, x.block < W.heap.size) (hj : j < m) : a.block < W.heap.size :=
  hlt (.cell a.block (a.off + j)) (MemPlace.mem_row.2 ⟨j, hj, rfl⟩)

/-- An argument []string, as 'Reads'. -/
theorem open_strs_reads {H : Type} {enc : TypeId × Value → H} {P : Program} {w : World} {r : Reach} {b0 t e : TypeId} {v : Value} {d : DataW H} {ps : List MemPlace} (ht : P.underlying t = some (.slice e)) (he : P.underlying e = some .string) (hc : P.cellsOf e = 1)
    (hval : Value.okWide P w r b0 t v) (h : DataW.Trod enc P w 0 (fun _ => true) true t v d ps) (hlt : ∀ x ∈ ps, x.block < w.heap.size) :
    ∃ (A : Option Addr) (n c : Nat) (ss : List ByteArray), v = .slice A n c ∧ Reads w w.heap.size A n (ss.map Value.string) ∧ n ≤ maxLen ∧ ∀ s ∈ ss, s.size ≤ maxLen := by
  obtain ⟨a0, len, cap, rfl⟩ := okWide_slice ht hval
  obtain ⟨fuel, hf⟩ := h
  rcases open_strings ht he hc hf with ⟨hcs, hx⟩ | ⟨a, len', cap', ss, hcs, _, hl, hm, hz, hx, hcell, hws⟩
  · simp [Value.cells] at hcs
    obtain ⟨rfl, rfl, rfl⟩ := hcs
    exact ⟨none, 0, 0, [], rfl, Reads.none_, Nat.zero_le _, by simp⟩
  · simp [Value.cells] at hcs
    obtain ⟨rfl, rfl, rfl⟩ := hcs
    simp only [Prod.mk.injEq] at hx
    obtain ⟨rfl, rfl⟩ := hx
    simp only [if_true] at hz
    refine ⟨some a, len, cap, ss.take len, rfl, ⟨by simp; omega, fun hn => ⟨a, rfl, lt_of_row (j := 0) hlt (by omega), fun j u hu => ?_⟩⟩, by omega, fun s hs => hws s (List.mem_of_mem_take hs)⟩
    rw [List.getElem?_map, List.getElem?_take] at hu
    by_cases hj : j < len
    · rw [if_pos hj] at hu
      rw [hcell j (by omega), ← hu, List.getD_eq_getElem?_getD]
      have : ss[j]? = some ss[j] := List.getElem?_eq_getElem (by omega)
      rw [this]; rfl
    · rw [if_neg hj] at hu; cases hu

/-- An argument of integers, as 'Reads'. -/
theorem open_ints_reads {H : Type} {enc : TypeId × Value → H} {P : Program} {w : World} {r : Reach} {b0 t e : TypeId} {ik : IntKind} {v : Value} {d : DataW H} {ps : List MemPlace} (ht : P.underlying t = some (.slice e)) (he : P.underlying e = some (.int ik)) (hc : P.cellsOf e = 1)
    (hval : Value.okWide P w r b0 t v) (h : DataW.Trod enc P w 0 (fun _ => true) true t v d ps) (hlt : ∀ x ∈ ps, x.block < w.heap.size) :
    ∃ (A : Option Addr) (n c : Nat) (zs : List Int), v = .slice A n c ∧ Reads w w.heap.size A n (zs.map (Value.int ik)) ∧ n ≤ maxLen ∧ ∀ z ∈ zs, (Lit.int ik z).wf = true := by
  obtain ⟨a0, len, cap, rfl⟩ := okWide_slice ht hval
  obtain ⟨fuel, hf⟩ := h
  rcases open_ints ht he hc hf with ⟨hcs, hx⟩ | ⟨a, len', cap', zs, hcs, _, hl, hm, hz, hx, hcell, hws⟩
  · simp [Value.cells] at hcs
    obtain ⟨rfl, rfl, rfl⟩ := hcs
    exact ⟨none, 0, 0, [], rfl, Reads.none_, Nat.zero_le _, by simp⟩
  · simp [Value.cells] at hcs
    obtain ⟨rfl, rfl, rfl⟩ := hcs
    simp only [Prod.mk.injEq] at hx
    obtain ⟨rfl, rfl⟩ := hx
    simp only [if_true] at hz
    refine ⟨some a, len, cap, zs.take len, rfl, ⟨by simp; omega, fun hn => ⟨a, rfl, lt_of_row (j := 0) hlt (by omega), fun j u hu => ?_⟩⟩, by omega, fun s hs => hws s (List.mem_of_mem_take hs)⟩
    rw [List.getElem?_map, List.getElem?_take] at hu
    by_cases hj : j < len
    · rw [if_pos hj] at hu
      rw [hcell j (by omega), ← hu, List.getD_eq_getElem?_getD]
      have : zs[j]? = some zs[j] := List.getElem?_eq_getElem (by omega)
      rw [this]; rfl
    · rw [if_neg hj] at hu; cases hu
theorem bytes_of_wf : ∀ (zs : List Int), (∀ z ∈ zs, (Lit.int .u8 z).wf = true) → ∃ bs : List UInt8, zs.map (Value.int .u8) = u8s bs
  | [], _ => ⟨[], rfl⟩
  | z :: r, h => by
    obtain ⟨bs, hb⟩ := bytes_of_wf r (fun y hy => h y (by simp [hy]))
    have hz : 0 ≤ z ∧ z ≤ 255 := by simpa [Lit.wf, IntKind.min, IntKind.max, IntKind.signed, IntKind.bits] using h z (by simp)
    refine ⟨UInt8.ofNat z.toNat :: bs, ?_⟩
    have e : ((UInt8.ofNat z.toNat).toNat : Int) = z := by rw [UInt8.toNat_ofNat']; omega
    simp only [u8s, List.map_cons, e]
    rw [hb]; rfl
theorem open_bytes_reads {H : Type} {enc : TypeId × Value → H} {P : Program} {w : World} {r : Reach} {b0 t e : TypeId} {v : Value} {d : DataW H} {ps : List MemPlace} (ht : P.underlying t = some (.slice e)) (he : P.underlying e = some (.int .u8)) (hc : P.cellsOf e = 1)
    (hval : Value.okWide P w r b0 t v) (h : DataW.Trod enc P w 0 (fun _ => true) true t v d ps) (hlt : ∀ x ∈ ps, x.block < w.heap.size) :
    ∃ (A : Option Addr) (n c : Nat) (bs : List UInt8), v = .slice A n c ∧ Reads w w.heap.size A n (u8s bs) ∧ n ≤ maxLen := by
  obtain ⟨A, n, c, zs, rfl, hr, hn, hw⟩ := open_ints_reads ht he hc hval h hlt
  obtain ⟨bs, hb⟩ := bytes_of_wf zs hw
  exact ⟨A, n, c, bs, rfl, by rw [← hb]; exact hr, hn⟩
theorem cellsByte : Tryz.prog.cellsOf 5 = 1 := by kernel_rfl

theorem laidOut : laidOutB Tryz.prog = true := by kernel_rfl
theorem own : ownKnob Tryz.prog.godebug = none := by kernel_rfl
end Go.Proofs.YtplchjeamooliaaGreatDoor


/-
  One world in which the tables of unicode/utf8 are laid (for the witness), where the row lists no table of strconv.
-/

namespace Go.Proofs.YtplchjeamooliaaGreatDoor
set_option maxRecDepth 100000
open Go.ChangeShapes Go.WideShapes Go.ChangeAt Go.RowKit

def onCells (cs : Array Value) : Obj → Obj
  | .cells _ t frozen => .cells cs t frozen
  | o => o
/-- A datum as cells, one after the other. -/
noncomputable def flat1 : DataW Unit → List Value
  | .lit (.int k z) => [.int k z]
  | _ => []
noncomputable def flat2 : DataW Unit → List Value
  | .lit (.int k z) => [.int k z]
  | .agg xs => xs.flatMap flat1
  | _ => []
noncomputable def flat : DataW Unit → List Value
  | .agg xs => xs.flatMap flat2
  | _ => []
noncomputable def laidWorldS (os : Os) : World :=
  { World.holding Tryz.prog os ⟨#[], #[], []⟩ with heap := ((World.holding Tryz.prog os ⟨#[], #[], []⟩).heap.modify 2 (onCells (flat Rows.laid_unicode_utf8_acceptRanges).toArray)).modify 1 (onCells (flat Rows.laid_unicode_utf8_first).toArray) }
end Go.Proofs.YtplchjeamooliaaGreatDoor
