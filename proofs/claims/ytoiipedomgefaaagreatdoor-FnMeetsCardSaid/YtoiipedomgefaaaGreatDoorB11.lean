/-
  Words and contracts that the laws lean on, bundled: OrdA, MkbA, ConS, Turn, Srt, SymI, MeetI, FmtS, Text.
-/
import Derived.Test.YtoiipedomgefaaaGreatDoorB4
import Derived.Test.YtoiipedomgefaaaGreatDoorB8
import Derived.Test.YtoiipedomgefaaaGreatDoorB10
import Derived.Test.YtoiipedomgefaaaGreatDoorB3
import Derived.Test.YtoiipedomgefaaaGreatDoorB7
import Derived.Test.YtoiipedomgefaaaGreatDoorB2
import Derived.Lib.AppendZeros
import Derived.Test.YtoiipedomgefaaaGreatDoorShelfR
import Derived.Sort.OwnSortedInts
import Derived.Deep.RegionHeld3
import Derived.Deep.RegionWith
import Derived.Test.YtoiipedomgefaaaGreatDoorProg
import Derived.Lib.ItoaNum
import Derived.Lib.ItoaLen
import Derived.Laws.IdiomStrings
import Derived.WalkSpells
import Derived.WalkLawsBesides
import Derived.Test.YtoiipedomgefaaaGreatDoorB6
import Derived.Laws.BytesString

/-
  impl.OrderPerms where its list reads place by place, by its contract.
-/

namespace Go.Proofs.YtoiipedomgefaaaGreatDoor
set_option maxRecDepth 100000
open Go.RowKit

/-- What is in order and has each once is known by what it has. -/
theorem keptA_ord {zss : List (List Int)} {xs ys : List Pr} (hall : allP zss = true) (hx : xs.map (·.2) = zss) (hp : ys.Perm xs) (hs : ∀ (i j : Nat) (x y : Pr), i < j → ys[i]? = some x → ys[j]? = some y → befL y.2 x.2 = false) :
    (keepN (·.2) ys ys.length).map (·.2) = ordR zss := by
  obtain ⟨h1, h2⟩ := keepN_sorted (f := fun q : Pr => q.2) hs ys.length (Nat.le_refl _)
  rw [ordR_yes hall]
  refine asc_unique h1 (ordL_asc _ _) fun z => ?_
  rw [h2 z, ordL_mem, List.take_length, List.take_length, ← hx]
  exact (hp.map _).mem_iff

set_option maxHeartbeats 1600000 in
theorem iorda_any (A : Option Addr) (n c : Nat) (zss : List (List Int)) (w : World) (hS : AtS w A n zss) (hn : n ≤ 1048576) :
    Calls Tryz.prog 55 #[.slice A n c] w (GivesSS w (ordR zss)) := by
  obtain ⟨i0, hi, hz0, hz1, hz2⟩ := info_parts rowsInfo1
  have hl := hS.1
  have HL := hide hl
  clear hl
  go_enter Tryz.func55, Tryz.ntmps55
  go_wp2_with (first
    | (at_make; refine wpList_make_full _ rfl (.tmp 7) (.tmp 7) 24 rfl w.heap.size 36 i0 (.slice none 0 0) 1 Tryz.underlying24 hi hz0 hz1 _ _ _ _ n rfl rfl (by first | rfl | omega) (by first | rfl | omega) (by rw [hz2]; omega) (by unfold maxLen; omega) (Nat.le_refl _) ?_; intro w1 hown hg))
  have hF := Filled.start (zss := zss) (unhide HL) (Below.refl w.heap.size w) hown hg
  clear hown hg
  obtain ⟨g, hgw⟩ : ∃ g, g = w.heap.size := ⟨_, rfl⟩
  rw [← hgw] at hF ⊢
  clear hgw
  go_loopw [4, 5, 11] (fun _ _ i wr => ∃ k : Nat, k ≤ n ∧ i = .int .i64 k ∧ Filled w wr g n zss k ∧ Hid (∀ z ∈ zss.take k, isP z = true)) (fun _ _ i _ => n - (intOf i).toNat)
  case atStart => exact ⟨0, Nat.zero_le _, rfl, hF, fun z hz => by simp at hz⟩
  case round =>
    obtain ⟨k, hk, rfl, hF, hP⟩ := hrel
    by_cases hlt : k < n
    · obtain ⟨ad, A1, c1, z, rfl, hz, hcell, hA⟩ := hS.2 wr hF.below k hlt
      obtain ⟨b, hb⟩ : ∃ b, isP z = b := ⟨_, rfl⟩
      have H1 := hide (iisperm_any A1 z.length c1 wr.heap.size z b hb wr hA.reads hA.under hA.le hA.small)
      cases b with
      | false =>
        have hr := hide (ordR_no (allP_no (List.mem_of_getElem? hz) hb))
        have hb0 := hF.below
        clear hz hb hA hF hP
        go_wp2_with fail
        refine (unhide H1).mono ?_
        rintro e w2 ⟨rfl, hb⟩
        have hb2 := below_after hb0 hb
        clear H1 hb hb0
        go_wp2
        go_ret
        rw [unhide hr]
        exact GivesSS.mk (IntsS.nil _ _) hb2
      | true =>
        have H2 := hide (fun w' (hb' : Below wr.heap.size wr w') => clone_any A1 z.length c1 wr.heap.size z w' (hA.below hb'))
        have HF := hide hF
        have HZ := hide hz
        have hnext : Hid (∀ z ∈ zss.take (k + 1), isP z = true) := hide (fun y hy => by
          rw [List.take_add_one, hz] at hy
          rcases List.mem_append.1 hy with h | h
          · exact unhide hP y h
          · simp at h
            subst h
            exact hb)
        clear hz hb hA hF hP
        go_wp2_with fail
        refine (unhide H1).mono ?_
        rintro e w2 ⟨rfl, hb⟩
        have H3 := hide (unhide H2 w2 hb)
        clear H1 H2
        go_wp2_with fail
        refine (unhide H3).mono ?_
        rintro e w3 ⟨A3, c3, rfl, o3, d3⟩
        have hb3 := below_after hb d3
        obtain ⟨⟨old, hold⟩, hfz⟩ := (unhide HF).old hb3 hlt
        have hF2 := (unhide HF).put (unhide HZ) hb3 (o3.low hb.size)
        clear H3 hb d3 hb3 o3 HF HZ
        go_wp2
        go_roundw
        case rel => exact ⟨k + 1, by omega, by go_num, hF2, hnext⟩
        case measure => simp [intOf]; omega
    · obtain rfl : n = k := by omega
      have hall : allP zss = true := allP_yes fun z hz => unhide hP z (by rw [List.take_of_length_le (by rw [unhide HL]; exact Nat.le_refl _)]; exact hz)
      obtain ⟨hbw, vs, hown, hin⟩ := hF
      rw [← unhide HL, fillS_all] at hin
      obtain ⟨xs, hx1, hx2, hx⟩ := hin.prs
      rw [← hx1] at hown
      have hxP : ∀ q ∈ xs, isP q.2 = true := fun q hq => allP_at hall (by rw [← hx2]; exact List.mem_map_of_mem hq)
      have H1 := hide (sort_any wr w.heap.size g n n xs hown hx hxP hn)
      have HALL := hide hall
      have HX2 := hide hx2
      have HX := hide hx
      have HXP := hide hxP
      have HOWN := hide hown
      clear hP hall hin hx hxP hx1 hx2 hown
      go_wp2_with fail
      refine (unhide H1).mono ?_
      rintro e w2 ⟨rfl, ys, hperm, hsort, hown2, hg2⟩
      have hk2 := KeepI.of_grown (v := .slice (some ⟨g, 0, none⟩) n n) (unhide HOWN) hg2
      have hy : RowPrs w2 w.heap.size ys := ((unhide HX).perm hperm).keepI hk2
      have hyP : ∀ q ∈ ys, isP q.2 = true := fun q hq => unhide HXP q (hperm.subset hq)
      have hbg := ((unhide HOWN).lt g rfl).1
      have hb2 := hbw.grown hg2 hbw.size (fun q hq => by injection hq with hq; omega)
      have H2 := hide (compact_any w2 w.heap.size g n n ys hown2 hy hyP hn (Nat.le_refl _))
      have HORD := hide (keptA_ord (unhide HALL) (unhide HX2) hperm hsort)
      have HY := hide hy
      have HOWN2 := hide hown2
      clear H1 hperm hsort hown2 hg2 hk2 hy hyP hbw
      go_wp2_with fail
      refine (unhide H2).mono ?_
      rintro e w3 ⟨rfl, hown3, hg3⟩
      have hk3 := KeepI.of_grown (v := .slice (some ⟨g, 0, none⟩) n n) (unhide HOWN2) hg3
      have hp3 := ((unhide HY).keepI hk3).sub ((keepN_sub (f := fun q : Pr => q.2) ys ys.length).trans (List.take_sublist _ _))
      have hb3 := hb2.grown hg3 hb2.size (fun q hq => by injection hq with hq; omega)
      have hlen : (ordR zss).length = (keepN (·.2) ys ys.length).length := by rw [← unhide HORD, List.length_map]
      have hfin : IntsS w3 w.heap.size (.slice (some ⟨g, 0, none⟩) (keepN (·.2) ys ys.length).length n) (ordR zss) := by
        refine ⟨(keepN (·.2) ys ys.length).map (·.1), by rw [hlen]; exact hown3, ?_⟩
        rw [← unhide HORD]
        exact hp3.inner
      clear H2 hown3 hg3 hk3 hp3 hlen
      go_wp2
      go_ret
      exact GivesSS.mk hfin hb3

end Go.Proofs.YtoiipedomgefaaaGreatDoor


/-
  impl.MakeBasis where its list reads place by place, by its contract. (Written by wip/tools/mkmkba.py.)
-/

namespace Go.Proofs.YtoiipedomgefaaaGreatDoor
set_option maxRecDepth 100000
open Go.RowKit

set_option maxHeartbeats 1600000 in
theorem imkba_any (A : Option Addr) (n c : Nat) (zss : List (List Int)) (w : World) (hS : AtS w A n zss) (hn : n ≤ 1048576) :
    Calls Tryz.prog 42 #[.slice A n c] w (GivesSSB w (mkR zss) (mkOK zss)) := by
  have H1 := hide (conaMB_any A n c zss badB w hS hn (hide fun w1 d A1 c1 z hz hI => imb1_any A1 z.length c1 _ z w1 hI))
  obtain ⟨b, hb⟩ : ∃ b, zss.any badB = b := ⟨_, rfl⟩
  rw [hb] at H1
  cases b with
  | true =>
    have hno := mkOK_bad hb
    rw [mkR_no hno, hno]
    clear hS hb hno
    go_enter Tryz.func42, Tryz.ntmps42
    go_wp2_with fail
    refine (unhide H1).mono ?_
    rintro e w1 ⟨rfl, d1⟩
    have hI := IntsS.nil w1 w.heap.size
    clear H1
    go_wp2
    go_ret2
    exact GivesSSB.mk false hI d1
  | false =>
    have H2 := hide (fun (w' : World) (d : Below w.heap.size w w') => iorda_any A n c zss w' (hS.below d) hn)
    have HNO := hide (fun (k : Nat) (hk : k ≤ (ordR zss).length) (h : 8 < (mkK (ordR zss) k).length) => mkOK_many hk h)
    have HYES := hide (fun (h : (mkK (ordR zss) (ordR zss).length).length ≤ 8) => (⟨mkOK_good hb h, mkR_yes (mkOK_good hb h)⟩ : mkOK zss = true ∧ mkR zss = mkO zss))
    have HDEF := hide (show mkO zss = mkK (ordR zss) (ordR zss).length from rfl)
    have HPP := hide (fun (j : Nat) (z : List Int) (hz : (ordR zss)[j]? = some z) => ordR_mem (List.mem_of_getElem? hz))
    have HPM := hide (fun (k : Nat) (hk : k ≤ (ordR zss).length) (x : List Int) (hx : x ∈ mkK (ordR zss) k) => ordR_mem (mkK_mem k hk x hx))
    obtain ⟨Z, hZ⟩ : ∃ Z, Z = ordR zss := ⟨_, rfl⟩
    rw [← hZ] at H2 HNO HYES HDEF HPP HPM
    obtain ⟨N, hN⟩ : ∃ N, N = Z.length := ⟨_, rfl⟩
    have hN1 : N ≤ 1048576 := by rw [hN, hZ]; have h1 := ordR_len zss; have h2 := hS.1; omega
    have HN := hide hN
    clear hS hb hZ hN
    go_enter Tryz.func42, Tryz.ntmps42
    go_wp2_with fail
    refine (unhide H1).mono ?_
    rintro e w1 ⟨rfl, d1⟩
    have hst := ownS0 w1 w.heap.size d1.size
    have hbel := d1.alloc d1.size (.cells #[] 36)
    have H3 := hide (unhide H2 _ hbel)
    clear H1 H2 d1
    go_wp2_with fail
    refine (unhide H3).mono ?_
    rintro e w3 ⟨A3, c3, rfl, o3, d3⟩
    have hb3 := below_after hbel d3
    obtain ⟨vs, us0, hsib⟩ := Sib.start hst d3 o3 hbel.size
    obtain ⟨C, hC⟩ : ∃ C, C = (w1.alloc (.cells #[] 36)).heap.size := ⟨_, rfl⟩
    rw [← hC] at hsib
    rw [← unhide HN] at hsib ⊢
    clear hC H3 hst o3 d3 hbel
    go_wp2
    go_loopw [4, 6, 13] (fun ov _ i wr => ∃ (j : Nat) (us : List Value), j ≤ N ∧ i = .int .i64 j ∧ Below w.heap.size w wr ∧ Sib wr w.heap.size C (.slice A3 N c3) vs Z ov us (mkK Z j) j ∧ Hid ((mkK Z j).length ≤ 8)) (fun _ _ i _ => N - (intOf i).toNat)
    case atStart => exact ⟨0, us0, Nat.zero_le _, rfl, hb3, hsib, by exact (by simp [mkK] : (mkK Z 0).length ≤ 8)⟩
    case round =>
      obtain ⟨j, us, hj, rfl, hb, hs, h8⟩ := hrel
      clear hsib hb3
      by_cases hlt : j < N
      · obtain ⟨ad, A6, c6, z, rfl, hz, hvz, hcell, hI⟩ := hs.row rfl hlt
        have hzp := unhide HPP j z hz
        have hso := hs.outS
        obtain ⟨Ao, co, hov⟩ := hso.slice
        subst hov
        have h8' : (mkK Z j).length ≤ 8 := h8
        have H4 := hide (ihs_any A6 Ao z.length c6 _ _ co _ z (mkK Z j) wr (hI.argP hzp) hso hzp (unhide HPM j (by rw [← unhide HN]; omega)) (by omega))
        obtain ⟨b, hbb⟩ : ∃ b, avo (mkK Z j) z = b := ⟨_, rfl⟩
        rw [hbb] at H4
        have HZ := hide (⟨hz, hvz⟩ : _ ∧ _)
        have HS := hide hs
        have HB := hide hb
        have hcl := World.block_lt_of_cell? wr _ hcell
        obtain ⟨lz, hlz⟩ : ∃ l, l = z.length := ⟨_, rfl⟩
        obtain ⟨U, hU⟩ : ∃ U, U = mkK Z j := ⟨_, rfl⟩
        rw [← hU] at h8' H4 HS
        obtain ⟨nu, hnu⟩ : ∃ l, l = U.length := ⟨_, rfl⟩
        rw [← hnu] at h8' H4 HS
        have HNU := hide hnu
        have HU := hide hU
        rw [← hlz] at hcell H4 HZ
        rw [← hU, ← hnu]
        clear hz hvz hzp hI hs hb hso hlz hU hnu h8
        cases b with
        | false =>
          have HE := hide (mkK_no (unhide HZ).1 hbb)
          clear hbb
          go_wp2_with fail
          refine (unhide H4).mono ?_
          rintro e w4 ⟨rfl, d4⟩
          have hb4 := below_after (unhide HB) d4
          have hs4 := ((unhide HS).below d4).skip
          clear H4 HB HS d4 hcell hcl
          rw [unhide HU, ← unhide HE] at hs4
          have H8 := hide (show (mkK Z (j + 1)).length ≤ 8 by rw [unhide HE, ← unhide HU, ← unhide HNU]; exact h8')
          have HS4 := hide hs4
          clear hs4
          go_wp2
          go_roundw
          case rel => exact ⟨j + 1, us, by omega, by go_num, hb4, unhide HS4, H8⟩
          case measure => simp [intOf]; omega
        | true =>
          have HE := hide (mkK_yes (unhide HZ).1 hbb)
          clear hbb
          go_wp2_with fail
          refine (unhide H4).mono ?_
          rintro e w4 ⟨rfl, d4⟩
          have hb4 := below_after (unhide HB) d4
          have hs4 := (unhide HS).below d4
          have hcell4 := (d4.cell hcl).trans hcell
          clear H4 HB HS d4 hcell hcl
          by_cases e8 : nu = 8
          · have hno := hide (unhide HNO (j + 1) (by rw [← unhide HN]; omega) (by rw [unhide HE, List.length_append, ← unhide HU, ← unhide HNU, e8]; simp))
            have hI := IntsS.nil w4 w.heap.size
            have e8' : ((nu : Int) == 8) = true := by rw [e8]; rfl
            clear hs4 hcell4 e8
            go_wp2
            go_ret2
            rw [mkR_no (unhide hno), unhide hno]
            exact GivesSSB.mk false hI hb4
          · have e8' : ((nu : Int) == 8) = false := by rw [beq_eq_false_iff_ne]; omega
            have hul : U.length ≤ 1048576 := by rw [← unhide HNU]; omega
            have H8 := hide (show (mkK Z (j + 1)).length ≤ 8 by rw [unhide HE, List.length_append, ← unhide HU, ← unhide HNU, List.length_singleton]; omega)
            go_wp2_with (first
              | (at_builtin; refine wpList_sift rfl (.tmp 23) (.tmp 25) rfl w.heap.size C w w4 (.slice (some ad) N c3) _ (.slice A6 lz c6) vs us Z U j z rfl rfl rfl hs4 (unhide HZ).2 (unhide HZ).1 hul hb4 (Nat.le_refl _) ?_; intro v5 w5 hs5 hb5))
            rw [unhide HU, ← unhide HE] at hs5
            clear hs4 hb4 hcell4 hul
            go_roundw
            case rel => exact ⟨j + 1, _, by omega, by go_num, hb5, hs5, H8⟩
            case measure => simp [intOf]; omega
      · obtain rfl : N = j := by omega
        have h8' : (mkK Z Z.length).length ≤ 8 := by rw [← unhide HN]; exact h8
        obtain ⟨e1, e2⟩ := unhide HYES h8'
        have hI := hs.outS
        rw [show mkK Z N = mkR zss by rw [e2, unhide HDEF, ← unhide HN]] at hI
        have HI := hide hI
        have HOK := hide e1
        clear hs h8 h8' e1 e2 hI
        go_wp2
        go_ret2
        rw [unhide HOK]
        exact GivesSSB.mk true (unhide HI) hb
end Go.Proofs.YtoiipedomgefaaaGreatDoor


/-
  slices.Grow of nil, slices.Concat of two lists of rows, by their contracts; a joined list of rows.
-/

namespace Go.Proofs.YtoiipedomgefaaaGreatDoor
set_option maxRecDepth 100000
open Go.RowKit

/-- Rows that stand somewhere, joined: read place by place. -/
theorem AtS.joined {w w' : World} {B B1 B2 n c : Nat} {A : Option Addr} {vs us : List Value} {Z U : List (List Int)} (hown : w'.ownsRow B 36 1 (.slice A n c) n (vs ++ us)) (hv : Inner w B1 vs Z) (hu : Inner w B2 us U) (hb : Below w.heap.size w w')
    (hs1 : ∀ z ∈ Z, z.length ≤ 1048576 ∧ Small z) (hs2 : ∀ z ∈ U, z.length ≤ 1048576 ∧ Small z) : AtS w' A n (Z ++ U) := by
  have h1 := hv.len
  have h2 := hu.len
  have h3 : (vs ++ us).length = n := by simpa using hown.1
  rw [List.length_append] at h3
  refine ⟨by rw [List.length_append]; omega, fun wr hb' k hk => ?_⟩
  obtain ⟨ad, u, hA, _, hku, hc⟩ := (Reads.of_own_at (own_below hown hb')).at_ hk
  have hbb := below_after hb hb'
  by_cases hlt : k < vs.length
  · rw [List.getElem?_append_left hlt] at hku
    have hz : Z[k]? = some (Z[k]'(by omega)) := List.getElem?_eq_getElem _
    generalize Z[k]'(by omega) = z at hz
    have hr := (hv.row k u z hku hz).below hbb
    obtain ⟨A', c', rfl⟩ := hr.slice
    have hs := hs1 z (List.mem_of_getElem? hz)
    exact ⟨ad, A', c', z, hA, by rw [List.getElem?_append_left (by omega)]; exact hz, hc, hr.arg hs.1 hr.cap hs.2⟩
  · rw [List.getElem?_append_right (by omega)] at hku
    have hz : U[k - vs.length]? = some (U[k - vs.length]'(by omega)) := List.getElem?_eq_getElem _
    generalize U[k - vs.length]'(by omega) = z at hz
    have hr := (hu.row _ u z hku hz).below hbb
    obtain ⟨A', c', rfl⟩ := hr.slice
    have hs := hs2 z (List.mem_of_getElem? hz)
    exact ⟨ad, A', c', z, hA, by rw [List.getElem?_append_right (by omega), ← h1]; exact hz, hc, hr.arg hs.1 hr.cap hs.2⟩
set_option maxHeartbeats 800000 in
theorem growS_any (m : Nat) (hm : m ≤ 100000) (w : World) :
    Calls Tryz.prog 88 #[.slice none 0 0, .int .i64 m] w fun e w' => ∃ A c, e = .returned (.slice A 0 c) ∧ w'.ownsRow w.heap.size 36 1 (.slice A 0 c) 0 [] ∧ Below w.heap.size w w' := by
  obtain ⟨i0, hi, hz0, hz1, hz2⟩ := info_parts rowsInfo1
  have hn0 : ¬ ((m : Int) < 0) := by omega
  by_cases h0 : m = 0
  · subst h0
    go_enter Tryz.func88, Tryz.ntmps88
    go_wp2
    go_ret
    exact ⟨none, 0, rfl, World.ownsRow_nil _ _ _ _, Below.refl _ _⟩
  · have hpos : 0 < (m : Int) := by omega
    have hwr : IntKind.i64.wrap (m : Int) = (m : Int) := by rw [IntKind.wrap_i64]; omega
    have hrun := Lib.run_append_nil_zeros (P := Tryz.prog) w 24 3 24 36 i0 (.slice none 0 0) .i64 .i64 Tryz.underlying24 Tryz.underlying3 hi hz0 m (by omega) (by omega) (by omega) (by rw [hz2]; omega)
    have hge := grownCap_ge w m 0 36
    have hle := grownCap_le_maxLen w m 0 36 (by unfold maxLen; omega)
    obtain ⟨C, hC⟩ : ∃ C, C = grownCap w m 0 36 := ⟨_, rfl⟩
    rw [← hC] at hrun hge hle
    obtain ⟨cur, hcur⟩ : ∃ cur, cur = Builtin.zeroCells (Value.slice none 0 0).cells m ++ Builtin.zeroCells (Value.slice none 0 0).cells (C - m) := ⟨_, rfl⟩
    have hcs : cur.size = C := by
      rw [hcur, Array.size_append, size_zeroCells, size_zeroCells]
      simp [Value.cells]
      omega
    rw [← hcur] at hrun
    obtain ⟨w3, hw3⟩ : ∃ w3, w3 = w.drew.alloc (.cells cur 36) := ⟨_, rfl⟩
    rw [← hw3] at hrun
    have hown : w3.ownsRow w.heap.size 36 1 (.slice (some ⟨w.heap.size, 0, none⟩) 0 C) 0 [] :=
      ⟨rfl, .inr ⟨w.heap.size, C, cur, rfl, Nat.le_refl _, by rw [hw3]; exact heap_alloc_new w.drew _, Nat.zero_le _, hle, by omega, by simp⟩⟩
    have hb : Below w.heap.size w w3 := by rw [hw3]; exact (below_drew _ w).alloc (Nat.le_refl _) _
    have h0C : (0 : Int) ≤ (C : Int) := by omega
    clear hw3 hC hcur
    go_enter Tryz.func88, Tryz.ntmps88
    go_wp2_with (first
      | (at_builtin; refine Lib.wpList_append_run _ rfl _ _ _ _ rfl _ _ rfl rfl _ _ hrun ?_))
    go_ret
    exact ⟨some ⟨w.heap.size, 0, none⟩, C, rfl, hown, hb⟩
/-- The rows of a list of rows, as an append reads them. -/
def RowsOf (B : Nat) (w : World) (A : Option Addr) (n c : Nat) (vs : List Value) : Prop := w.ownsRow B 36 1 (.slice A n c) n vs ∧ ∀ u ∈ vs, u.oneCell' = true
theorem RowsOf.below {B n c : Nat} {w w' : World} {A : Option Addr} {vs : List Value} (h : RowsOf B w A n c vs) (hb : Below w.heap.size w w') : RowsOf B w' A n c vs := ⟨own_below h.1 hb, h.2⟩
theorem Inner.one {w : World} {B : Nat} {vs : List Value} {Z : List (List Int)} (h : Inner w B vs Z) : ∀ u ∈ vs, u.oneCell' = true := fun u hu => by
  obtain ⟨z, hz⟩ := h.mem hu
  obtain ⟨A, c, rfl⟩ := hz.slice
  rfl
set_option maxHeartbeats 1600000 in
theorem concatS_any (gs : Nat) (A1 A2 : Option Addr) (n1 c1 B1 n2 c2 B2 : Nat) (vs us : List Value) (w : World) (hc0 : w.cell? ⟨gs, 0, none⟩ = some (.slice A1 n1 c1)) (hc1 : w.cell? ⟨gs, 1, none⟩ = some (.slice A2 n2 c2))
    (h1 : RowsOf B1 w A1 n1 c1 vs) (h2 : RowsOf B2 w A2 n2 c2 us) (hn1 : n1 ≤ 10000) (hn2 : n2 ≤ 10000) :
    Calls Tryz.prog 43 #[.slice (some ⟨gs, 0, none⟩) 2 2] w fun e w' => ∃ A c, e = .returned (.slice A (n1 + n2) c) ∧ w'.ownsRow w.heap.size 36 1 (.slice A (n1 + n2) c) (n1 + n2) (vs ++ us) ∧ Below w.heap.size w w' := by
  have hw1 : IntKind.i64.wrap ((0 : Int) + (n1 : Int)) = (n1 : Int) := by rw [IntKind.wrap_i64]; omega
  have hw1' : IntKind.i64.wrap (n1 : Int) = (n1 : Int) := by rw [IntKind.wrap_i64]; omega
  have hw2 : IntKind.i64.wrap ((n1 : Int) + (n2 : Int)) = (n1 : Int) + (n2 : Int) := by rw [IntKind.wrap_i64]; omega
  have hp1 : ¬ ((n1 : Int) < 0) := by omega
  have hp2 : ¬ ((n1 : Int) + (n2 : Int) < 0) := by omega
  have HG := hide (show ∀ w', Calls Tryz.prog 88 #[.slice none 0 0, .int .i64 ((n1 : Int) + (n2 : Int))] w' _ from fun w' => by
    have := growS_any (n1 + n2) (by omega) w'
    rw [Int.natCast_add] at this
    exact this)
  have hl1 := World.block_lt_of_cell? w _ hc0
  have HA := hide (⟨h1, h2⟩ : RowsOf B1 w A1 n1 c1 vs ∧ RowsOf B2 w A2 n2 c2 us)
  clear h1 h2
  go_enter Tryz.func43, Tryz.ntmps43
  go_wp2
  go_loopw [3, 5, 11] (fun s _ i wr => wr = w ∧ ((i = .int .i64 0 ∧ s = .int .i64 0) ∨ (i = .int .i64 1 ∧ s = .int .i64 n1) ∨ (i = .int .i64 2 ∧ s = .int .i64 ((n1 : Int) + (n2 : Int))))) (fun _ _ i _ => 2 - (intOf i).toNat)
  case atStart => exact ⟨rfl, .inl ⟨rfl, rfl⟩⟩
  case round =>
    obtain ⟨hwr, hcase⟩ := hrel
    replace hwr := hwr.symm
    subst hwr
    rcases hcase with ⟨rfl, rfl⟩ | ⟨rfl, rfl⟩ | ⟨rfl, rfl⟩
    · go_wp2
      go_roundw
      case rel => exact ⟨trivial, .inr (.inl ⟨rfl, rfl⟩)⟩
      case measure => simp [intOf]
    · go_wp2
      go_roundw
      case rel => exact ⟨trivial, .inr (.inr ⟨rfl, rfl⟩)⟩
      case measure => simp [intOf]
    · go_wp2_with fail
      refine (unhide HG _).mono ?_
      rintro e w1 ⟨Av, cv, rfl, hown, hb1⟩
      clear HG
      go_wp2
      go_loopw [6, 8, 27] (fun s _ i wr => Below w.heap.size w wr ∧ ((i = .int .i64 0 ∧ wr.ownsRow w.heap.size 36 1 s 0 []) ∨ (i = .int .i64 1 ∧ wr.ownsRow w.heap.size 36 1 s n1 vs) ∨ (i = .int .i64 2 ∧ wr.ownsRow w.heap.size 36 1 s (n1 + n2) (vs ++ us)))) (fun _ _ i _ => 2 - (intOf i).toNat)
      case atStart => exact ⟨hb1, .inl ⟨rfl, hown⟩⟩
      case round =>
        obtain ⟨hb, hcase⟩ := hrel
        have hd0 := (hb.cell (p := ⟨gs, 0, none⟩) hl1).trans hc0
        have hd1 := (hb.cell (p := ⟨gs, 1, none⟩) hl1).trans hc1
        have hA1 := (unhide HA).1.below hb
        have hA2 := (unhide HA).2.below hb
        have hsz := hb.size
        clear hown hb1 hc0 hc1
        rcases hcase with ⟨rfl, hown⟩ | ⟨rfl, hown⟩ | ⟨rfl, hown⟩
        · go_wp2_with (first
            | (at_builtin; refine wpList_append_rows rfl (.tmp 31) (.tmp 32) rfl w.heap.size _ 0 n1 c1 w _ A1 [] vs rfl rfl hown (Reads.of_own_at hA1.1) (own_nil hA1.1) hA1.2 (by omega) (by omega) hb hsz ?_; intro v' w' hown2 hb2 hg2 _))
          go_roundw
          case rel => exact ⟨hb2, .inr (.inl ⟨rfl, by rw [Nat.zero_add, List.nil_append] at hown2; exact hown2⟩)⟩
          case measure => simp [intOf]
        · go_wp2_with (first
            | (at_builtin; refine wpList_append_rows rfl (.tmp 31) (.tmp 32) rfl w.heap.size _ n1 n2 c2 w _ A2 vs us rfl rfl hown (Reads.of_own_at hA2.1) (own_nil hA2.1) hA2.2 (by omega) (by omega) hb hsz ?_; intro v' w' hown2 hb2 hg2 _))
          go_roundw
          case rel => exact ⟨hb2, .inr (.inr ⟨rfl, hown2⟩)⟩
          case measure => simp [intOf]
        · obtain ⟨A9, c9, rfl, _⟩ := Reads.of_own hown
          clear hA1 hA2
          go_wp2
          go_ret
          exact ⟨A9, c9, rfl, hown, hb⟩
end Go.Proofs.YtoiipedomgefaaaGreatDoor


/-
  impl.ReversePerm, by its contract.
-/

namespace Go.Proofs.YtoiipedomgefaaaGreatDoor
set_option maxRecDepth 100000
open Go.RowKit

/-- A row on which other numbers have been laid. -/
theorem Ints.laid {w : World} {B g n cap : Nat} {zs : List Int} (h : Ints w B (.slice (some ⟨g, 0, none⟩) n cap) zs) (ts : List Int) (hl : ts.length = zs.length) (k : Nat) :
    Ints (Sort.putRow (Value.int .i64) (Sort.ahead w k) g 0 ts.toArray) B (.slice (some ⟨g, 0, none⟩) n cap) ts ∧ w.grownBy (Sort.putRow (Value.int .i64) (Sort.ahead w k) g 0 ts.toArray) (some g) := by
  have hg := grownBy_sortedI (w := w) (g := g) (n := k) (os := #[]) ts.toArray
  rw [Sort.grow_empty] at hg
  refine ⟨?_, hg⟩
  have hn := h.len
  rcases h.2 with ⟨hv, _⟩ | ⟨g', cap', cur, e, hv, hb, hgg, hs, ht, he⟩
  · cases hv
  · injection hv with h1 h2 h3
    injection h1 with h1
    injection h1 with h1
    subst h1; subst h3
    have hh := heap_sortedI (w := w) (g := g) (n := k) (os := #[]) ts.toArray hgg
    rw [Sort.grow_empty] at hh
    refine ⟨by rw [i64_length], .inr ⟨g, cap, _, e, by rw [hl, ← hn], hb, hh, ⟨by omega, by unfold Sort.putCells; rw [Array.size_mapIdx]; omega⟩, ?_, he⟩⟩
    exact take_putCellsI cur ts (by omega)
theorem Ints.holds {w : World} {B g n cap : Nat} {zs : List Int} (h : Ints w B (.slice (some ⟨g, 0, none⟩) n cap) zs) : Sort.Holds (Value.int .i64) w g 0 zs.toArray := by
  rcases h.2 with ⟨hv, _⟩ | ⟨g', cap', cur, e, hv, hb, hgg, hs, ht, he⟩
  · cases hv
  · injection hv with h1 h2 h3
    injection h1 with h1
    injection h1 with h1
    subst h1
    exact holds_of_blockI hgg ht
set_option maxHeartbeats 400000 in
theorem irev_any (A : Option Addr) (n c B : Nat) (zs : List Int) (w : World) (h : Arg w B A n c zs) :
    Calls Tryz.prog 115 #[.slice A n c] w (GivesI w (revR zs)) := by
  obtain ⟨b, hb⟩ : ∃ b, isP zs = b := ⟨_, rfl⟩
  have H1 := hide (iisperm_any A n c B zs b hb w h.reads h.under h.le h.small)
  cases b with
  | false =>
    rw [revR_no hb]
    clear hb h
    go_enter Tryz.func115, Tryz.ntmps115
    go_wp2_with fail
    refine (unhide H1).mono ?_
    rintro e w1 ⟨rfl, hb⟩
    clear H1
    go_wp2
    go_ret
    exact GivesI.mk (v := .slice none 0 0) (Ints.nil _ _) hb
  | true =>
    rw [revR_yes hb]
    have h8 := isP_le hb
    have H2 := hide (fun w' (hb' : Below w.heap.size w w') => clone_any A n c B zs w' (h.below hb'))
    clear hb h
    go_enter Tryz.func115, Tryz.ntmps115
    go_wp2_with fail
    refine (unhide H1).mono ?_
    rintro e w1 ⟨rfl, hb⟩
    have H3 := hide (unhide H2 w1 hb)
    clear H1 H2
    go_wp2_with fail
    refine (unhide H3).mono ?_
    rintro e w2 ⟨A2, c2, rfl, own2, hb2⟩
    have hs := hb.size
    have hb3 := below_after hb hb2
    clear H3 hb hb2
    have own2 := own2.low hs
    rcases own2.2 with ⟨hv, h0⟩ | ⟨g, cap, cur, e, hv, hg, _⟩
    · injection hv with e1 e2 e3
      subst e1; subst e3
      obtain rfl := List.eq_nil_of_length_eq_zero h0
      have H4 := hide (Tryz.slices_Reverse_int_empty none 0 w2)
      clear h0 own2
      go_wp2_with fail
      refine (unhide H4).mono ?_
      rintro e w3 ⟨rfl, hw3⟩
      rw [hw3]
      clear hw3 H4
      go_wp2
      go_ret
      exact GivesI.mk (v := .slice none 0 0) (Ints.nil _ _) hb3
    · injection hv with e1 e2 e3
      subst e1; subst e3
      have H4 := hide (Tryz.slices_Reverse_int g 0 c2 zs w2 own2.holds (by omega))
      have L := hide (fun k => own2.laid zs.reverse (by rw [List.length_reverse]) k)
      have hB := hb3.size
      have hgs := own2.since
      clear own2
      go_wp2_with fail
      refine (unhide H4).mono ?_
      rintro e w3 ⟨rfl, k, hw3⟩
      obtain ⟨l1, l2⟩ := unhide L k
      rw [← hw3] at l1 l2
      have hb4 := hb3.grown l2 hB (fun q hq => hgs q (by rw [← hq]; rfl))
      clear hw3 H4 L hb3
      go_wp2
      go_ret
      exact GivesI.mk l1 hb4
end Go.Proofs.YtoiipedomgefaaaGreatDoor


/-
  cmp.isNaN, cmp.Less, slices.IsSorted, impl.isDescending, by their contracts.
-/

namespace Go.Proofs.YtoiipedomgefaaaGreatDoor
set_option maxRecDepth 100000
open Go.RowKit

theorem isP_upTo {n : Nat} (h : n ≤ 8) : isP (upTo n) = true := isP_true.2 ⟨by rw [upTo_length]; exact h, fun x hx => by rw [upTo_length]; exact mem_upTo.1 hx, upTo_nodup n⟩
theorem idR_nat {n : Nat} (h : n ≤ 8) : idR (n : Int) = upTo n := by
  by_cases h1 : 1 ≤ n
  · rw [idR_yes (by omega) (by omega)]; congr 1
  · obtain rfl : n = 0 := by omega
    rfl
theorem nanS_any (a : Int) (w : World) : Calls Tryz.prog 140 #[.int .i64 a] w fun e w' => e = .returned (.bool false) ∧ w' = w := by
  go_enter Tryz.func140, Tryz.ntmps140
  go_wp2
  go_ret
  exact ⟨rfl, rfl⟩
theorem lessS_any (a b : Int) (w : World) : Calls Tryz.prog 114 #[.int .i64 a, .int .i64 b] w fun e w' => e = .returned (.bool (decide (a < b))) ∧ w' = w := by
  go_enter Tryz.func114, Tryz.ntmps114
  go_wp2_with fail
  refine (nanS_any _ _).mono ?_
  rintro e w1 ⟨rfl, rfl⟩
  go_wp2
  go_ret
  exact ⟨rfl, rfl⟩
/-- The places that slices.IsSorted looks at, from the end down to k. -/
def ascFrom (l : List Int) (k : Nat) : Prop := ∀ i, k ≤ i → i + 1 < l.length → at0 l i ≤ at0 l (i + 1)
def ascB (l : List Int) : Bool := decide (∀ i, i < l.length → i + 1 < l.length → at0 l i ≤ at0 l (i + 1))
theorem ascB_yes {l : List Int} (h : ascFrom l 0) : ascB l = true := by unfold ascB; rw [decide_eq_true_iff]; exact fun i _ h2 => h i (Nat.zero_le _) h2
theorem ascB_no {l : List Int} {i : Nat} (h : i + 1 < l.length) (h2 : at0 l (i + 1) < at0 l i) : ascB l = false := by
  unfold ascB; rw [decide_eq_false_iff_not]
  intro h3
  have := h3 i (by omega) h
  omega
theorem ascB_upTo {l : List Int} (h : isP l = true) : ascB l = decide (l = upTo l.length) := by
  by_cases e : l = upTo l.length
  · rw [decide_eq_true e]
    refine ascB_yes fun i _ hi => ?_
    have h1 : ∀ j, j < l.length → at0 l j = (j : Int) + 1 := fun j hj => by
      refine at0_of ?_
      rw [e]
      unfold upTo
      rw [List.getElem?_map, List.getElem?_range hj]
      rfl
    rw [h1 i (by omega), h1 (i + 1) hi]
    omega
  · rw [decide_eq_false e]
    unfold ascB; rw [decide_eq_false_iff_not]
    exact fun h3 => e (asc_upTo h fun i hi => h3 i (by omega) hi)

set_option maxHeartbeats 400000 in
theorem sorted_any (A : Option Addr) (n c B : Nat) (zs : List Int) (w : World) (h : Arg w B A n c zs) :
    Calls Tryz.prog 66 #[.slice A n c] w fun e w' => e = .returned (.bool (ascB zs)) ∧ Drew w w' := by
  have hl := h.len
  have hr := h.reads
  have hn := h.le
  have HL := hide hl
  clear h hl
  go_enter Tryz.func66, Tryz.ntmps66
  go_wp2
  go_loopw [3] (fun i wr => ∃ k : Nat, (k ≤ n) ∧ i = .int .i64 ((k : Int) - 1) ∧ Drew w wr ∧ Hid (ascFrom zs (k - 1))) (fun i _ => (intOf i).toNat)
  case atStart => exact ⟨n, Nat.le_refl _, rfl, Drew.refl _, fun i h1 h2 => by have := unhide HL; omega⟩
  case round =>
    obtain ⟨k, hk, rfl, hd, hs⟩ := hrel
    by_cases hk1 : 1 < k
    · obtain ⟨k, rfl⟩ : ∃ k', k = k' + 2 := ⟨k - 2, by omega⟩
      obtain ⟨ad, u, rfl, _, hu, hc⟩ := (hr.ofDrew hd).at_ (show k + 1 < n by omega)
      obtain ⟨x, hx, rfl⟩ := i64_at hu
      obtain ⟨ad2, u2, he, _, hu2, hc2⟩ := (hr.ofDrew hd).at_ (show k < n by omega)
      injection he with he
      subst he
      obtain ⟨y, hy, rfl⟩ := i64_at hu2
      have hax := at0_of hx
      have hay := at0_of hy
      clear hu hu2 hx hy
      have hi1 : (((k + 2 : Nat) : Int) - 1) = (k : Int) + 1 := by omega
      have q1 : IntKind.i64.wrap ((k : Int) + 1 - 1) = (k : Int) := by rw [IntKind.wrap_i64]; omega
      have q2 : IntKind.i64.wrap (k : Int) = (k : Int) := by rw [IntKind.wrap_i64]; omega
      have hbd0 : (0 : Int) ≤ (k : Int) + 1 := by omega
      have hbd1 : (k : Int) + 1 < (n : Int) := by omega
      have hbd2 : (k : Int) < (n : Int) := by omega
      have hadd : ad.add (k + 1) = ⟨ad.block, ad.off + (k + 1), none⟩ := by unfold Addr.add; rw [if_neg (by omega)]
      rw [hadd] at hc
      clear hadd
      rw [hi1]
      have HD := hide hd
      have HS := hide hs
      clear hi1 hd hs hr
      by_cases hlt : x < y
      · have hno := hide (ascB_no (l := zs) (i := k) (by rw [unhide HL]; omega) (by rw [hax, hay]; exact hlt))
        clear hax hay
        go_wp2
        go_quiet ((go_at_call 114; exact Calls.quiet_of_same (lessS_any _ _ _)))
        go_wp2
        go_ret
        rw [unhide hno]
        exact ⟨rfl, (unhide HD).more _⟩
      · have hnext : Hid (ascFrom zs (k + 1 - 1)) := hide (fun i h1 h2 => by
          by_cases hik : i = k
          · subst hik; rw [hax, hay]; omega
          · exact unhide HS i (by omega) h2)
        clear hax hay
        go_wp2
        go_quiet ((go_at_call 114; exact Calls.quiet_of_same (lessS_any _ _ _)))
        go_wp2
        go_roundw
        case rel => exact ⟨k + 1, by omega, by go_num, (unhide HD).more _, hnext⟩
        case measure => simp [intOf]
    · have hyes := hide (ascB_yes (l := zs) (fun i _ h2 => unhide hs i (by omega) h2))
      go_wp2
      go_ret
      rw [unhide hyes]
      exact ⟨rfl, hd⟩

set_option maxHeartbeats 800000 in
theorem idesc_any (A : Option Addr) (n c B : Nat) (z : List Int) (w : World) (h : Arg w B A n c z) (hz : isP z = true) :
    Calls Tryz.prog 67 #[.slice A n c] w (GivesB w (decide (z.reverse = upTo z.length))) := by
  have hrP := isP_rev hz
  have H4 := hide (irev_any A n c B z w h)
  rw [revR_yes hz] at H4
  have H5 := hide (fun (A : Option Addr) (c B : Nat) (w' : World) (h : Arg w' B A z.reverse.length c z.reverse) => sorted_any A z.reverse.length c B z.reverse w' h)
  rw [ascB_upTo hrP, List.length_reverse] at H5
  have HRP := hide hrP
  obtain ⟨b, hb⟩ : ∃ b, decide (z.reverse = upTo z.length) = b := ⟨_, rfl⟩
  rw [hb] at H5 ⊢
  clear h hz hrP hb
  go_enter Tryz.func67, Tryz.ntmps67
  go_wp2_with fail
  refine (unhide H4).mono ?_
  rintro e w3 ⟨A3, c3, rfl, own3, hb3⟩
  rw [List.length_reverse] at own3 ⊢
  have H6 := hide (unhide H5 _ _ _ _ (own3.argP (unhide HRP)))
  clear H4 H5
  go_wp2_with fail
  refine (unhide H6).mono ?_
  rintro e w4 ⟨rfl, hd⟩
  have hb4 := below_after hb3 (hd.below _)
  clear H6 own3 hb3 hd
  go_wp2
  go_ret
  exact ⟨rfl, hb4⟩
end Go.Proofs.YtoiipedomgefaaaGreatDoor


/-
  impl.symmetrySteps and impl.SymmetryOf, by their contracts.
-/

namespace Go.Proofs.YtoiipedomgefaaaGreatDoor
set_option maxRecDepth 100000
open Go.RowKit

theorem stepsInfo : (Tryz.prog.info? 91).map (·.size) = some 3 := by kernel_rfl
def steps : Array Value := #[.func (.func 132) #[] #[], .func (.func 115) #[] #[], .func (.func 133) #[] #[]]
theorem steps_one : steps.all (·.oneCell') = true := by simp [steps, Value.oneCell']
set_option maxHeartbeats 400000 in
theorem steps_any (w : World) : Calls Tryz.prog 102 #[] w fun e w' => e = .returned (.agg #[.func (.func 132) #[] #[], .func (.func 115) #[] #[], .func (.func 133) #[] #[]]) ∧ Below w.heap.size w w' := by
  have h1 := Whole.new w 91 #[.nilFunc, .nilFunc, .nilFunc]
  have hb := (Below.refl w.heap.size w).alloc (Nat.le_refl _) (.cells #[.nilFunc, .nilFunc, .nilFunc] 91)
  go_enter Tryz.func102, Tryz.ntmps102
  go_wp2_with (refine wpList_store_row rfl 91 (.tmp 0) (.tmp 1) rfl w.heap.size steps rfl rfl 91 #[.nilFunc, .nilFunc, .nilFunc] h1 stepsInfo rfl steps_one ?_)
  refine bodyPost_ret (v := .agg steps) (results_cell_row Tryz.results102 _ _ w.heap.size 91 steps (0, 0) _ rfl (setRow_heap _ _ _ _ _ _ h1) Tryz.underlying91 rfl stepsInfo) rfl ?_
  exact ⟨rfl, below_set_row hb _ _ (Nat.le_refl _)⟩

theorem index_steps : (∀ w : World, (Instr.index 91 (.agg #[.func (.func 132) #[] #[], .func (.func 115) #[] #[], .func (.func 133) #[] #[]]) (.int .i64 0)).run Tryz.prog w = .ok (.func (.func 132) #[] #[]) w) ∧
    (∀ w : World, (Instr.index 91 (.agg #[.func (.func 132) #[] #[], .func (.func 115) #[] #[], .func (.func 133) #[] #[]]) (.int .i64 1)).run Tryz.prog w = .ok (.func (.func 115) #[] #[]) w) ∧
    (∀ w : World, (Instr.index 91 (.agg #[.func (.func 132) #[] #[], .func (.func 115) #[] #[], .func (.func 133) #[] #[]]) (.int .i64 2)).run Tryz.prog w = .ok (.func (.func 133) #[] #[]) w) :=
  ⟨fun _ => by kernel_rfl, fun _ => by kernel_rfl, fun _ => by kernel_rfl⟩
theorem digs : ∀ k : Nat, k ≤ 7 → (bits .and .i64 (k : Int) 1 == 1) = decide (k % 2 = 1) ∧ (bits .and .i64 ((k : Int) / 2) 1 == 1) = decide (k / 2 % 2 = 1) ∧ (bits .and .i64 ((k : Int) / 4) 1 == 1) = decide (4 ≤ k) := by
  intro k hk
  have h : k = 0 ∨ k = 1 ∨ k = 2 ∨ k = 3 ∨ k = 4 ∨ k = 5 ∨ k = 6 ∨ k = 7 := by omega
  rcases h with rfl | rfl | rfl | rfl | rfl | rfl | rfl | rfl <;> decide +kernel
def stg (zs : List Int) (k : Nat) : Nat → List Int
  | 0 => zs
  | 1 => sym1 zs k
  | 2 => sym2 zs k
  | _ => symL zs k
theorem stg_isP {zs : List Int} (h : isP zs = true) (k : Nat) : ∀ j, isP (stg zs k j) = true
  | 0 => h
  | 1 => sym1_isP h k
  | 2 => sym2_isP h k
  | _ + 3 => symL_isP h k
set_option maxHeartbeats 800000 in
theorem isym_yes (A : Option Addr) (n c B : Nat) (zs : List Int) (k : Nat) (hk : k ≤ 7) (w : World) (h : Arg w B A n c zs) (hp : isP zs = true) :
    Calls Tryz.prog 54 #[.slice A n c, .int .i64 (k : Int)] w (GivesIB w (symL zs k) true) := by
  have H1 := hide (iisperm_any A n c B zs true hp w h.reads h.under h.le h.small)
  have H2 := hide (fun w' (hb' : Below w.heap.size w w') => clone_any A n c B zs w' (h.below hb'))
  have hl := hide h.len
  clear h
  go_enter Tryz.func54, Tryz.ntmps54
  go_wp2_with fail
  refine (unhide H1).mono ?_
  rintro e w1 ⟨rfl, hb⟩
  have H3 := hide (unhide H2 w1 hb)
  clear H1 H2
  go_wp2_with fail
  refine (unhide H3).mono ?_
  rintro e w2 ⟨A2, c2, rfl, o2, d⟩
  have cur := o2.low hb.size
  have hb2 := below_after hb d
  have H4 := hide (steps_any w2)
  clear H3 hb d o2
  go_wp2_with fail
  refine (unhide H4).mono ?_
  rintro e w3 ⟨rfl, d⟩
  have cur := cur.kept (grown_of_below d none) (by cases hv : (Value.slice A2 zs.length c2).ownBlock <;> simp)
  have hb := below_after hb2 d
  clear H4 hb2 d
  go_wp2
  go_loopw [6, 7, 8, 23] (fun v _ _ i wr => ∃ j : Nat, j ≤ 3 ∧ i = .int .i64 j ∧ Below w.heap.size w wr ∧ Ints wr w.heap.size v (stg zs k j)) (fun _ _ _ i _ => 3 - (intOf i).toNat)
  case atStart => exact ⟨0, Nat.zero_le _, rfl, hb, cur⟩
  case round =>
    obtain ⟨j, hj, rfl, hbw, hI⟩ := hrel
    clear cur hb
    obtain ⟨A4, c4, rfl⟩ := hI.slice
    have hP := stg_isP hp k j
    match j, hj with
    | 0, _ =>
      have i0 := index_steps.1
      have hd := (digs k hk).1
      cases hq : decide (k % 2 = 1) with
      | true =>
        rw [hq] at hd
        have hs : stg zs k 1 = invFill (stg zs k 0) (stg zs k 0).length := by
          show sym1 zs k = _
          unfold sym1
          rw [if_pos (of_decide_eq_true hq)]
          rfl
        have H := hide (invof_any _ _ _ _ _ _ (hI.argP hP))
        rw [invR_yes hP] at H
        rw [← hs] at H
        have hsz := hbw.size
        clear hI hq hs
        go_wp2_with fail
        refine (unhide H).mono ?_
        rintro e w5 ⟨A5, c5, rfl, o5, d5⟩
        have hI5 := o5.low hsz
        have hb5 := below_after hbw d5
        clear H o5 d5 hbw hsz
        go_wp2
        go_roundw
        case rel => exact ⟨1, by omega, rfl, hb5, hI5⟩
        case measure => simp [intOf]
      | false =>
        rw [hq] at hd
        have hs : stg zs k 1 = stg zs k 0 := by
          show sym1 zs k = _
          unfold sym1
          rw [if_neg (of_decide_eq_false hq)]
          rfl
        have hI5 : Ints wr w.heap.size (.slice A4 (stg zs k 0).length c4) (stg zs k 1) := by rw [hs]; exact hI
        clear hI hq hs
        go_wp2
        go_roundw
        case rel => exact ⟨1, by omega, rfl, hbw, hI5⟩
        case measure => simp [intOf]
    | 1, _ =>
      have i0 := index_steps.2.1
      have hd := (digs k hk).2.1
      cases hq : decide (k / 2 % 2 = 1) with
      | true =>
        rw [hq] at hd
        have hs : stg zs k 2 = (stg zs k 1).reverse := by
          show sym2 zs k = _
          unfold sym2
          rw [if_pos (of_decide_eq_true hq)]
          rfl
        have H := hide (irev_any _ _ _ _ _ _ (hI.argP hP))
        rw [revR_yes hP] at H
        rw [← hs] at H
        have hsz := hbw.size
        clear hI hq hs
        go_wp2_with fail
        refine (unhide H).mono ?_
        rintro e w5 ⟨A5, c5, rfl, o5, d5⟩
        have hI5 := o5.low hsz
        have hb5 := below_after hbw d5
        clear H o5 d5 hbw hsz
        go_wp2
        go_roundw
        case rel => exact ⟨2, by omega, rfl, hb5, hI5⟩
        case measure => simp [intOf]
      | false =>
        rw [hq] at hd
        have hs : stg zs k 2 = stg zs k 1 := by
          show sym2 zs k = _
          unfold sym2
          rw [if_neg (of_decide_eq_false hq)]
          rfl
        have hI5 : Ints wr w.heap.size (.slice A4 (stg zs k 1).length c4) (stg zs k 2) := by rw [hs]; exact hI
        clear hI hq hs
        go_wp2
        go_roundw
        case rel => exact ⟨2, by omega, rfl, hbw, hI5⟩
        case measure => simp [intOf]
    | 2, _ =>
      have i0 := index_steps.2.2
      have hd := (digs k hk).2.2
      cases hq : decide (4 ≤ k) with
      | true =>
        rw [hq] at hd
        have hs : stg zs k 3 = cplL (stg zs k 2) := by
          show symL zs k = _
          unfold symL
          rw [if_pos (of_decide_eq_true hq)]
          rfl
        have H := hide (icpl_any _ _ _ _ _ _ (hI.argP hP))
        rw [cplR_yes hP] at H
        rw [← hs] at H
        have hsz := hbw.size
        clear hI hq hs
        go_wp2_with fail
        refine (unhide H).mono ?_
        rintro e w5 ⟨A5, c5, rfl, o5, d5⟩
        have hI5 := o5.low hsz
        have hb5 := below_after hbw d5
        clear H o5 d5 hbw hsz
        go_wp2
        go_roundw
        case rel => exact ⟨3, by omega, rfl, hb5, hI5⟩
        case measure => simp [intOf]
      | false =>
        rw [hq] at hd
        have hs : stg zs k 3 = stg zs k 2 := by
          show symL zs k = _
          unfold symL
          rw [if_neg (of_decide_eq_false hq)]
          rfl
        have hI5 : Ints wr w.heap.size (.slice A4 (stg zs k 2).length c4) (stg zs k 3) := by rw [hs]; exact hI
        clear hI hq hs
        go_wp2
        go_roundw
        case rel => exact ⟨3, by omega, rfl, hbw, hI5⟩
        case measure => simp [intOf]
    | 3, _ =>
      clear hP
      go_wp2
      go_ret2
      exact GivesIB.mk true hI hbw

set_option maxHeartbeats 400000 in
theorem isym_any (A : Option Addr) (n c B : Nat) (zs : List Int) (k : Int) (hk : -9223372036854775808 ≤ k ∧ k ≤ 9223372036854775807) (w : World) (h : Arg w B A n c zs) :
    Calls Tryz.prog 54 #[.slice A n c, .int .i64 k] w (GivesIB w (symR zs k) (symOK zs k)) := by
  obtain ⟨b, hb⟩ : ∃ b, isP zs = b := ⟨_, rfl⟩
  cases b with
  | false =>
    have H1 := hide (iisperm_any A n c B zs false hb w h.reads h.under h.le h.small)
    rw [symR_no (symOK_no1 hb), symOK_no1 hb]
    clear hb h
    go_enter Tryz.func54, Tryz.ntmps54
    go_wp2_with fail
    refine (unhide H1).mono ?_
    rintro e w1 ⟨rfl, hb⟩
    clear H1
    go_wp2
    go_ret2
    exact GivesIB.mk (v := .slice none 0 0) false (Ints.nil _ _) hb
  | true =>
    by_cases hin : 0 ≤ k ∧ k ≤ 7
    · obtain ⟨j, rfl⟩ : ∃ j : Nat, k = (j : Int) := ⟨k.toNat, by omega⟩
      rw [symR_yes (symOK_yes hb hin), symOK_yes hb hin, Int.toNat_natCast]
      exact isym_yes A n c B zs j (by omega) w h hb
    · have H1 := hide (iisperm_any A n c B zs true hb w h.reads h.under h.le h.small)
      rw [symR_no (symOK_no2 hin), symOK_no2 hin]
      obtain ⟨hk1, hk2⟩ := hk
      clear hb h
      by_cases h0 : k < 0
      · clear hin
        go_enter Tryz.func54, Tryz.ntmps54
        go_wp2_with fail
        refine (unhide H1).mono ?_
        rintro e w1 ⟨rfl, hb⟩
        clear H1
        go_wp2
        go_ret2
        exact GivesIB.mk (v := .slice none 0 0) false (Ints.nil _ _) hb
      · have h8 : 8 ≤ k := by omega
        clear hin
        go_enter Tryz.func54, Tryz.ntmps54
        go_wp2_with fail
        refine (unhide H1).mono ?_
        rintro e w1 ⟨rfl, hb⟩
        clear H1
        go_wp2
        go_ret2
        exact GivesIB.mk (v := .slice none 0 0) false (Ints.nil _ _) hb
end Go.Proofs.YtoiipedomgefaaaGreatDoor


/-
  impl's chapter 13, by its contracts (where the variable errNoBasis holds an error). (Written by wip/tools/mkmeeti.py.)
-/

namespace Go.Proofs.YtoiipedomgefaaaGreatDoor
set_option maxRecDepth 100000
open Go.RowKit

theorem basis_rows {L : List (List Int)} (h : basis L = true) : ∀ z ∈ L, z.length ≤ 1048576 ∧ Small z := fun z hz => by
  have h1 := (basis_isP h z hz).1
  exact ⟨by have := isP_le h1; omega, isP_small h1⟩
set_option maxHeartbeats 800000 in
theorem isc1_any (A : Option Addr) (n c B : Nat) (z : List Int) (w : World) (h : Arg w B A n c z) :
    Calls Tryz.prog 69 #[.slice A n c] w (GivesB w (decide (1 < (partsR z).length))) := by
  have H1 := hide (iparts_any A n c B z w h)
  obtain ⟨b, hb⟩ : ∃ b, decide (1 < (partsR z).length) = b := ⟨_, rfl⟩
  rw [hb]
  obtain ⟨l, hl⟩ : ∃ l, l = (partsR z).length := ⟨_, rfl⟩
  have HL := hide hl
  have hbl : decide ((1 : Int) < (l : Int)) = b := by rw [← hb, hl]; simp only [decide_eq_decide]; omega
  clear h hb hl
  go_enter Tryz.func69, Tryz.ntmps69
  go_wp2_with fail
  refine (unhide H1).mono ?_
  rintro e w1 ⟨A1, c1, rfl, o1, d1⟩
  rw [← unhide HL]
  clear H1 o1
  go_wp2
  go_ret
  exact ⟨by first | (rw [← hbl]; rfl) | (rw [← hbl]; simp), d1⟩
set_option maxHeartbeats 800000 in
theorem iib1_any (A A' : Option Addr) (n c B n' c' B' bx : Nat) (z : List Int) (a : List (List Int)) (w : World) (h : Arg w B A n c z) (hS : IntsS w B' (.slice A' n' c') a) (hx : w.cell? ⟨bx, 0, none⟩ = some (.slice A' n' c')) (hz : isP z = true) (ha : ∀ z ∈ a, isP z = true) (hn : n' ≤ 1048576) :
    Calls Tryz.prog 111 #[.slice A n c, .pointer (some ⟨bx, 0, none⟩)] w (GivesB w (avo a z)) := by
  have H1 := hide (ihs_any A A' n c B n' c' B' z a w h hS hz ha hn)
  obtain ⟨b, hb⟩ : ∃ b, avo a z = b := ⟨_, rfl⟩
  rw [hb] at H1 ⊢
  clear h hS hz ha hb
  cases b
  all_goals
    go_enter Tryz.func111, Tryz.ntmps111
    go_wp2_with fail
    refine (unhide H1).mono ?_
    rintro e w1 ⟨rfl, d1⟩
    clear H1
    go_wp2
    go_ret
    exact ⟨rfl, d1⟩
set_option maxHeartbeats 800000 in
theorem iib_any (A A' : Option Addr) (n c B n' c' B' : Nat) (a b : List (List Int)) (w : World) (hS : IntsS w B (.slice A n c) a) (hS' : IntsS w B' (.slice A' n' c') b) (ha : basis a = true) (hb : basis b = true) :
    Calls Tryz.prog 61 #[.slice A n c, .slice A' n' c'] w (FirstAt w (avo a) b) := by
  have hla := fun z hz => (basis_isP ha z hz).1
  have hlb := fun z hz => (basis_isP hb z hz).1
  have hn8 : n ≤ 8 := by have := basis_le ha; have := hS.len; omega
  have hn8' : n' ≤ 8 := by have := basis_le hb; have := hS'.len; omega
  have hb0 : Below w.heap.size w (w.alloc (.cells #[.slice A n c] 24)) := (Below.refl _ w).alloc (Nat.le_refl _) _
  have hc0 : Boxed (w.alloc (.cells #[.slice A n c] 24)) w.heap.size 24 (.slice A n c) := Boxed.new w _ _
  have H1 := hide (idxaIB_any w.heap.size A' n' c' b (avo a) (w.alloc (.cells #[.slice A n c] 24)) ((hS'.below hb0).atS (basis_rows hb)) (by omega) (hide fun w1 d A1 c1 z hz hI =>
    iib1_any A1 A z.length c1 _ n c B w.heap.size z a w1 hI ((hS.below hb0).below d) (boxed_later hc0 d).cell (hlb z hz) hla (by omega)))
  clear hS hS' ha hb hla hlb
  go_enter Tryz.func61, Tryz.ntmps61
  go_wp2_with fail
  refine (unhide H1).mono ?_
  rintro e w1 ⟨x, rfl, hx, d1⟩
  have d := below_after hb0 d1
  clear H1 d1 hb0 hc0
  go_wp2
  go_ret
  exact ⟨x, rfl, hx, d⟩
set_option maxHeartbeats 1600000 in
theorem imeet_any (A A' : Option Addr) (n c B n' c' B' : Nat) (a b : List (List Int)) (w : World) (hS : IntsS w B (.slice A n c) a) (hS' : IntsS w B' (.slice A' n' c') b) (hn : n ≤ 1048576) (hn' : n' ≤ 1048576) (hsm : ∀ z ∈ a, z.length ≤ 1048576 ∧ Small z) (hsm' : ∀ z ∈ b, z.length ≤ 1048576 ∧ Small z) (a0 : Addr) (hE : ErrAt a0 w) :
    Calls Tryz.prog 7 #[.slice A n c, .slice A' n' c'] w (GivesSSB w (meetR a b) (meetOK a b)) := by
  have HEE := hide (fun (w2 : World) (d : Below w.heap.size w w2) => (show w2.cell? ⟨0, 0, none⟩ = some (.iface 155 (.pointer (some a0))) from hE.below d))
  have d1 := below_after ((Below.refl w.heap.size w).alloc (Nat.le_refl _) (.cells #[.slice A n c, .slice A' n' c'] 24)) (below_drew _ _)
  have HC := hide (icheck_any w.heap.size 2 [a, b] a0 _ ((ListsAt.two (t := 24) hS hn hsm hS' hn' hsm').below (below_drew _ _)) rfl (by omega) (hE.below d1))
  have hE0 := unhide HEE _ (below_drew _ w)
  have hE1 := unhide HEE _ d1
  have hE9 := unhide HEE _ (Below.refl _ w)
  clear hE
  obtain ⟨ba, hba⟩ : ∃ x, basis a = x := ⟨_, rfl⟩
  obtain ⟨bb, hbb⟩ : ∃ x, basis b = x := ⟨_, rfl⟩
  obtain ⟨ok, hok⟩ : ∃ ok, (ba && bb) = ok := ⟨_, rfl⟩
  rw [show [a, b].all basis = ok by rw [← hok, ← hba, ← hbb]; simp] at HC
  cases ok with
  | false =>
    have HR := hide (show meetOK a b = false by unfold meetOK; rw [hba, hbb, hok]; rfl)
    rw [meetR_no (unhide HR), unhide HR]
    clear hS hS' hsm hsm' hba hbb hok
    go_enter Tryz.func7, Tryz.ntmps7
    go_wp2
    go_region_held3 (fun wx => wx.cell? ⟨0, 0, none⟩ = some (.iface 155 (.pointer (some a0)))) (first | with_reducible exact hE9 | with_reducible exact hE0 | with_reducible exact hE1 | with_reducible exact hE4)
      (first
        | (go_simp; go_at_call 41; refine (unhide HC).mono ?_; rintro e w4 ⟨rfl, d4⟩; have hb4 := below_after d1 d4; have hE4 := unhide HEE w4 hb4; have H5 := hide (isSame_any a0 w4); clear HC d4)
        | (go_simp; go_at_call 40; refine (unhide H5).mono ?_; rintro e w5 ⟨rfl, hw5⟩; replace hw5 := hw5.symm; subst hw5))
    go_wp2
    go_ret2
    exact GivesSSB.mk false (IntsS.nil _ _) hb4
  | true =>
    rw [Bool.and_eq_true] at hok
    rw [hok.1] at hba
    rw [hok.2] at hbb
    clear hok
    have HR := hide (meet_mk hba hbb)
    rw [(unhide HR).1, (unhide HR).2]
    have hl := hS.len
    have hl' := hS'.len
    have hn8 : n ≤ 8 := by have := basis_le hba; omega
    have hn8' : n' ≤ 8 := by have := basis_le hbb; omega
    obtain ⟨vs, o1, i1⟩ := hS
    obtain ⟨us, o2, i2⟩ := hS'
    rw [hl] at o1
    rw [hl'] at o2
    obtain ⟨N, hN⟩ : ∃ N, N = n + n' := ⟨_, rfl⟩
    have HN := hide hN
    have HCON := hide (fun (w4 : World) (d : Below w.heap.size w w4) => (by
      have d2 := (Below.refl w4.heap.size w4).alloc (Nat.le_refl _) (.cells #[.slice A n c, .slice A' n' c'] 24)
      have hW := Whole.new w4 24 #[.slice A n c, .slice A' n' c']
      have r1 : RowsOf B w A n c vs := ⟨o1, i1.one⟩
      have r2 : RowsOf B' w A' n' c' us := ⟨o2, i2.one⟩
      have h := concatS_any w4.heap.size A A' n c B n' c' B' vs us _ (hW.cell 0) (hW.cell 1) ((r1.below d).below d2) ((r2.below d).below d2) (by omega) (by omega)
      rw [← hN] at h
      exact h : Calls Tryz.prog 43 #[.slice (some ⟨w4.heap.size, 0, none⟩) 2 2] (w4.alloc (.cells #[.slice A n c, .slice A' n' c'] 24)) _))
    have HMK := hide (fun (w6 : World) (d : Below w.heap.size w w6) (B6 : Nat) (A6 : Option Addr) (c6 : Nat) (o6 : w6.ownsRow B6 36 1 (.slice A6 N c6) N (vs ++ us)) => imkba_any A6 N c6 (a ++ b) w6 (AtS.joined o6 i1 i2 d (basis_rows hba) (basis_rows hbb)) (by omega))
    clear hba hbb hl hl' o1 o2 i1 i2 hsm hsm' hN
    go_enter Tryz.func7, Tryz.ntmps7
    go_wp2
    go_region_held3 (fun wx => wx.cell? ⟨0, 0, none⟩ = some (.iface 155 (.pointer (some a0)))) (first | with_reducible exact hE9 | with_reducible exact hE0 | with_reducible exact hE1 | with_reducible exact hE4)
      (first
        | (go_simp; go_at_call 41; refine (unhide HC).mono ?_; rintro e w4 ⟨rfl, d4⟩; have hb4 := below_after d1 d4; have hE4 := unhide HEE w4 hb4; have H5 := hide (isNil_any a0 w4); clear HC d4)
        | (go_simp; go_at_call 40; refine (unhide H5).mono ?_; rintro e w5 ⟨rfl, hw5⟩; replace hw5 := hw5.symm; subst hw5))
    have dal := (Below.refl w4.heap.size w4).alloc (Nat.le_refl _) (.cells #[.slice A n c, .slice A' n' c'] 24)
    have hb5 := below_after hb4 dal
    have H6 := hide (unhide HCON w4 hb4)
    clear HCON HEE hE0 hE1 hE9 hE4 H5 d1
    go_wp2_with fail
    refine (unhide H6).mono ?_
    rintro e w6 ⟨A6, c6, rfl, o6, d6⟩
    have hb6 := below_after hb5 d6
    have H7 := hide (unhide HMK w6 hb6 _ A6 c6 o6)
    clear H6 HMK o6 d6 dal hb5 hb4
    go_wp2_with fail
    refine (unhide H7).mono ?_
    rintro e w7 ⟨A7, c7, rfl, o7, d7⟩
    have HI := hide (o7.low hb6.size)
    have hb7 := below_after hb6 d7
    clear H7 o7 d7 hb6
    go_wp2
    go_ret2
    exact GivesSSB.mk _ (unhide HI) hb7
set_option maxHeartbeats 1600000 in
theorem iwith_any (A A' : Option Addr) (n c B n' c' B' : Nat) (a b : List (List Int)) (w : World) (hS : IntsS w B (.slice A n c) a) (hS' : IntsS w B' (.slice A' n' c') b) (hn : n ≤ 1048576) (hn' : n' ≤ 1048576) (hsm : ∀ z ∈ a, z.length ≤ 1048576 ∧ Small z) (hsm' : ∀ z ∈ b, z.length ≤ 1048576 ∧ Small z) (a0 : Addr) (hE : ErrAt a0 w) :
    Calls Tryz.prog 26 #[.slice A n c, .slice A' n' c'] w (GivesB w (withR a b)) := by
  have HEE := hide (fun (w2 : World) (d : Below w.heap.size w w2) => (show w2.cell? ⟨0, 0, none⟩ = some (.iface 155 (.pointer (some a0))) from hE.below d))
  have d1 := below_after ((Below.refl w.heap.size w).alloc (Nat.le_refl _) (.cells #[.slice A n c, .slice A' n' c'] 24)) (below_drew _ _)
  have HC := hide (icheck_any w.heap.size 2 [a, b] a0 _ ((ListsAt.two (t := 24) hS hn hsm hS' hn' hsm').below (below_drew _ _)) rfl (by omega) (hE.below d1))
  have hE0 := unhide HEE _ (below_drew _ w)
  have hE1 := unhide HEE _ d1
  have hE9 := unhide HEE _ (Below.refl _ w)
  clear hE
  obtain ⟨ba, hba⟩ : ∃ x, basis a = x := ⟨_, rfl⟩
  obtain ⟨bb, hbb⟩ : ∃ x, basis b = x := ⟨_, rfl⟩
  obtain ⟨ok, hok⟩ : ∃ ok, (ba && bb) = ok := ⟨_, rfl⟩
  rw [show [a, b].all basis = ok by rw [← hok, ← hba, ← hbb]; simp] at HC
  cases ok with
  | false =>
    have HR := hide (show withR a b = false by unfold withR; rw [hba, hbb, hok]; rfl)
    rw [unhide HR]
    clear hS hS' hsm hsm' hba hbb hok
    go_enter Tryz.func26, Tryz.ntmps26
    go_wp2
    go_region_held3 (fun wx => wx.cell? ⟨0, 0, none⟩ = some (.iface 155 (.pointer (some a0)))) (first | with_reducible exact hE9 | with_reducible exact hE0 | with_reducible exact hE1 | with_reducible exact hE4)
      (first
        | (go_simp; go_at_call 41; refine (unhide HC).mono ?_; rintro e w4 ⟨rfl, d4⟩; have hb4 := below_after d1 d4; have hE4 := unhide HEE w4 hb4; have H5 := hide (isSame_any a0 w4); clear HC d4)
        | (go_simp; go_at_call 40; refine (unhide H5).mono ?_; rintro e w5 ⟨rfl, hw5⟩; replace hw5 := hw5.symm; subst hw5))
    go_wp2
    go_ret
    exact ⟨rfl, hb4⟩
  | true =>
    rw [Bool.and_eq_true] at hok
    rw [hok.1] at hba
    rw [hok.2] at hbb
    clear hok
    have HIB := hide (fun (w4 : World) (d : Below w.heap.size w w4) => iib_any A A' n c B n' c' B' a b w4 (hS.below d) (hS'.below d) hba hbb)
    have HYES := hide (fun (h : ∀ q ∈ b, avo a q = false) => (show withR a b = true by rw [with_end h, hba, hbb]; rfl))
    have HNO := hide (fun (q : List Int) (hq : q ∈ b) (h : avo a q = true) => with_no3 hq h)
    clear hS hS' hba hbb hsm hsm'
    go_enter Tryz.func26, Tryz.ntmps26
    go_wp2
    go_region_held3 (fun wx => wx.cell? ⟨0, 0, none⟩ = some (.iface 155 (.pointer (some a0)))) (first | with_reducible exact hE9 | with_reducible exact hE0 | with_reducible exact hE1 | with_reducible exact hE4)
      (first
        | (go_simp; go_at_call 41; refine (unhide HC).mono ?_; rintro e w4 ⟨rfl, d4⟩; have hb4 := below_after d1 d4; have hE4 := unhide HEE w4 hb4; have H5 := hide (isNil_any a0 w4); clear HC d4)
        | (go_simp; go_at_call 40; refine (unhide H5).mono ?_; rintro e w5 ⟨rfl, hw5⟩; replace hw5 := hw5.symm; subst hw5))
    have H6 := hide (unhide HIB w4 hb4)
    clear HIB HEE hE0 hE1 hE9 hE4 H5 d1
    go_wp2_with fail
    refine (unhide H6).mono ?_
    rintro e w6 ⟨x, rfl, hx, d6⟩
    have hb6 := below_after hb4 d6
    have HX := hide (show decide (x < 0) = withR a b by
      rcases hx with ⟨rfl, h⟩ | ⟨k, z, rfl, hz, hf, _⟩
      · rw [unhide HYES h]; rfl
      · rw [unhide HNO z (List.mem_of_getElem? hz) hf, decide_eq_false (by omega)])
    clear H6 hx d6 hb4
    go_wp2
    go_ret
    exact ⟨by rw [← unhide HX]; rfl, hb6⟩
set_option maxHeartbeats 1600000 in
theorem isumc_any (A : Option Addr) (n c B : Nat) (a : List (List Int)) (w : World) (hS : IntsS w B (.slice A n c) a) (hn : n ≤ 1048576) (hsm : ∀ z ∈ a, z.length ≤ 1048576 ∧ Small z) (a0 : Addr) (hE : ErrAt a0 w) :
    Calls Tryz.prog 23 #[.slice A n c] w (GivesB w (sumC a)) := by
  have HEE := hide (fun (w2 : World) (d : Below w.heap.size w w2) => (show w2.cell? ⟨0, 0, none⟩ = some (.iface 155 (.pointer (some a0))) from hE.below d))
  have d1 := below_after ((Below.refl w.heap.size w).alloc (Nat.le_refl _) (.cells #[.slice A n c] 24)) (below_drew _ _)
  have HC := hide (icheck_any w.heap.size 1 [a] a0 _ ((ListsAt.one (t := 24) hS hn hsm).below (below_drew _ _)) rfl (by omega) (hE.below d1))
  have hE0 := unhide HEE _ (below_drew _ w)
  have hE1 := unhide HEE _ d1
  have hE9 := unhide HEE _ (Below.refl _ w)
  clear hE
  obtain ⟨ba, hba⟩ : ∃ x, basis a = x := ⟨_, rfl⟩
  rw [show [a].all basis = ba by rw [← hba]; simp] at HC
  cases ba with
  | false =>
    have HR := hide (show sumC a = false by unfold sumC; rw [hba]; rfl)
    rw [unhide HR]
    clear hS hsm hba
    go_enter Tryz.func23, Tryz.ntmps23
    go_wp2
    go_region_held3 (fun wx => wx.cell? ⟨0, 0, none⟩ = some (.iface 155 (.pointer (some a0)))) (first | with_reducible exact hE9 | with_reducible exact hE0 | with_reducible exact hE1 | with_reducible exact hE4)
      (first
        | (go_simp; go_at_call 41; refine (unhide HC).mono ?_; rintro e w4 ⟨rfl, d4⟩; have hb4 := below_after d1 d4; have hE4 := unhide HEE w4 hb4; have H5 := hide (isSame_any a0 w4); clear HC d4)
        | (go_simp; go_at_call 40; refine (unhide H5).mono ?_; rintro e w5 ⟨rfl, hw5⟩; replace hw5 := hw5.symm; subst hw5))
    go_wp2
    go_ret
    exact ⟨rfl, hb4⟩
  | true =>
    have hn8 : n ≤ 8 := by have := basis_le hba; have := hS.len; omega
    have HSC := hide (fun (w4 : World) (d : Below w.heap.size w w4) => conaSC_any A n c a (fun z => decide (1 < (partsR z).length)) w4 ((hS.below d).atS (basis_rows hba)) (by omega) (hide fun w1 _ A1 c1 z _ hI => isc1_any A1 z.length c1 _ z w1 hI))
    obtain ⟨b, hb⟩ : ∃ b, (a.any fun z => decide (1 < (partsR z).length)) = b := ⟨_, rfl⟩
    rw [hb] at HSC
    have HR := hide (show sumC a = !b by
      rw [← hb]
      unfold sumC
      rw [hba, Bool.true_and, List.all_eq_not_any_not]
      congr 2
      funext z
      by_cases h : 1 < (partsR z).length
      · rw [decide_eq_true h, decide_eq_false (by omega)]; rfl
      · rw [decide_eq_false h, decide_eq_true (by omega)]; rfl)
    rw [unhide HR]
    clear hS hba hsm hb
    cases b
    all_goals
      go_enter Tryz.func23, Tryz.ntmps23
      go_wp2
      go_region_held3 (fun wx => wx.cell? ⟨0, 0, none⟩ = some (.iface 155 (.pointer (some a0)))) (first | with_reducible exact hE9 | with_reducible exact hE0 | with_reducible exact hE1 | with_reducible exact hE4)
        (first
          | (go_simp; go_at_call 41; refine (unhide HC).mono ?_; rintro e w4 ⟨rfl, d4⟩; have hb4 := below_after d1 d4; have hE4 := unhide HEE w4 hb4; have H5 := hide (isNil_any a0 w4); clear HC d4)
          | (go_simp; go_at_call 40; refine (unhide H5).mono ?_; rintro e w5 ⟨rfl, hw5⟩; replace hw5 := hw5.symm; subst hw5))
      have H6 := hide (unhide HSC w4 hb4)
      clear HSC HEE hE0 hE1 hE9 hE4 H5 d1
      go_wp2_with fail
      refine (unhide H6).mono ?_
      rintro e w6 ⟨rfl, d6⟩
      have hb6 := below_after hb4 d6
      clear H6 d6 hb4
      go_wp2
      go_ret
      exact ⟨rfl, hb6⟩
set_option maxHeartbeats 1600000 in
theorem ifin_any (A : Option Addr) (n c B : Nat) (a : List (List Int)) (w : World) (hS : IntsS w B (.slice A n c) a) (hn : n ≤ 1048576) (hsm : ∀ z ∈ a, z.length ≤ 1048576 ∧ Small z) (a0 : Addr) (hE : ErrAt a0 w) :
    Calls Tryz.prog 21 #[.slice A n c] w (GivesB w (finR a)) := by
  have HEE := hide (fun (w2 : World) (d : Below w.heap.size w w2) => (show w2.cell? ⟨0, 0, none⟩ = some (.iface 155 (.pointer (some a0))) from hE.below d))
  have d1 := below_after ((Below.refl w.heap.size w).alloc (Nat.le_refl _) (.cells #[.slice A n c] 24)) (below_drew _ _)
  have HC := hide (icheck_any w.heap.size 1 [a] a0 _ ((ListsAt.one (t := 24) hS hn hsm).below (below_drew _ _)) rfl (by omega) (hE.below d1))
  have hE0 := unhide HEE _ (below_drew _ w)
  have hE1 := unhide HEE _ d1
  have hE9 := unhide HEE _ (Below.refl _ w)
  clear hE
  obtain ⟨ba, hba⟩ : ∃ x, basis a = x := ⟨_, rfl⟩
  rw [show [a].all basis = ba by rw [← hba]; simp] at HC
  cases ba with
  | false =>
    have HR := hide (fin_no hba)
    rw [unhide HR]
    clear hS hsm hba
    go_enter Tryz.func21, Tryz.ntmps21
    go_wp2
    go_region_held3 (fun wx => wx.cell? ⟨0, 0, none⟩ = some (.iface 155 (.pointer (some a0)))) (first | with_reducible exact hE9 | with_reducible exact hE0 | with_reducible exact hE1 | with_reducible exact hE4)
      (first
        | (go_simp; go_at_call 41; refine (unhide HC).mono ?_; rintro e w4 ⟨rfl, d4⟩; have hb4 := below_after d1 d4; have hE4 := unhide HEE w4 hb4; have H5 := hide (isSame_any a0 w4); clear HC d4)
        | (go_simp; go_at_call 40; refine (unhide H5).mono ?_; rintro e w5 ⟨rfl, hw5⟩; replace hw5 := hw5.symm; subst hw5))
    go_wp2
    go_ret
    exact ⟨rfl, hb4⟩
  | true =>
    have hn8 : n ≤ 8 := by have := basis_le hba; have := hS.len; omega
    have hP := fun z hz => (basis_isP hba z hz).1
    have HIS := hide (fun (w4 : World) (d : Below w.heap.size w w4) => conaIS_any A n c a strP w4 ((hS.below d).atS (basis_rows hba)) (by omega) (hide fun w1 _ A1 c1 z hz hI => (by
      have h := sorted_any A1 z.length c1 _ z w1 hI
      rw [ascB_upTo (hP z hz)] at h
      exact h.mono fun e w' h2 => ⟨h2.1, h2.2.below _⟩)))
    have HID := hide (fun (w4 : World) (d : Below w.heap.size w w4) => conaID_any A n c a (fun z => strP z.reverse) w4 ((hS.below d).atS (basis_rows hba)) (by omega) (hide fun w1 _ A1 c1 z hz hI => (by
      have h := idesc_any A1 z.length c1 _ z w1 hI (hP z hz)
      rw [show strP z.reverse = decide (z.reverse = upTo z.length) by unfold strP; rw [List.length_reverse]]
      exact h)))
    obtain ⟨b1, hb1⟩ : ∃ x, a.any strP = x := ⟨_, rfl⟩
    obtain ⟨b2, hb2⟩ : ∃ x, (a.any fun z => strP z.reverse) = x := ⟨_, rfl⟩
    rw [hb1] at HIS
    rw [hb2] at HID
    have HR := hide (show finR a = (b1 && b2) by rw [fin_yes hba, hb1, hb2])
    rw [unhide HR]
    clear hS hba hsm hb1 hb2 hP
    cases b1 with
    | false =>
      go_enter Tryz.func21, Tryz.ntmps21
      go_wp2
      go_region_held3 (fun wx => wx.cell? ⟨0, 0, none⟩ = some (.iface 155 (.pointer (some a0)))) (first | with_reducible exact hE9 | with_reducible exact hE0 | with_reducible exact hE1 | with_reducible exact hE4)
        (first
          | (go_simp; go_at_call 41; refine (unhide HC).mono ?_; rintro e w4 ⟨rfl, d4⟩; have hb4 := below_after d1 d4; have hE4 := unhide HEE w4 hb4; have H5 := hide (isNil_any a0 w4); clear HC d4)
          | (go_simp; go_at_call 40; refine (unhide H5).mono ?_; rintro e w5 ⟨rfl, hw5⟩; replace hw5 := hw5.symm; subst hw5))
      have H6 := hide (unhide HIS w4 hb4)
      clear HIS HID HEE hE0 hE1 hE9 hE4 H5 d1
      go_wp2_with fail
      refine (unhide H6).mono ?_
      rintro e w6 ⟨rfl, d6⟩
      have hb6 := below_after hb4 d6
      clear H6 d6 hb4
      go_wp2
      go_ret
      exact ⟨rfl, hb6⟩
    | true =>
      go_enter Tryz.func21, Tryz.ntmps21
      go_wp2
      go_region_held3 (fun wx => wx.cell? ⟨0, 0, none⟩ = some (.iface 155 (.pointer (some a0)))) (first | with_reducible exact hE9 | with_reducible exact hE0 | with_reducible exact hE1 | with_reducible exact hE4)
        (first
          | (go_simp; go_at_call 41; refine (unhide HC).mono ?_; rintro e w4 ⟨rfl, d4⟩; have hb4 := below_after d1 d4; have hE4 := unhide HEE w4 hb4; have H5 := hide (isNil_any a0 w4); clear HC d4)
          | (go_simp; go_at_call 40; refine (unhide H5).mono ?_; rintro e w5 ⟨rfl, hw5⟩; replace hw5 := hw5.symm; subst hw5))
      have H6 := hide (unhide HIS w4 hb4)
      clear HIS HEE hE0 hE1 hE9 hE4 H5 d1
      go_wp2_with fail
      refine (unhide H6).mono ?_
      rintro e w6 ⟨rfl, d6⟩
      have hb6 := below_after hb4 d6
      have H7 := hide (unhide HID w6 hb6)
      clear H6 HID d6 hb4
      go_wp2_with fail
      refine (unhide H7).mono ?_
      rintro e w7 ⟨rfl, d7⟩
      have hb7 := below_after hb6 d7
      clear H7 d7 hb6
      cases b2
      all_goals
        go_wp2
        go_ret
        exact ⟨rfl, hb7⟩
end Go.Proofs.YtoiipedomgefaaaGreatDoor


/-
  spec.FormatInt, by its contract: the decimal numeral.
-/

namespace Go.Proofs.YtoiipedomgefaaaGreatDoor
set_option maxRecDepth 100000
open Go.RowKit

/-- What is still to be written of m, ahead of l. -/
def decR (m : Nat) (l : List UInt8) : List UInt8 := if m = 0 then l else Lib.decDigits m ++ l
theorem decR_step {m : Nat} (h : m ≠ 0) (l : List UInt8) : decR m l = decR (m / 10) (UInt8.ofNat (48 + m % 10) :: l) := by
  unfold decR
  rw [if_neg h]
  by_cases h10 : m < 10
  · rw [if_pos (by omega), Lib.decDigits_one h10, Nat.mod_eq_of_lt h10]; rfl
  · rw [if_neg (by omega)]
    rw [Lib.decDigits, dif_neg h10, List.append_assoc]; rfl

theorem cv_one {P : Program} {src dst e : TypeId} (hs : P.underlying src = some (.slice e)) (he : P.underlying e = some (.int .u8)) (hd : P.underlying dst = some .string) (W : World) (x : Int) :
    (convert src dst (.slice (some ⟨W.heap.size, 0, none⟩) 1 1)).run P (W.alloc (.cells #[.int .u8 x] e)) = .ok (.string ⟨#[UInt8.ofNat x.toNat]⟩) (W.alloc (.cells #[.int .u8 x] e)) := by
  rw [run_convert_bytes_string _ src dst e _ 1 1 hs he hd]
  have h := run_bytesToString (P := P) (W.alloc (.cells #[.int .u8 x] e)) ⟨W.heap.size, 0, none⟩ 1 1 [x] (by rw [show (1 : Nat) = ([Value.int .u8 x] : List Value).length from rfl]; exact run_loadCells_list (P := P) _ _ [Value.int .u8 x] (fun j v hj => by
    match j, hj with
    | 0, hj => simp at hj; subst hj; simp [Addr.add]))
  exact h

theorem one_app {b b' : UInt8} (l : List UInt8) (h : b = b') : Value.string (⟨#[b]⟩ ++ ⟨l.toArray⟩) = .string ⟨(b' :: l).toArray⟩ := by
  subst h
  congr 1
theorem neg_rem {m : Int} (h : m ≤ 0) : m.tmod 10 = -((m.natAbs % 10 : Nat) : Int) := by
  obtain ⟨u, rfl⟩ : ∃ u : Nat, m = -(u : Int) := ⟨m.natAbs, by omega⟩
  rw [Int.neg_tmod, Int.natAbs_neg, Int.natAbs_natCast]; rfl
theorem neg_quo {m : Int} (h : m ≤ 0) : m.tdiv 10 = -((m.natAbs / 10 : Nat) : Int) := by
  obtain ⟨u, rfl⟩ : ∃ u : Nat, m = -(u : Int) := ⟨m.natAbs, by omega⟩
  rw [Int.neg_tdiv, Int.natAbs_neg, Int.natAbs_natCast]; rfl
theorem left_short {m n : Int} {l : List UInt8} (h0 : -9223372036854775808 ≤ n) (h1 : n ≤ 9223372036854775807) (h : decR m.natAbs l = Lib.decDigits n.natAbs) : l.length ≤ 21 := by
  have h2 := Lib.itoa_length_le n h0 h1
  have h3 : (Lib.decDigits n.natAbs).length ≤ (Lib.itoa n).length := by
    unfold Lib.itoa
    by_cases hn : n < 0
    · rw [if_pos hn]; simp
    · rw [if_neg hn, show n.natAbs = n.toNat from by omega]; exact Nat.le_refl _
  have h4 : l.length ≤ (decR m.natAbs l).length := by
    unfold decR
    split <;> simp
  rw [h] at h4
  omega

end Go.Proofs.YtoiipedomgefaaaGreatDoor


/-
  spec.PermText and impl.PermText, by their contracts.
-/

namespace Go.Proofs.YtoiipedomgefaaaGreatDoor
set_option maxRecDepth 100000
open Go.RowKit

theorem cat_list (a b : List UInt8) : (⟨a.toArray⟩ ++ ⟨b.toArray⟩ : ByteArray) = ⟨(a ++ b).toArray⟩ := by
  refine ByteArray.ext ?_
  simp
theorem str_eq {a b : ByteArray} (h : a = b) : Value.string a = .string b := by rw [h]

theorem byteInfo : (Tryz.prog.info? 5).map (fun i => (i.zero, i.size, i.bytes)) = some (some (.int .u8 0), 1, 1) := by kernel_rfl
def u8c (ns : List Int) : List Value := ns.map (Value.int .u8)
theorem cv_row {P : Program} {src dst e : TypeId} (hs : P.underlying src = some (.slice e)) (he : P.underlying e = some (.int .u8)) (hd : P.underlying dst = some .string) (w : World) (B g n c : Nat) (t : TypeId) (ns : List Int)
    (hown : w.ownsRow B t 1 (.slice (some ⟨g, 0, none⟩) n c) n (u8c ns)) :
    (convert src dst (.slice (some ⟨g, 0, none⟩) n c)).run P w = .ok (.string ⟨(ns.map fun n => UInt8.ofNat n.toNat).toArray⟩) w := by
  rw [run_convert_bytes_string _ src dst e _ n c hs he hd]
  have hn : n = (u8c ns).length := by have := hown.1; omega
  have h := run_bytesToString (P := P) w ⟨g, 0, none⟩ n c ns (by
    have := run_loadCells_list (P := P) (w := w) ⟨g, 0, none⟩ (u8c ns) (fun j v hj => hown.cells (g := g) rfl j v hj)
    rwa [← hn] at this)
  rw [push_list] at h
  simpa using h

set_option maxHeartbeats 800000 in
theorem itext_any (A : Option Addr) (n c B : Nat) (zs : List Int) (w : World) (h : Arg w B A n c zs) :
    Calls Tryz.prog 127 #[.slice A n c] w (GivesS w (ptext zs)) := by
  obtain ⟨bp, hp⟩ : ∃ b, isP zs = b := ⟨_, rfl⟩
  have H1 := hide (iisperm_any A n c B zs bp hp w h.reads h.under h.le h.small)
  have hl := h.len
  cases bp with
  | false =>
    rw [ptext_no hp]
    clear hp h hl
    go_enter Tryz.func127, Tryz.ntmps127
    go_wp2_with fail
    refine (unhide H1).mono ?_
    rintro e w1 ⟨rfl, hb⟩
    clear H1
    go_wp2
    go_ret
    exact ⟨rfl, hb⟩
  | true =>
    by_cases h0 : n = 0
    · subst h0
      rw [ptext_nil hp hl]
      clear hp h hl
      go_enter Tryz.func127, Tryz.ntmps127
      go_wp2_with fail
      refine (unhide H1).mono ?_
      rintro e w1 ⟨rfl, hb⟩
      clear H1
      go_wp2
      go_ret
      exact ⟨rfl, hb⟩
    · rw [ptext_yes hp (by omega)]
      obtain ⟨i0, hi, hz0, hz1, hz2⟩ := info_parts byteInfo
      have hr := h.reads
      have hB := h.under
      have hn8 : n ≤ 8 := by have := isP_le hp; omega
      have HP := hide (fun k z hz => isP_range hp (k := k) (z := z) hz)
      have HT := hide (textI_bytes (l := zs) (fun z hz => by have := (isP_true.1 hp).2.1 z hz; omega))
      have HL := hide hl
      have h0' : ((n : Int) == 0) = false := by simp; omega
      clear hp h hl
      go_enter Tryz.func127, Tryz.ntmps127
      go_wp2_with fail
      refine (unhide H1).mono ?_
      rintro e w0 ⟨rfl, hb0⟩
      have hs0 := hb0.size
      clear H1
      go_wp2_with (first
        | (at_make; refine wpList_make_full _ rfl (.tmp 13) (.tmp 13) 22 rfl w.heap.size 5 i0 (.int .u8 0) 1 Tryz.underlying22 hi hz0 hz1 _ _ _ _ n rfl rfl (by first | rfl | omega) (by first | rfl | omega) (by rw [hz2]; omega) (by unfold maxLen; omega) hs0 ?_; intro w1 hown hg))
      have hb1 := hb0.grown hg hs0 (by simp)
      clear hg hb0
      obtain ⟨g, hg⟩ : ∃ g, g = w0.heap.size := ⟨_, rfl⟩
      rw [← hg] at hown ⊢
      clear hg hs0
      go_loopw [4, 5, 17] (fun _ _ i wr => ∃ (k : Nat) (xs : List Value), k ≤ n ∧ i = .int .i64 k ∧ Below w.heap.size w wr ∧ wr.ownsRow w.heap.size 5 1 (.slice (some ⟨g, 0, none⟩) n n) n xs ∧ Hid (xs.take k = (u8c (textI zs)).take k)) (fun _ _ i _ => n - (intOf i).toNat)
      case atStart => exact ⟨0, _, Nat.zero_le _, rfl, hb1, hown, by exact rfl⟩
      case round =>
        obtain ⟨k, xs, hk, rfl, hb, hown', hx⟩ := hrel
        clear hown hb1
        have hlx : xs.length = n := by simpa using hown'.1
        by_cases hlt : k < n
        · obtain ⟨ad, u, rfl, had, hu, hc⟩ := ((hr.more hB).below hb).at_ hlt
          obtain ⟨z, hz, rfl⟩ := i64_at hu
          obtain ⟨hz1', hz2'⟩ := unhide HP k z hz
          rw [unhide HL] at hz2'
          have hz8 : z ≤ 8 := by omega
          obtain ⟨old, hold⟩ : ∃ old, wr.cell? ⟨g, k, none⟩ = some old := ⟨_, by rw [hown'.cellAt k (by omega)]; exact List.getElem?_eq_getElem (by omega)⟩
          have hfz := hown'.frozenAt k
          have hst := hide (take_set_i (u := .int .u8 (48 + z)) (unhide hx) (by unfold u8c; rw [List.getElem?_map, textI_at hz]; rfl) (by omega))
          have ho2 := (hown'.stored k (.int .u8 (48 + z))).1
          have hb2 := below_set_i hb hown' k (.int .u8 (48 + z))
          clear hx hlx hu hz hown' hb
          go_wp2
          go_roundw
          case rel => exact ⟨k + 1, _, by omega, by go_num, hb2, ho2, hst⟩
          case measure => simp [intOf]; omega
        · obtain rfl : n = k := by omega
          have : xs = u8c (textI zs) := by
            have h := unhide hx
            have h2 : (u8c (textI zs)).length = n := by unfold u8c; rw [List.length_map, textI_length, unhide HL]
            rwa [List.take_of_length_le (by omega), List.take_of_length_le (by omega)] at h
          subst this
          have hcv := cv_row (P := Tryz.prog) Tryz.underlying22 Tryz.underlying5 Tryz.underlying9 wr w.heap.size g n n 5 (textI zs) hown'
          rw [unhide HT] at hcv
          clear hx hlx hown'
          go_wp2
          go_ret
          exact ⟨rfl, hb⟩
end Go.Proofs.YtoiipedomgefaaaGreatDoor
