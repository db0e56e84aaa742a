/-
  Words and contracts that the laws lean on, bundled: ClaB, ErrI, MeetP, IdxA, End, IntsA, SumAll, Join, Joins.
-/
import Derived.Test.YtoiipedomgefaaaGreatDoorB9
import Derived.Test.YtoiipedomgefaaaGreatDoorB5
import Derived.LaidEql
import Derived.Test.YtoiipedomgefaaaGreatDoorB7
import Derived.Test.YtoiipedomgefaaaGreatDoorB8
import Derived.Lib.SliceRun
import Derived.Test.YtoiipedomgefaaaGreatDoorRows
import Derived.ProofKit
import Derived.OpenShut
import Derived.Carry
import Derived.SliceStrings
import Derived.Test.YtoiipedomgefaaaGreatDoorB2
import Derived.Test.YtoiipedomgefaaaGreatDoorB4
import Derived.LaidMore
import Derived.Test.YtoiipedomgefaaaGreatDoorB1
import Derived.Test.YtoiipedomgefaaaGreatDoorB3
import Derived.Deep.RegionHeld3

/-
  impl.MakeBasis, slices.EqualFunc over rows of rows, impl.IsBasis, impl.InClass, by their contracts.
-/

namespace Go.Proofs.YtoiipedomgefaaaGreatDoor
set_option maxRecDepth 100000
open Go.RowKit

set_option maxHeartbeats 1600000 in
theorem imkb_any (A : Option Addr) (n c B : Nat) (zss : List (List Int)) (w : World) (hS : IntsS w B (.slice A n c) zss) (hn : n ≤ 1048576) (hsm : ∀ z ∈ zss, z.length ≤ 1048576 ∧ Small z) :
    Calls Tryz.prog 42 #[.slice A n c] w (GivesSSB w (mkR zss) (mkOK zss)) := by
  have H1 := hide (conMB_any A n c B zss badB w hS hn (hide fun w1 d A1 c1 z hz hI => imb1_any A1 z.length c1 _ z w1 (hI.arg (hsm z hz).1 hI.cap (hsm z hz).2)))
  obtain ⟨b, hb⟩ : ∃ b, zss.any badB = b := ⟨_, rfl⟩
  rw [hb] at H1
  cases b with
  | true =>
    have hno := mkOK_bad hb
    rw [mkR_no hno, hno]
    clear hS hsm hb hno
    go_enter Tryz.func42, Tryz.ntmps42
    go_wp2_with fail
    refine (unhide H1).mono ?_
    rintro e w1 ⟨rfl, d1⟩
    have hI := IntsS.nil w1 w.heap.size
    clear H1
    go_wp2
    go_ret2
    exact GivesSSB.mk false hI d1
  | false =>
    have H2 := hide (fun (w' : World) (d : Below w.heap.size w w') => iord_any A n c B zss w' (hS.below d) hn hsm)
    have HNO := hide (fun (k : Nat) (hk : k ≤ (ordR zss).length) (h : 8 < (mkK (ordR zss) k).length) => mkOK_many hk h)
    have HYES := hide (fun (h : (mkK (ordR zss) (ordR zss).length).length ≤ 8) => (⟨mkOK_good hb h, mkR_yes (mkOK_good hb h)⟩ : mkOK zss = true ∧ mkR zss = mkO zss))
    have HDEF := hide (show mkO zss = mkK (ordR zss) (ordR zss).length from rfl)
    have HPP := hide (fun (j : Nat) (z : List Int) (hz : (ordR zss)[j]? = some z) => ordR_mem (List.mem_of_getElem? hz))
    have HPM := hide (fun (k : Nat) (hk : k ≤ (ordR zss).length) (x : List Int) (hx : x ∈ mkK (ordR zss) k) => ordR_mem (mkK_mem k hk x hx))
    obtain ⟨Z, hZ⟩ : ∃ Z, Z = ordR zss := ⟨_, rfl⟩
    rw [← hZ] at H2 HNO HYES HDEF HPP HPM
    obtain ⟨N, hN⟩ : ∃ N, N = Z.length := ⟨_, rfl⟩
    have hN1 : N ≤ 1048576 := by rw [hN, hZ]; have h1 := ordR_len zss; have h2 := hS.len; omega
    have HN := hide hN
    clear hS hsm hb hZ hN
    go_enter Tryz.func42, Tryz.ntmps42
    go_wp2_with fail
    refine (unhide H1).mono ?_
    rintro e w1 ⟨rfl, d1⟩
    have hst := ownS0 w1 w.heap.size d1.size
    have hbel := d1.alloc d1.size (.cells #[] 36)
    have H3 := hide (unhide H2 _ hbel)
    clear H1 H2 d1
    go_wp2_with fail
    refine (unhide H3).mono ?_
    rintro e w3 ⟨A3, c3, rfl, o3, d3⟩
    have hb3 := below_after hbel d3
    obtain ⟨vs, us0, hsib⟩ := Sib.start hst d3 o3 hbel.size
    obtain ⟨C, hC⟩ : ∃ C, C = (w1.alloc (.cells #[] 36)).heap.size := ⟨_, rfl⟩
    rw [← hC] at hsib
    rw [← unhide HN] at hsib ⊢
    clear hC H3 hst o3 d3 hbel
    go_wp2
    go_loopw [4, 6, 13] (fun ov _ i wr => ∃ (j : Nat) (us : List Value), j ≤ N ∧ i = .int .i64 j ∧ Below w.heap.size w wr ∧ Sib wr w.heap.size C (.slice A3 N c3) vs Z ov us (mkK Z j) j ∧ Hid ((mkK Z j).length ≤ 8)) (fun _ _ i _ => N - (intOf i).toNat)
    case atStart => exact ⟨0, us0, Nat.zero_le _, rfl, hb3, hsib, by exact (by simp [mkK] : (mkK Z 0).length ≤ 8)⟩
    case round =>
      obtain ⟨j, us, hj, rfl, hb, hs, h8⟩ := hrel
      clear hsib hb3
      by_cases hlt : j < N
      · obtain ⟨ad, A6, c6, z, rfl, hz, hvz, hcell, hI⟩ := hs.row rfl hlt
        have hzp := unhide HPP j z hz
        have hso := hs.outS
        obtain ⟨Ao, co, hov⟩ := hso.slice
        subst hov
        have h8' : (mkK Z j).length ≤ 8 := h8
        have H4 := hide (ihs_any A6 Ao z.length c6 _ _ co _ z (mkK Z j) wr (hI.argP hzp) hso hzp (unhide HPM j (by rw [← unhide HN]; omega)) (by omega))
        obtain ⟨b, hbb⟩ : ∃ b, avo (mkK Z j) z = b := ⟨_, rfl⟩
        rw [hbb] at H4
        have HZ := hide (⟨hz, hvz⟩ : _ ∧ _)
        have HS := hide hs
        have HB := hide hb
        have hcl := World.block_lt_of_cell? wr _ hcell
        obtain ⟨lz, hlz⟩ : ∃ l, l = z.length := ⟨_, rfl⟩
        obtain ⟨U, hU⟩ : ∃ U, U = mkK Z j := ⟨_, rfl⟩
        rw [← hU] at h8' H4 HS
        obtain ⟨nu, hnu⟩ : ∃ l, l = U.length := ⟨_, rfl⟩
        rw [← hnu] at h8' H4 HS
        have HNU := hide hnu
        have HU := hide hU
        rw [← hlz] at hcell H4 HZ
        rw [← hU, ← hnu]
        clear hz hvz hzp hI hs hb hso hlz hU hnu h8
        cases b with
        | false =>
          have HE := hide (mkK_no (unhide HZ).1 hbb)
          clear hbb
          go_wp2_with fail
          refine (unhide H4).mono ?_
          rintro e w4 ⟨rfl, d4⟩
          have hb4 := below_after (unhide HB) d4
          have hs4 := ((unhide HS).below d4).skip
          clear H4 HB HS d4 hcell hcl
          rw [unhide HU, ← unhide HE] at hs4
          have H8 := hide (show (mkK Z (j + 1)).length ≤ 8 by rw [unhide HE, ← unhide HU, ← unhide HNU]; exact h8')
          have HS4 := hide hs4
          clear hs4
          go_wp2
          go_roundw
          case rel => exact ⟨j + 1, us, by omega, by go_num, hb4, unhide HS4, H8⟩
          case measure => simp [intOf]; omega
        | true =>
          have HE := hide (mkK_yes (unhide HZ).1 hbb)
          clear hbb
          go_wp2_with fail
          refine (unhide H4).mono ?_
          rintro e w4 ⟨rfl, d4⟩
          have hb4 := below_after (unhide HB) d4
          have hs4 := (unhide HS).below d4
          have hcell4 := (d4.cell hcl).trans hcell
          clear H4 HB HS d4 hcell hcl
          by_cases e8 : nu = 8
          · have hno := hide (unhide HNO (j + 1) (by rw [← unhide HN]; omega) (by rw [unhide HE, List.length_append, ← unhide HU, ← unhide HNU, e8]; simp))
            have hI := IntsS.nil w4 w.heap.size
            have e8' : ((nu : Int) == 8) = true := by rw [e8]; rfl
            clear hs4 hcell4 e8
            go_wp2
            go_ret2
            rw [mkR_no (unhide hno), unhide hno]
            exact GivesSSB.mk false hI hb4
          · have e8' : ((nu : Int) == 8) = false := by rw [beq_eq_false_iff_ne]; omega
            have hul : U.length ≤ 1048576 := by rw [← unhide HNU]; omega
            have H8 := hide (show (mkK Z (j + 1)).length ≤ 8 by rw [unhide HE, List.length_append, ← unhide HU, ← unhide HNU, List.length_singleton]; omega)
            go_wp2_with (first
              | (at_builtin; refine wpList_sift rfl (.tmp 23) (.tmp 25) rfl w.heap.size C w w4 (.slice (some ad) N c3) _ (.slice A6 lz c6) vs us Z U j z rfl rfl rfl hs4 (unhide HZ).2 (unhide HZ).1 hul hb4 (Nat.le_refl _) ?_; intro v5 w5 hs5 hb5))
            rw [unhide HU, ← unhide HE] at hs5
            clear hs4 hb4 hcell4 hul
            go_roundw
            case rel => exact ⟨j + 1, _, by omega, by go_num, hb5, hs5, H8⟩
            case measure => simp [intOf]; omega
      · obtain rfl : N = j := by omega
        have h8' : (mkK Z Z.length).length ≤ 8 := by rw [← unhide HN]; exact h8
        obtain ⟨e1, e2⟩ := unhide HYES h8'
        have hI := hs.outS
        rw [show mkK Z N = mkR zss by rw [e2, unhide HDEF, ← unhide HN]] at hI
        have HI := hide hI
        have HOK := hide e1
        clear hs h8 h8' e1 e2 hI
        go_wp2
        go_ret2
        rw [unhide HOK]
        exact GivesSSB.mk true (unhide HI) hb
theorem rows_ne {X Y : List (List Int)} {k : Nat} {x y : List Int} (hx : X[k]? = some x) (hy : Y[k]? = some y) (h : x ≠ y) : decide (X = Y) = false := by
  rw [decide_eq_false_iff_not]
  rintro rfl
  rw [hx] at hy
  exact h (Option.some.inj hy)
set_option maxHeartbeats 1600000 in
theorem equalF_any (A A' : Option Addr) (n c B n' c' B' : Nat) (X Y : List (List Int)) (w : World) (hX : IntsS w B (.slice A n c) X) (hY : IntsS w B' (.slice A' n' c') Y) (hn : n ≤ 1048576) (hsx : ∀ z ∈ X, z.length ≤ 1048576 ∧ Small z) (hsy : ∀ z ∈ Y, z.length ≤ 1048576 ∧ Small z) :
    Calls Tryz.prog 123 #[.slice A n c, .slice A' n' c', .func (.func 106) #[] #[]] w (GivesB w (decide (X = Y))) := by
  have hlx := hX.len
  have hly := hY.len
  by_cases hnn : n = n'
  · subst hnn
    have HA := hide (⟨hX, hY, hsx, hsy⟩ : IntsS w B (.slice A n c) X ∧ IntsS w B' (.slice A' n c') Y ∧ (∀ z ∈ X, z.length ≤ 1048576 ∧ Small z) ∧ ∀ z ∈ Y, z.length ≤ 1048576 ∧ Small z)
    have HL := hide (⟨hlx, hly⟩ : X.length = n ∧ Y.length = n)
    have hb0 := Below.refl w.heap.size w
    clear hX hY hsx hsy hlx hly
    go_enter Tryz.func123, Tryz.ntmps123
    go_wp2
    go_loopw [7, 8, 9, 17] (fun _ _ _ i wr => ∃ k : Nat, k ≤ n ∧ i = .int .i64 k ∧ Below w.heap.size w wr ∧ Hid (X.take k = Y.take k)) (fun _ _ _ i _ => n - (intOf i).toNat)
    case atStart => exact ⟨0, Nat.zero_le _, rfl, hb0, by exact (rfl : X.take 0 = Y.take 0)⟩
    case round =>
      obtain ⟨k, hk, rfl, hb, ht⟩ := hrel
      clear hb0
      by_cases hlt : k < n
      · obtain ⟨ad, A1, c1, x, rfl, hx, hcx, hIx⟩ := ((unhide HA).1.below hb).at_ hlt
        obtain ⟨ad2, A2, c2, y, rfl, hy, hcy, hIy⟩ := ((unhide HA).2.1.below hb).at_ hlt
        have sx := (unhide HA).2.2.1 x (List.mem_of_getElem? hx)
        have sy := (unhide HA).2.2.2 y (List.mem_of_getElem? hy)
        obtain ⟨b, hbb⟩ : ∃ b, decide (x = y) = b := ⟨_, rfl⟩
        have H1 := hide (eqsl_any A1 A2 _ c1 _ _ c2 _ x y b hbb wr (hIx.arg sx.1 hIx.cap sx.2) (hIy.arg sy.1 hIy.cap sy.2))
        have HXY := hide (⟨hx, hy, hbb⟩ : X[k]? = some x ∧ Y[k]? = some y ∧ decide (x = y) = b)
        obtain ⟨lx, hlx⟩ : ∃ l, l = x.length := ⟨_, rfl⟩
        obtain ⟨ly, hly⟩ : ∃ l, l = y.length := ⟨_, rfl⟩
        rw [← hlx] at hcx H1
        rw [← hly] at hcy H1
        clear hx hy hIx hIy sx sy hbb hlx hly
        cases b with
        | true =>
          have hst := hide (show X.take (k + 1) = Y.take (k + 1) by rw [List.take_add_one, List.take_add_one, unhide ht, (unhide HXY).1, (unhide HXY).2.1, of_decide_eq_true (unhide HXY).2.2])
          go_wp2_with fail
          refine (unhide H1).mono ?_
          rintro e w2 ⟨rfl, d2⟩
          have hb2 := hb.trans (d2.below _)
          clear H1 d2 hb hcx hcy ht
          go_wp2
          go_roundw
          case rel => exact ⟨k + 1, by omega, by go_num, hb2, hst⟩
          case measure => simp [intOf]; omega
        | false =>
          have HF := hide (rows_ne (unhide HXY).1 (unhide HXY).2.1 (of_decide_eq_false (unhide HXY).2.2))
          go_wp2_with fail
          refine (unhide H1).mono ?_
          rintro e w2 ⟨rfl, d2⟩
          have hb2 := hb.trans (d2.below _)
          clear H1 d2 hb hcx hcy ht
          go_wp2
          go_ret
          exact ⟨ret_bool (unhide HF).symm, hb2⟩
      · obtain rfl : n = k := by omega
        have HT := hide (show decide (X = Y) = true by
          have h := unhide ht
          rw [List.take_of_length_le (by rw [(unhide HL).1]; exact Nat.le_refl _), List.take_of_length_le (by rw [(unhide HL).2]; exact Nat.le_refl _)] at h
          exact decide_eq_true h)
        clear ht
        go_wp2
        go_ret
        exact ⟨ret_bool (unhide HT).symm, hb⟩
  · have hne : decide (X = Y) = false := by
      rw [decide_eq_false_iff_not]
      rintro rfl
      omega
    rw [hne]
    have hb0 := Below.refl w.heap.size w
    have hnb : ((n : Int) == (n' : Int)) = false := by rw [beq_eq_false_iff_ne]; omega
    clear hX hY hlx hly hne
    go_enter Tryz.func123, Tryz.ntmps123
    go_wp2
    go_ret
    exact ⟨rfl, hb0⟩
theorem mkR_rows (zss : List (List Int)) : (mkR zss).length ≤ 8 ∧ tot (mkR zss) ≤ 64 ∧ ∀ z ∈ mkR zss, isP z = true := by
  cases h : mkOK zss with
  | false => rw [mkR_no h]; simp [tot]
  | true =>
    have hb : basis (mkO zss) = true := by unfold mkOK at h; rw [Bool.and_eq_true] at h; exact h.2
    rw [mkR_yes h]
    have h1 := basis_le hb
    have h2 := fun z hz => (basis_isP hb z hz).1
    exact ⟨h1, by have := tot_room 8 (mkO zss) (fun z hz => isP_le (h2 z hz)); omega, h2⟩
set_option maxHeartbeats 1600000 in
theorem ibas2_any (A : Option Addr) (n c B : Nat) (zss : List (List Int)) (w : World) (hS : IntsS w B (.slice A n c) zss) (hn : n ≤ 1048576) (hsm : ∀ z ∈ zss, z.length ≤ 1048576 ∧ Small z) :
    Calls Tryz.prog 84 #[.slice A n c] w (GivesB w (basis zss)) := by
  have H1 := hide (imkb_any A n c B zss w hS hn hsm)
  have hR := mkR_rows zss
  rw [basis_made]
  obtain ⟨b, hb⟩ : ∃ b, mkOK zss = b := ⟨_, rfl⟩
  rw [hb] at H1 ⊢
  cases b with
  | false =>
    clear hS hsm hb hR
    go_enter Tryz.func84, Tryz.ntmps84
    go_wp2_with fail
    refine (unhide H1).mono ?_
    rintro e w1 ⟨A1, c1, rfl, o1, d1⟩
    clear H1 o1
    go_wp2
    go_ret
    exact ⟨rfl, d1⟩
  | true =>
    have HH := hide (fun (w1 : World) (d : Below w.heap.size w w1) (A1 : Option Addr) (c1 : Nat) (o1 : IntsS w1 w.heap.size (.slice A1 (mkR zss).length c1) (mkR zss)) => equalF_any A A1 n c B _ c1 _ zss (mkR zss) w1 (hS.below d) o1 hn hsm (fun z hz => ⟨by have := isP_le (hR.2.2 z hz); omega, isP_small (hR.2.2 z hz)⟩))
    obtain ⟨bb, hbb⟩ : ∃ bb, bb = (true && decide (zss = mkR zss)) := ⟨_, rfl⟩
    rw [← hbb]
    rw [Bool.true_and] at hbb
    simp only [← hbb] at HH
    clear hS hsm hb hR hbb
    go_enter Tryz.func84, Tryz.ntmps84
    go_wp2_with fail
    refine (unhide H1).mono ?_
    rintro e w1 ⟨A1, c1, rfl, o1, d1⟩
    have H2 := hide (unhide HH w1 d1 A1 c1 o1)
    clear H1 HH o1
    go_wp2_with fail
    refine (unhide H2).mono ?_
    rintro e w2 ⟨rfl, d2⟩
    have hb2 := below_after d1 d2
    clear H2 d1 d2
    go_wp2
    go_ret
    exact ⟨rfl, hb2⟩
theorem ibas_any (A : Option Addr) (n c B : Nat) (zss : List (List Int)) (w : World) (hS : IntsS w B (.slice A n c) zss) (hn : n ≤ 1048576) (hsm : ∀ z ∈ zss, z.length ≤ 1048576 ∧ Small z) :
    Calls Tryz.prog 84 #[.slice A n c] w (GivesB w (basis zss)) := ibas2_any A n c B zss w hS hn hsm
end Go.Proofs.YtoiipedomgefaaaGreatDoor


/-
  errors.Is at nil and at the very error asked for; impl.checkBases, by their contracts (where the variable errNoBasis holds an error).
-/

namespace Go.Proofs.YtoiipedomgefaaaGreatDoor
set_option maxRecDepth 100000
open Go.RowKit

/-- The variable errNoBasis holds the error at a. -/
def ErrAt (a : Addr) (w : World) : Prop := w.cell? ⟨0, 0, none⟩ = some (.iface 155 (.pointer (some a)))
theorem ErrAt.below {a : Addr} {w w' : World} (h : ErrAt a w) (hb : Below w.heap.size w w') : ErrAt a w' := (hb.cell (World.block_lt_of_cell? w _ h)).trans h
/-! what errors.Is asks of the error's type -/
theorem err_typeOf (v : Value) (w : World) : (Extern.ReflectliteType.typeOf #[.iface 155 v]).run Tryz.prog w = .ok (.iface 104 (.agg #[.pointer (some ⟨1, 155, none⟩)])) w := by kernel_rfl
theorem err_comparable (w : World) : (Extern.ReflectliteType.method (fun t => do Extern.Rtype.noPackHeld "Comparable" t; pure (.bool (← typeInfo t).comparable)) #[.agg #[.pointer (some ⟨1, 155, none⟩)]]).run Tryz.prog w = .ok (.bool true) w := by kernel_rfl
theorem err_cmpCall (w : World) : (callFunc 188 #[.agg #[.pointer (some ⟨1, 155, none⟩)]]).run Tryz.prog w = .ok (.value (.bool true)) w := by
  have h := @run_callFunc_extern Tryz.prog 188 _ (Extern.ReflectliteType.method fun t => do Extern.Rtype.noPackHeld "Comparable" t; pure (.bool (← typeInfo t).comparable)) Tryz.func188 (by kernel_rfl) (by kernel_rfl) (by kernel_rfl) (by kernel_rfl) #[.agg #[.pointer (some ⟨1, 155, none⟩)]] w
  rw [h, err_comparable]
  rfl
theorem err_method (v : Value) (w : World) : (Go.method 292 104 v "Comparable").run Tryz.prog w = .ok (188, v) w := by kernel_rfl
theorem err_comp : (Tryz.prog.info? 155).map (·.comparable) = some true := by kernel_rfl
theorem err_size : (Tryz.prog.info? 180).map (·.size) = some 1 := by kernel_rfl
set_option maxHeartbeats 1600000 in
/-- errors.Is, the error asked for. -/
theorem isSame_any (a : Addr) (w : World) :
    Calls Tryz.prog 40 #[.iface 155 (.pointer (some a)), .iface 155 (.pointer (some a))] w fun e w' => e = .returned (.bool true) ∧ w' = w := by
  obtain ⟨i, hi, hcmp⟩ := Option.map_eq_some_iff.1 err_comp
  obtain ⟨j, hj, hjs⟩ := Option.map_eq_some_iff.1 err_size
  have h8 := @run_callFunc_extern Tryz.prog 82 _ Extern.ReflectliteType.typeOf Tryz.func82 (by kernel_rfl) (by kernel_rfl) (by kernel_rfl) (by kernel_rfl)
  have h32 := err_cmpCall
  have tT := err_typeOf
  have mR := err_method
  have heq := run_eql_iface_ptr_same (P := Tryz.prog) w a Tryz.underlying53 Tryz.underlying155 hi hcmp hj
  go_enter Tryz.func40, Tryz.ntmps40
  go_wp2
  refine wp_loop_rounds 1 ?_
  rw [rounds_succ]
  go_wp2
  go_ret
  exact ⟨rfl, rfl⟩
set_option maxHeartbeats 1600000 in
/-- errors.Is, no error. -/
theorem isNil_any (a : Addr) (w : World) :
    Calls Tryz.prog 40 #[.nilIface, .iface 155 (.pointer (some a))] w fun e w' => e = .returned (.bool false) ∧ w' = w := by
  have hn := run_eql_iface_nil_left (P := Tryz.prog) w 155 (.pointer (some a)) Tryz.underlying53
  go_enter Tryz.func40, Tryz.ntmps40
  go_wp2
  go_ret
  exact ⟨rfl, rfl⟩
/-! the lists handed to checkBases -/
def ListsAt (w : World) (gs : Nat) (Ls : List (List (List Int))) : Prop := ∀ k L, Ls[k]? = some L → ∃ A n c B, w.cell? ⟨gs, k, none⟩ = some (.slice A n c) ∧ IntsS w B (.slice A n c) L ∧ n ≤ 1048576 ∧ ∀ z ∈ L, z.length ≤ 1048576 ∧ Small z
theorem ListsAt.below {w w' : World} {gs : Nat} {Ls : List (List (List Int))} (h : ListsAt w gs Ls) (hb : Below w.heap.size w w') : ListsAt w' gs Ls := fun k L hk => by
  obtain ⟨A, n, c, B, h1, h2, h3, h4⟩ := h k L hk
  exact ⟨A, n, c, B, (hb.cell (World.block_lt_of_cell? w _ h1)).trans h1, h2.below hb, h3, h4⟩
theorem ListsAt.one {w : World} {t : TypeId} {A : Option Addr} {n c B : Nat} {L : List (List Int)} (h : IntsS w B (.slice A n c) L) (hn : n ≤ 1048576) (hs : ∀ z ∈ L, z.length ≤ 1048576 ∧ Small z) : ListsAt (w.alloc (.cells #[.slice A n c] t)) w.heap.size [L] := fun k L' hk => by
  have hb := (Below.refl w.heap.size w).alloc (Nat.le_refl _) (.cells #[.slice A n c] t)
  match k with
  | 0 => cases hk; exact ⟨A, n, c, B, (Whole.new w t #[.slice A n c]).cell 0, h.below hb, hn, hs⟩
  | k + 1 => cases hk
theorem ListsAt.two {w : World} {t : TypeId} {A A' : Option Addr} {n c B n' c' B' : Nat} {L L' : List (List Int)} (h : IntsS w B (.slice A n c) L) (hn : n ≤ 1048576) (hs : ∀ z ∈ L, z.length ≤ 1048576 ∧ Small z) (h' : IntsS w B' (.slice A' n' c') L') (hn' : n' ≤ 1048576) (hs' : ∀ z ∈ L', z.length ≤ 1048576 ∧ Small z) : ListsAt (w.alloc (.cells #[.slice A n c, .slice A' n' c'] t)) w.heap.size [L, L'] := fun k L9 hk => by
  have hb := (Below.refl w.heap.size w).alloc (Nat.le_refl _) (.cells #[.slice A n c, .slice A' n' c'] t)
  match k with
  | 0 => cases hk; exact ⟨A, n, c, B, (Whole.new w t #[.slice A n c, .slice A' n' c']).cell 0, h.below hb, hn, hs⟩
  | 1 => cases hk; exact ⟨A', n', c', B', (Whole.new w t #[.slice A n c, .slice A' n' c']).cell 1, h'.below hb, hn', hs'⟩
  | k + 2 => cases hk
/-- What checkBases gives. -/
def chkV (a0 : Addr) (b : Bool) : Value := if b then .nilIface else .iface 155 (.pointer (some a0))
set_option maxHeartbeats 1600000 in
theorem icheck_any (gs N : Nat) (Ls : List (List (List Int))) (a0 : Addr) (w : World) (h : ListsAt w gs Ls) (hl : Ls.length = N) (hN : N ≤ 2) (hE : ErrAt a0 w) :
    Calls Tryz.prog 41 #[.slice (some ⟨gs, 0, none⟩) N N] w fun e w' => e = .returned (chkV a0 (Ls.all basis)) ∧ Below w.heap.size w w' := by
  have HH := hide (⟨h, hE⟩ : ListsAt w gs Ls ∧ ErrAt a0 w)
  have HL := hide hl
  have hb0 := Below.refl w.heap.size w
  clear h hE hl
  go_enter Tryz.func41, Tryz.ntmps41
  go_wp2
  go_loopw [4, 7] (fun _ i wr => ∃ k : Nat, k ≤ N ∧ i = .int .i64 k ∧ Below w.heap.size w wr ∧ Hid (∀ L ∈ Ls.take k, basis L = true)) (fun _ i _ => N - (intOf i).toNat)
  case atStart => exact ⟨0, Nat.zero_le _, rfl, hb0, fun L hL => by simp at hL⟩
  case round =>
    obtain ⟨k, hk, rfl, hb, hP⟩ := hrel
    clear hb0
    by_cases hlt : k < N
    · obtain ⟨L, hLk⟩ : ∃ L, Ls[k]? = some L := ⟨_, List.getElem?_eq_getElem (by rw [unhide HL]; exact hlt)⟩
      obtain ⟨A, n, c, B, hcell, hS, hn, hs⟩ := ((unhide HH).1.below hb) k L hLk
      have hE : w.cell? ⟨0, 0, none⟩ = _ := (unhide HH).2
      have hEr := (unhide HH).2.below hb
      have H1 := hide (ibas_any A n c B L wr hS hn hs)
      obtain ⟨b, hbb⟩ : ∃ b, basis L = b := ⟨_, rfl⟩
      rw [hbb] at H1
      have HE := hide (fun (w2 : World) (d : Below wr.heap.size wr w2) => hEr.below d)
      cases b with
      | true =>
        have hP2 : Hid (∀ L ∈ Ls.take (k + 1), basis L = true) := hide (fun y hy => by
          rw [List.take_add_one, hLk] at hy
          rcases List.mem_append.1 hy with hy | hy
          · exact unhide hP y hy
          · simp at hy; subst hy; exact hbb)
        clear hS hs hE hEr hLk hbb hP HE
        go_wp2_with fail
        refine (unhide H1).mono ?_
        rintro e w2 ⟨rfl, d2⟩
        have hb2 := below_after hb d2
        clear H1 d2 hb hcell
        go_wp2
        go_roundw
        case rel => exact ⟨k + 1, by omega, by go_num, hb2, hP2⟩
        case measure => simp [intOf]; omega
      | false =>
        have HF := hide (show chkV a0 (Ls.all basis) = .iface 155 (.pointer (some a0)) by
          have : Ls.all basis = false := by
            rw [List.all_eq_false]
            exact ⟨L, List.mem_of_getElem? hLk, by rw [hbb]; simp⟩
          rw [this]; rfl)
        clear hS hs hE hEr hLk hbb hP
        go_wp2_with fail
        refine (unhide H1).mono ?_
        rintro e w2 ⟨rfl, d2⟩
        have hb2 := below_after hb d2
        have hE2 : w2.cell? ⟨0, 0, none⟩ = some (.iface 155 (.pointer (some a0))) := unhide HE w2 d2
        clear H1 d2 hb hcell HE
        go_wp2
        go_ret
        exact ⟨by rw [unhide HF]; rfl, hb2⟩
    · obtain rfl : k = N := by omega
      have HF := hide (show chkV a0 (Ls.all basis) = .nilIface by
        have : Ls.all basis = true := by
          rw [List.all_eq_true]
          intro L hL
          exact unhide hP L (by rw [List.take_of_length_le (by rw [unhide HL]; exact Nat.le_refl _)]; exact hL)
        rw [this]; rfl)
      clear hP
      go_wp2
      go_ret
      exact ⟨by rw [unhide HF]; rfl, hb⟩
end Go.Proofs.YtoiipedomgefaaaGreatDoor


/-
  PLAIN: the ways of impl's chapter 13: a joined list of two classes, the first element that is beyond, straight permutations by their order. Nothing here speaks of the program.
-/

namespace Go.Proofs.YtoiipedomgefaaaGreatDoor
set_option maxRecDepth 100000

/-! UnionUpTo -/
theorem outU_same {X Y : List (List Int)} (h : ∀ x, x ∈ X ↔ x ∈ Y) (p : List Int) : outU X p = outU Y p := by
  have e : ∀ q : List Int, decide (q ∈ X ++ [[]]) = decide (q ∈ Y ++ [[]]) := fun q => by rw [decide_eq_decide, List.mem_append, List.mem_append, h q]
  unfold outU lowIn
  rw [e p]
  congr 2
  congr 1
  funext q
  exact e q
theorem bu_same {X Y : List (List Int)} (hX : allP X = true) (hY : allP Y = true) {k : Nat} (hk : k ≤ 6) (h : ∀ x, x ∈ X ↔ x ∈ Y) : buR X (k : Int) = buR Y (k : Int) := by
  rw [buR_yes hX hk, buR_yes hY hk, ← bu_all X k hk, ← bu_all Y k hk]
  exact List.filter_congr fun p _ => by rw [outU_same h p]
theorem uni_join (a b : List (List Int)) {k : Nat} (hk : k ≤ 5) : buR (clsU a k ++ clsU b k) (k : Int) = buR (uniN a b (k + 1)) (k : Int) := by
  refine bu_same (allP_yes fun z hz => ?_) (allP_yes fun z hz => uniN_P (by omega) z hz) (by omega) fun x => ?_
  · rcases List.mem_append.1 hz with hz | hz
    · exact (clsU_mem (by omega) hz).1
    · exact (clsU_mem (by omega) hz).1
  · rw [clsU_all, clsU_all]
    unfold allC uniN
    rw [List.mem_append, List.mem_flatMap, List.mem_flatMap, List.mem_flatMap]
    constructor
    · rintro (⟨j, hj, hx⟩ | ⟨j, hj, hx⟩)
      · exact ⟨j, hj, List.mem_append_left _ hx⟩
      · exact ⟨j, hj, List.mem_append_right _ hx⟩
    · rintro ⟨j, hj, hx⟩
      rcases List.mem_append.1 hx with hx | hx
      · exact .inl ⟨j, hj, hx⟩
      · exact .inr ⟨j, hj, hx⟩
/-! FirstBeyond -/
/-- The first one beyond is an element of b. -/
theorem bey_mem {a b : List (List Int)} (ha : basis a = true) (hb : basis b = true) {m : Nat} (hm : m ≤ 6) {p : List Int} (h : (allU m).find? (beyP a b) = some p) : p ∈ b ∧ avo a p = true := by
  have h1 := List.find?_some h
  obtain ⟨hp, hpl⟩ := (mem_allU hm).1 (List.mem_of_find?_eq_some h)
  unfold beyP at h1
  simp only [Bool.and_eq_true, Bool.not_eq_true'] at h1
  obtain ⟨q, hq, hpq⟩ := avo_not h1.2
  have hqp := (basis_isP hb q hq).1
  obtain ⟨hl, he⟩ := hasO_len hp hqp hpq
  by_cases hne : q.length = p.length
  · rw [← he hne]
    exact ⟨hq, by rw [he hne]; exact h1.1⟩
  · exfalso
    have hqa : avo a q = true := avo_yes.2 fun s hs => by
      cases hh : hasO q s with
      | false => rfl
      | true =>
        have h2 := hasO_trans hp hqp (basis_isP ha s hs).1 hpq hh
        rw [avo_yes.1 h1.1 s hs] at h2; cases h2
    have hbey : beyP a b q = true := by unfold beyP; rw [hqa, avo_own hq hqp]; rfl
    have hbef : befL q p = true := by rw [befL_ne hne]; exact decide_eq_true (by omega)
    obtain ⟨_, k, hk, hkp, hno⟩ := List.find?_eq_some_iff_getElem.1 h
    have hmem := asc_take (allU_asc m hm) (k := k) (p := p) (by rw [List.getElem?_eq_getElem hk, hkp]) ((mem_allU hm).2 ⟨hqp, by omega⟩) hbef
    obtain ⟨j, hj, hjq⟩ := List.getElem_of_mem hmem
    rw [List.length_take] at hj
    rw [List.getElem_take] at hjq
    have := hno j (by omega)
    rw [hjq, hbey] at this
    cases this
theorem asc_le {b : List (List Int)} (hb : basis b = true) {i j : Nat} {x y : List Int} (hx : b[i]? = some x) (hy : b[j]? = some y) (hij : i ≤ j) : x = y ∨ befL x y = true := by
  obtain ⟨h1, rfl⟩ := List.getElem?_eq_some_iff.1 hx
  obtain ⟨h2, rfl⟩ := List.getElem?_eq_some_iff.1 hy
  have hA := basis_asc hb
  unfold Asc at hA
  rcases Nat.lt_or_ge i j with h | h
  · exact .inr (List.pairwise_iff_getElem.1 hA i j h1 h2 h)
  · obtain rfl : i = j := by omega
    exact .inl rfl
theorem at_late {b : List (List Int)} {f : List Int → Bool} {i : Nat} {p : List Int} (hp : p ∈ b) (hf : f p = true) (hno : ∀ y ∈ b.take i, f y = false) : ∃ j, i ≤ j ∧ b[j]? = some p := by
  obtain ⟨j, hj, rfl⟩ := List.getElem_of_mem hp
  refine ⟨j, ?_, List.getElem?_eq_getElem hj⟩
  apply Classical.byContradiction
  intro hlt
  have := hno b[j] (List.mem_of_getElem? (i := j) (by rw [List.getElem?_take_of_lt (by omega)]; exact List.getElem?_eq_getElem hj))
  rw [hf] at this; cases this
theorem bey_none_at {a b : List (List Int)} (ha : basis a = true) (hb : basis b = true) {m : Nat} (hm : m ≤ 6) (h : ∀ q ∈ b, avo a q = false) : beyF a b (m : Int) = none := by
  rw [bey_yes ha hb hm]
  cases hf : (allU m).find? (beyP a b) with
  | none => rfl
  | some p =>
    obtain ⟨h1, h2⟩ := bey_mem ha hb hm hf
    rw [h p h1] at h2; cases h2
theorem bey_long {a b : List (List Int)} (ha : basis a = true) (hb : basis b = true) {m i : Nat} (hm : m ≤ 6) {z : List Int} (hz : b[i]? = some z) (hno : ∀ y ∈ b.take i, avo a y = false) (hl : m < z.length) : beyF a b (m : Int) = none := by
  rw [bey_yes ha hb hm]
  cases hf : (allU m).find? (beyP a b) with
  | none => rfl
  | some p =>
    obtain ⟨h1, h2⟩ := bey_mem ha hb hm hf
    obtain ⟨j, hj, hpj⟩ := at_late h1 h2 hno
    have h3 := ((mem_allU hm).1 (List.mem_of_find?_eq_some hf)).2
    rcases asc_le hb hz hpj hj with rfl | h4
    · omega
    · have := befL_len h4
      omega
theorem bey_at {a b : List (List Int)} (ha : basis a = true) (hb : basis b = true) {m i : Nat} (hm : m ≤ 6) {z : List Int} (hz : b[i]? = some z) (hza : avo a z = true) (hno : ∀ y ∈ b.take i, avo a y = false) (hl : z.length ≤ m) : beyF a b (m : Int) = some z := by
  rw [bey_yes ha hb hm]
  have hzb := List.mem_of_getElem? hz
  have hzp := (basis_isP hb z hzb).1
  have hbey : beyP a b z = true := by unfold beyP; rw [hza, avo_own hzb hzp]; rfl
  have hzm := (mem_allU hm).2 ⟨hzp, hl⟩
  cases hf : (allU m).find? (beyP a b) with
  | none =>
    have := List.find?_eq_none.1 hf z hzm
    rw [hbey] at this
    exact absurd rfl this
  | some p =>
    obtain ⟨h1, h2⟩ := bey_mem ha hb hm hf
    obtain ⟨j, hj, hpj⟩ := at_late h1 h2 hno
    rcases asc_le hb hz hpj hj with rfl | h4
    · rfl
    · exfalso
      obtain ⟨_, k, hk, hkp, hno2⟩ := List.find?_eq_some_iff_getElem.1 hf
      have hmem := asc_take (allU_asc m hm) (k := k) (p := p) (by rw [List.getElem?_eq_getElem hk, hkp]) hzm h4
      obtain ⟨l, hl2, hlz⟩ := List.getElem_of_mem hmem
      rw [List.length_take] at hl2
      rw [List.getElem_take] at hlz
      have := hno2 l (by omega)
      rw [hlz, hbey] at this
      cases this
end Go.Proofs.YtoiipedomgefaaaGreatDoor


/-
  slices.IndexFunc and ContainsFunc over rows that are read place by place, for each closure of chapter 13. (Written by wip/tools/mkidxa.py.)
-/

namespace Go.Proofs.YtoiipedomgefaaaGreatDoor
set_option maxRecDepth 100000
open Go.RowKit

set_option maxHeartbeats 800000 in
theorem idxaMB_any (A : Option Addr) (n c : Nat) (zss : List (List Int)) (f : List Int → Bool) (w : World) (hS : AtS w A n zss) (hn : n ≤ 1048576)
    (HP : Hid (∀ (w1 : World), Below w.heap.size w w1 → ∀ (A1 : Option Addr) (c1 : Nat) (z : List Int), z ∈ zss → Arg w1 w1.heap.size A1 z.length c1 z → Calls Tryz.prog 85 #[.slice A1 z.length c1] w1 (GivesB w1 (f z)))) :
    Calls Tryz.prog 110 #[.slice A n c, .func (.func 85) #[] #[]] w (FirstAt w f zss) := by
  have hl := hS.1
  have HS := hide hS
  have HL := hide hl
  have hb0 := Below.refl w.heap.size w
  clear hS hl
  go_enter Tryz.func110, Tryz.ntmps110
  go_wp2
  go_loopw [5, 8] (fun _ i wr => ∃ k : Nat, k ≤ n ∧ i = .int .i64 k ∧ Below w.heap.size w wr ∧ Hid (∀ y ∈ zss.take k, f y = false)) (fun _ i _ => n - (intOf i).toNat)
  case atStart => exact ⟨0, Nat.zero_le _, rfl, hb0, fun y hy => by simp at hy⟩
  case round =>
    obtain ⟨k, hk, rfl, hb, hno⟩ := hrel
    clear hb0
    by_cases hlt : k < n
    · obtain ⟨ad, A1, c1, z, rfl, hzk, hcell, hI⟩ := (unhide HS).2 wr hb k hlt
      obtain ⟨b, hbf⟩ : ∃ b, f z = b := ⟨_, rfl⟩
      have H1 := hide (unhide HP wr hb A1 c1 z (List.mem_of_getElem? hzk) hI)
      rw [hbf] at H1
      obtain ⟨lz, hlz⟩ : ∃ l, l = z.length := ⟨_, rfl⟩
      rw [← hlz] at hcell H1
      cases b with
      | true =>
        have HE := hide (⟨hzk, hbf⟩ : _ ∧ _)
        clear hI hzk hbf hlz
        go_wp2_with fail
        refine (unhide H1).mono ?_
        rintro e w2 ⟨rfl, d2⟩
        have hb2 := below_after hb d2
        clear H1 d2 hb
        go_wp2
        go_ret
        exact ⟨(k : Int), rfl, .inr ⟨k, z, rfl, (unhide HE).1, (unhide HE).2, unhide hno⟩, hb2⟩
      | false =>
        have hno2 := hide (no_step hzk hbf (unhide hno))
        clear hI hzk hbf hno hlz
        go_wp2_with fail
        refine (unhide H1).mono ?_
        rintro e w2 ⟨rfl, d2⟩
        have hb2 := below_after hb d2
        clear H1 d2 hb
        go_wp2
        go_roundw
        case rel => exact ⟨k + 1, by omega, by go_num, hb2, hno2⟩
        case measure => simp [intOf]; omega
    · obtain rfl : n = k := by omega
      have hno2 := hide (show ∀ y ∈ zss, f y = false by
        have h := unhide hno
        rwa [List.take_of_length_le (by rw [unhide HL]; exact Nat.le_refl _)] at h)
      clear hno
      go_wp2
      go_ret
      exact ⟨-1, rfl, .inl ⟨rfl, unhide hno2⟩, hb⟩
theorem conaMB_any (A : Option Addr) (n c : Nat) (zss : List (List Int)) (f : List Int → Bool) (w : World) (hS : AtS w A n zss) (hn : n ≤ 1048576)
    (HP : Hid (∀ (w1 : World), Below w.heap.size w w1 → ∀ (A1 : Option Addr) (c1 : Nat) (z : List Int), z ∈ zss → Arg w1 w1.heap.size A1 z.length c1 z → Calls Tryz.prog 85 #[.slice A1 z.length c1] w1 (GivesB w1 (f z)))) :
    Calls Tryz.prog 65 #[.slice A n c, .func (.func 85) #[] #[]] w (GivesB w (zss.any f)) := by
  have H1 := hide (idxaMB_any A n c zss f w hS hn HP)
  clear hS HP
  go_enter Tryz.func65, Tryz.ntmps65
  go_wp2_with fail
  refine (unhide H1).mono ?_
  rintro e w1 ⟨x, rfl, hx, d1⟩
  have HX := hide (show decide (0 ≤ x) = zss.any f by
    rcases hx with ⟨rfl, h⟩ | ⟨k, z, rfl, hz, hf, _⟩
    · symm
      rw [show decide ((0 : Int) ≤ -1) = false from rfl, List.any_eq_false]
      exact fun z hz => by rw [h z hz]; simp
    · symm
      rw [decide_eq_true (by omega), List.any_eq_true]
      exact ⟨z, List.mem_of_getElem? hz, hf⟩)
  clear H1 hx
  go_wp2
  go_ret
  exact ⟨by rw [← unhide HX]; rfl, d1⟩
set_option maxHeartbeats 800000 in
theorem idxaIB_any (bx : Nat) (A : Option Addr) (n c : Nat) (zss : List (List Int)) (f : List Int → Bool) (w : World) (hS : AtS w A n zss) (hn : n ≤ 1048576)
    (HP : Hid (∀ (w1 : World), Below w.heap.size w w1 → ∀ (A1 : Option Addr) (c1 : Nat) (z : List Int), z ∈ zss → Arg w1 w1.heap.size A1 z.length c1 z → Calls Tryz.prog 111 #[.slice A1 z.length c1, .pointer (some ⟨bx, 0, none⟩)] w1 (GivesB w1 (f z)))) :
    Calls Tryz.prog 110 #[.slice A n c, .func (.func 111) #[] #[.pointer (some ⟨bx, 0, none⟩)]] w (FirstAt w f zss) := by
  have hl := hS.1
  have HS := hide hS
  have HL := hide hl
  have hb0 := Below.refl w.heap.size w
  clear hS hl
  go_enter Tryz.func110, Tryz.ntmps110
  go_wp2
  go_loopw [5, 8] (fun _ i wr => ∃ k : Nat, k ≤ n ∧ i = .int .i64 k ∧ Below w.heap.size w wr ∧ Hid (∀ y ∈ zss.take k, f y = false)) (fun _ i _ => n - (intOf i).toNat)
  case atStart => exact ⟨0, Nat.zero_le _, rfl, hb0, fun y hy => by simp at hy⟩
  case round =>
    obtain ⟨k, hk, rfl, hb, hno⟩ := hrel
    clear hb0
    by_cases hlt : k < n
    · obtain ⟨ad, A1, c1, z, rfl, hzk, hcell, hI⟩ := (unhide HS).2 wr hb k hlt
      obtain ⟨b, hbf⟩ : ∃ b, f z = b := ⟨_, rfl⟩
      have H1 := hide (unhide HP wr hb A1 c1 z (List.mem_of_getElem? hzk) hI)
      rw [hbf] at H1
      obtain ⟨lz, hlz⟩ : ∃ l, l = z.length := ⟨_, rfl⟩
      rw [← hlz] at hcell H1
      cases b with
      | true =>
        have HE := hide (⟨hzk, hbf⟩ : _ ∧ _)
        clear hI hzk hbf hlz
        go_wp2_with fail
        refine (unhide H1).mono ?_
        rintro e w2 ⟨rfl, d2⟩
        have hb2 := below_after hb d2
        clear H1 d2 hb
        go_wp2
        go_ret
        exact ⟨(k : Int), rfl, .inr ⟨k, z, rfl, (unhide HE).1, (unhide HE).2, unhide hno⟩, hb2⟩
      | false =>
        have hno2 := hide (no_step hzk hbf (unhide hno))
        clear hI hzk hbf hno hlz
        go_wp2_with fail
        refine (unhide H1).mono ?_
        rintro e w2 ⟨rfl, d2⟩
        have hb2 := below_after hb d2
        clear H1 d2 hb
        go_wp2
        go_roundw
        case rel => exact ⟨k + 1, by omega, by go_num, hb2, hno2⟩
        case measure => simp [intOf]; omega
    · obtain rfl : n = k := by omega
      have hno2 := hide (show ∀ y ∈ zss, f y = false by
        have h := unhide hno
        rwa [List.take_of_length_le (by rw [unhide HL]; exact Nat.le_refl _)] at h)
      clear hno
      go_wp2
      go_ret
      exact ⟨-1, rfl, .inl ⟨rfl, unhide hno2⟩, hb⟩
set_option maxHeartbeats 800000 in
theorem idxaIS_any (A : Option Addr) (n c : Nat) (zss : List (List Int)) (f : List Int → Bool) (w : World) (hS : AtS w A n zss) (hn : n ≤ 1048576)
    (HP : Hid (∀ (w1 : World), Below w.heap.size w w1 → ∀ (A1 : Option Addr) (c1 : Nat) (z : List Int), z ∈ zss → Arg w1 w1.heap.size A1 z.length c1 z → Calls Tryz.prog 66 #[.slice A1 z.length c1] w1 (GivesB w1 (f z)))) :
    Calls Tryz.prog 110 #[.slice A n c, .func (.func 66) #[] #[]] w (FirstAt w f zss) := by
  have hl := hS.1
  have HS := hide hS
  have HL := hide hl
  have hb0 := Below.refl w.heap.size w
  clear hS hl
  go_enter Tryz.func110, Tryz.ntmps110
  go_wp2
  go_loopw [5, 8] (fun _ i wr => ∃ k : Nat, k ≤ n ∧ i = .int .i64 k ∧ Below w.heap.size w wr ∧ Hid (∀ y ∈ zss.take k, f y = false)) (fun _ i _ => n - (intOf i).toNat)
  case atStart => exact ⟨0, Nat.zero_le _, rfl, hb0, fun y hy => by simp at hy⟩
  case round =>
    obtain ⟨k, hk, rfl, hb, hno⟩ := hrel
    clear hb0
    by_cases hlt : k < n
    · obtain ⟨ad, A1, c1, z, rfl, hzk, hcell, hI⟩ := (unhide HS).2 wr hb k hlt
      obtain ⟨b, hbf⟩ : ∃ b, f z = b := ⟨_, rfl⟩
      have H1 := hide (unhide HP wr hb A1 c1 z (List.mem_of_getElem? hzk) hI)
      rw [hbf] at H1
      obtain ⟨lz, hlz⟩ : ∃ l, l = z.length := ⟨_, rfl⟩
      rw [← hlz] at hcell H1
      cases b with
      | true =>
        have HE := hide (⟨hzk, hbf⟩ : _ ∧ _)
        clear hI hzk hbf hlz
        go_wp2_with fail
        refine (unhide H1).mono ?_
        rintro e w2 ⟨rfl, d2⟩
        have hb2 := below_after hb d2
        clear H1 d2 hb
        go_wp2
        go_ret
        exact ⟨(k : Int), rfl, .inr ⟨k, z, rfl, (unhide HE).1, (unhide HE).2, unhide hno⟩, hb2⟩
      | false =>
        have hno2 := hide (no_step hzk hbf (unhide hno))
        clear hI hzk hbf hno hlz
        go_wp2_with fail
        refine (unhide H1).mono ?_
        rintro e w2 ⟨rfl, d2⟩
        have hb2 := below_after hb d2
        clear H1 d2 hb
        go_wp2
        go_roundw
        case rel => exact ⟨k + 1, by omega, by go_num, hb2, hno2⟩
        case measure => simp [intOf]; omega
    · obtain rfl : n = k := by omega
      have hno2 := hide (show ∀ y ∈ zss, f y = false by
        have h := unhide hno
        rwa [List.take_of_length_le (by rw [unhide HL]; exact Nat.le_refl _)] at h)
      clear hno
      go_wp2
      go_ret
      exact ⟨-1, rfl, .inl ⟨rfl, unhide hno2⟩, hb⟩
theorem conaIS_any (A : Option Addr) (n c : Nat) (zss : List (List Int)) (f : List Int → Bool) (w : World) (hS : AtS w A n zss) (hn : n ≤ 1048576)
    (HP : Hid (∀ (w1 : World), Below w.heap.size w w1 → ∀ (A1 : Option Addr) (c1 : Nat) (z : List Int), z ∈ zss → Arg w1 w1.heap.size A1 z.length c1 z → Calls Tryz.prog 66 #[.slice A1 z.length c1] w1 (GivesB w1 (f z)))) :
    Calls Tryz.prog 65 #[.slice A n c, .func (.func 66) #[] #[]] w (GivesB w (zss.any f)) := by
  have H1 := hide (idxaIS_any A n c zss f w hS hn HP)
  clear hS HP
  go_enter Tryz.func65, Tryz.ntmps65
  go_wp2_with fail
  refine (unhide H1).mono ?_
  rintro e w1 ⟨x, rfl, hx, d1⟩
  have HX := hide (show decide (0 ≤ x) = zss.any f by
    rcases hx with ⟨rfl, h⟩ | ⟨k, z, rfl, hz, hf, _⟩
    · symm
      rw [show decide ((0 : Int) ≤ -1) = false from rfl, List.any_eq_false]
      exact fun z hz => by rw [h z hz]; simp
    · symm
      rw [decide_eq_true (by omega), List.any_eq_true]
      exact ⟨z, List.mem_of_getElem? hz, hf⟩)
  clear H1 hx
  go_wp2
  go_ret
  exact ⟨by rw [← unhide HX]; rfl, d1⟩
set_option maxHeartbeats 800000 in
theorem idxaID_any (A : Option Addr) (n c : Nat) (zss : List (List Int)) (f : List Int → Bool) (w : World) (hS : AtS w A n zss) (hn : n ≤ 1048576)
    (HP : Hid (∀ (w1 : World), Below w.heap.size w w1 → ∀ (A1 : Option Addr) (c1 : Nat) (z : List Int), z ∈ zss → Arg w1 w1.heap.size A1 z.length c1 z → Calls Tryz.prog 67 #[.slice A1 z.length c1] w1 (GivesB w1 (f z)))) :
    Calls Tryz.prog 110 #[.slice A n c, .func (.func 67) #[] #[]] w (FirstAt w f zss) := by
  have hl := hS.1
  have HS := hide hS
  have HL := hide hl
  have hb0 := Below.refl w.heap.size w
  clear hS hl
  go_enter Tryz.func110, Tryz.ntmps110
  go_wp2
  go_loopw [5, 8] (fun _ i wr => ∃ k : Nat, k ≤ n ∧ i = .int .i64 k ∧ Below w.heap.size w wr ∧ Hid (∀ y ∈ zss.take k, f y = false)) (fun _ i _ => n - (intOf i).toNat)
  case atStart => exact ⟨0, Nat.zero_le _, rfl, hb0, fun y hy => by simp at hy⟩
  case round =>
    obtain ⟨k, hk, rfl, hb, hno⟩ := hrel
    clear hb0
    by_cases hlt : k < n
    · obtain ⟨ad, A1, c1, z, rfl, hzk, hcell, hI⟩ := (unhide HS).2 wr hb k hlt
      obtain ⟨b, hbf⟩ : ∃ b, f z = b := ⟨_, rfl⟩
      have H1 := hide (unhide HP wr hb A1 c1 z (List.mem_of_getElem? hzk) hI)
      rw [hbf] at H1
      obtain ⟨lz, hlz⟩ : ∃ l, l = z.length := ⟨_, rfl⟩
      rw [← hlz] at hcell H1
      cases b with
      | true =>
        have HE := hide (⟨hzk, hbf⟩ : _ ∧ _)
        clear hI hzk hbf hlz
        go_wp2_with fail
        refine (unhide H1).mono ?_
        rintro e w2 ⟨rfl, d2⟩
        have hb2 := below_after hb d2
        clear H1 d2 hb
        go_wp2
        go_ret
        exact ⟨(k : Int), rfl, .inr ⟨k, z, rfl, (unhide HE).1, (unhide HE).2, unhide hno⟩, hb2⟩
      | false =>
        have hno2 := hide (no_step hzk hbf (unhide hno))
        clear hI hzk hbf hno hlz
        go_wp2_with fail
        refine (unhide H1).mono ?_
        rintro e w2 ⟨rfl, d2⟩
        have hb2 := below_after hb d2
        clear H1 d2 hb
        go_wp2
        go_roundw
        case rel => exact ⟨k + 1, by omega, by go_num, hb2, hno2⟩
        case measure => simp [intOf]; omega
    · obtain rfl : n = k := by omega
      have hno2 := hide (show ∀ y ∈ zss, f y = false by
        have h := unhide hno
        rwa [List.take_of_length_le (by rw [unhide HL]; exact Nat.le_refl _)] at h)
      clear hno
      go_wp2
      go_ret
      exact ⟨-1, rfl, .inl ⟨rfl, unhide hno2⟩, hb⟩
theorem conaID_any (A : Option Addr) (n c : Nat) (zss : List (List Int)) (f : List Int → Bool) (w : World) (hS : AtS w A n zss) (hn : n ≤ 1048576)
    (HP : Hid (∀ (w1 : World), Below w.heap.size w w1 → ∀ (A1 : Option Addr) (c1 : Nat) (z : List Int), z ∈ zss → Arg w1 w1.heap.size A1 z.length c1 z → Calls Tryz.prog 67 #[.slice A1 z.length c1] w1 (GivesB w1 (f z)))) :
    Calls Tryz.prog 65 #[.slice A n c, .func (.func 67) #[] #[]] w (GivesB w (zss.any f)) := by
  have H1 := hide (idxaID_any A n c zss f w hS hn HP)
  clear hS HP
  go_enter Tryz.func65, Tryz.ntmps65
  go_wp2_with fail
  refine (unhide H1).mono ?_
  rintro e w1 ⟨x, rfl, hx, d1⟩
  have HX := hide (show decide (0 ≤ x) = zss.any f by
    rcases hx with ⟨rfl, h⟩ | ⟨k, z, rfl, hz, hf, _⟩
    · symm
      rw [show decide ((0 : Int) ≤ -1) = false from rfl, List.any_eq_false]
      exact fun z hz => by rw [h z hz]; simp
    · symm
      rw [decide_eq_true (by omega), List.any_eq_true]
      exact ⟨z, List.mem_of_getElem? hz, hf⟩)
  clear H1 hx
  go_wp2
  go_ret
  exact ⟨by rw [← unhide HX]; rfl, d1⟩
set_option maxHeartbeats 800000 in
theorem idxaSC_any (A : Option Addr) (n c : Nat) (zss : List (List Int)) (f : List Int → Bool) (w : World) (hS : AtS w A n zss) (hn : n ≤ 1048576)
    (HP : Hid (∀ (w1 : World), Below w.heap.size w w1 → ∀ (A1 : Option Addr) (c1 : Nat) (z : List Int), z ∈ zss → Arg w1 w1.heap.size A1 z.length c1 z → Calls Tryz.prog 69 #[.slice A1 z.length c1] w1 (GivesB w1 (f z)))) :
    Calls Tryz.prog 110 #[.slice A n c, .func (.func 69) #[] #[]] w (FirstAt w f zss) := by
  have hl := hS.1
  have HS := hide hS
  have HL := hide hl
  have hb0 := Below.refl w.heap.size w
  clear hS hl
  go_enter Tryz.func110, Tryz.ntmps110
  go_wp2
  go_loopw [5, 8] (fun _ i wr => ∃ k : Nat, k ≤ n ∧ i = .int .i64 k ∧ Below w.heap.size w wr ∧ Hid (∀ y ∈ zss.take k, f y = false)) (fun _ i _ => n - (intOf i).toNat)
  case atStart => exact ⟨0, Nat.zero_le _, rfl, hb0, fun y hy => by simp at hy⟩
  case round =>
    obtain ⟨k, hk, rfl, hb, hno⟩ := hrel
    clear hb0
    by_cases hlt : k < n
    · obtain ⟨ad, A1, c1, z, rfl, hzk, hcell, hI⟩ := (unhide HS).2 wr hb k hlt
      obtain ⟨b, hbf⟩ : ∃ b, f z = b := ⟨_, rfl⟩
      have H1 := hide (unhide HP wr hb A1 c1 z (List.mem_of_getElem? hzk) hI)
      rw [hbf] at H1
      obtain ⟨lz, hlz⟩ : ∃ l, l = z.length := ⟨_, rfl⟩
      rw [← hlz] at hcell H1
      cases b with
      | true =>
        have HE := hide (⟨hzk, hbf⟩ : _ ∧ _)
        clear hI hzk hbf hlz
        go_wp2_with fail
        refine (unhide H1).mono ?_
        rintro e w2 ⟨rfl, d2⟩
        have hb2 := below_after hb d2
        clear H1 d2 hb
        go_wp2
        go_ret
        exact ⟨(k : Int), rfl, .inr ⟨k, z, rfl, (unhide HE).1, (unhide HE).2, unhide hno⟩, hb2⟩
      | false =>
        have hno2 := hide (no_step hzk hbf (unhide hno))
        clear hI hzk hbf hno hlz
        go_wp2_with fail
        refine (unhide H1).mono ?_
        rintro e w2 ⟨rfl, d2⟩
        have hb2 := below_after hb d2
        clear H1 d2 hb
        go_wp2
        go_roundw
        case rel => exact ⟨k + 1, by omega, by go_num, hb2, hno2⟩
        case measure => simp [intOf]; omega
    · obtain rfl : n = k := by omega
      have hno2 := hide (show ∀ y ∈ zss, f y = false by
        have h := unhide hno
        rwa [List.take_of_length_le (by rw [unhide HL]; exact Nat.le_refl _)] at h)
      clear hno
      go_wp2
      go_ret
      exact ⟨-1, rfl, .inl ⟨rfl, unhide hno2⟩, hb⟩
theorem conaSC_any (A : Option Addr) (n c : Nat) (zss : List (List Int)) (f : List Int → Bool) (w : World) (hS : AtS w A n zss) (hn : n ≤ 1048576)
    (HP : Hid (∀ (w1 : World), Below w.heap.size w w1 → ∀ (A1 : Option Addr) (c1 : Nat) (z : List Int), z ∈ zss → Arg w1 w1.heap.size A1 z.length c1 z → Calls Tryz.prog 69 #[.slice A1 z.length c1] w1 (GivesB w1 (f z)))) :
    Calls Tryz.prog 65 #[.slice A n c, .func (.func 69) #[] #[]] w (GivesB w (zss.any f)) := by
  have H1 := hide (idxaSC_any A n c zss f w hS hn HP)
  clear hS HP
  go_enter Tryz.func65, Tryz.ntmps65
  go_wp2_with fail
  refine (unhide H1).mono ?_
  rintro e w1 ⟨x, rfl, hx, d1⟩
  have HX := hide (show decide (0 ≤ x) = zss.any f by
    rcases hx with ⟨rfl, h⟩ | ⟨k, z, rfl, hz, hf, _⟩
    · symm
      rw [show decide ((0 : Int) ≤ -1) = false from rfl, List.any_eq_false]
      exact fun z hz => by rw [h z hz]; simp
    · symm
      rw [decide_eq_true (by omega), List.any_eq_true]
      exact ⟨z, List.mem_of_getElem? hz, hf⟩)
  clear H1 hx
  go_wp2
  go_ret
  exact ⟨by rw [← unhide HX]; rfl, d1⟩
end Go.Proofs.YtoiipedomgefaaaGreatDoor


/-
  THE LAST STEP OF A LAW: the walk's answer 'true' and 'nothing below the call's own blocks has turned' give the row's post. One lemma for all laws.
-/

namespace Go.Proofs.YtoiipedomgefaaaGreatDoor
set_option maxRecDepth 100000
open Go.ChangeShapes Go.WideShapes Go.ChangeAt Go.RowKit

theorem trodAll_below {H : Type} {enc : TypeId × Value → H} {P : Program} (hl : laidOutB P = true) {W W' : World} (hb : Below W.heap.size W W') :
    ∀ (ts : List TypeId) (vs : List Value) (ds : List (DataW H)) (ps : List MemPlace), (∀ t ∈ ts, P.readableRec t = true ∧ t < P.types.size) → (∀ x ∈ ps, x.block < W.heap.size) →
      DataW.TrodAll enc P W 0 (fun _ => true) true ts vs ds ps → DataW.TrodAll enc P W' 0 (fun b => decide (b < W.heap.size)) true ts vs ds ps
  | [], vs, ds, ps, _, _, h => by
    obtain ⟨rfl, rfl, rfl⟩ := trodAll_nil h
    exact trodAll_mk0
  | t :: ts, vs, ds, ps, ht, hp, h => by
    obtain ⟨v, vs1, d, ds1, a, b, rfl, rfl, rfl, h1, h2⟩ := trodAll_cons h
    exact ⟨a, b, Below.trod hl (ht t (by simp)).1 (ht t (by simp)).2 h1 hb (fun x hx => hp x (by simp [hx])),
      trodAll_below hl hb ts vs1 ds1 b (fun t' h' => ht t' (by simp [h'])) (fun x hx => hp x (by simp [hx])) h2, rfl⟩

theorem law_end {H : Type} {enc : TypeId × Value → H} {P : Program} {f : Func} {s : ChangeSpec} {W W' : World} {args : Array Value} {ds gs : List (DataW H)} {before : List MemPlace} {tb : TypeId}
    (hl : laidOutB P = true) (hts : ∀ t ∈ f.params.toList, P.readableRec t = true ∧ t < P.types.size) (hb4 : P.underlying tb = some .bool) (hrt : f.resultTypes = #[tb]) (hv : s.vars = [])
    (hW : DataW.Whole enc P f.params.toList s.vars false W args.toList ds gs before)
    (hfn : s.fn H (ds ++ gs) = { results := [.lit (.bool true)], args := ds }) (hbel : Below W.heap.size W W') :
    s.post enc P f false true false false W args (.bool true) W' := by
  have hlt : ∀ x ∈ before, x.block < W.heap.size := fun x hx => by simpa using hW.lt x hx
  have hW' := hW
  obtain ⟨p, q, hA, hV, rfl, _, _⟩ := hW
  rw [hv] at hV
  obtain ⟨rfl, rfl⟩ := trodVars_none hV
  have hargs := trodAll_below hl hbel _ _ _ _ hts (fun x hx => hlt x (by simp [hx])) hA
  refine ⟨ds, [], _, [] ++ [], p, [], hW', ?_, ?_, ?_, hbel.frame _, fun h => by cases h⟩
  · rw [hfn, hrt]; exact trodAll_mk1 (shut_bool hb4 _)
  · rw [hfn]; exact hargs
  · rw [hfn, hv]; rfl

theorem lt_of_row {W : World} {a : Addr} {m j : Nat} (hlt : ∀ x ∈ MemPlace.row a m, x.block < W.heap.size) (hj : j < m) : a.block < W.heap.size :=
  hlt (.cell a.block (a.off + j)) (MemPlace.mem_row.2 ⟨j, hj, rfl⟩)

/-- An argument []string, as 'Reads'. -/
theorem open_strs_reads {H : Type} {enc : TypeId × Value → H} {P : Program} {w : World} {r : Reach} {b0 t e : TypeId} {v : Value} {d : DataW H} {ps : List MemPlace} (ht : P.underlying t = some (.slice e)) (he : P.underlying e = some .string) (hc : P.cellsOf e = 1)
    (hval : Value.okWide P w r b0 t v) (h : DataW.Trod enc P w 0 (fun _ => true) true t v d ps) (hlt : ∀ x ∈ ps, x.block < w.heap.size) :
    ∃ (A : Option Addr) (n c : Nat) (ss : List ByteArray), v = .slice A n c ∧ Reads w w.heap.size A n (ss.map Value.string) ∧ n ≤ maxLen ∧ ∀ s ∈ ss, s.size ≤ maxLen := by
  obtain ⟨a0, len, cap, rfl⟩ := okWide_slice ht hval
  obtain ⟨fuel, hf⟩ := h
  rcases open_strings ht he hc hf with ⟨hcs, hx⟩ | ⟨a, len', cap', ss, hcs, _, hl, hm, hz, hx, hcell, hws⟩
  · simp [Value.cells] at hcs
    obtain ⟨rfl, rfl, rfl⟩ := hcs
    exact ⟨none, 0, 0, [], rfl, Reads.none_, Nat.zero_le _, by simp⟩
  · simp [Value.cells] at hcs
    obtain ⟨rfl, rfl, rfl⟩ := hcs
    simp only [Prod.mk.injEq] at hx
    obtain ⟨rfl, rfl⟩ := hx
    simp only [if_true] at hz
    refine ⟨some a, len, cap, ss.take len, rfl, ⟨by simp; omega, fun hn => ⟨a, rfl, lt_of_row (j := 0) hlt (by omega), fun j u hu => ?_⟩⟩, by omega, fun s hs => hws s (List.mem_of_mem_take hs)⟩
    rw [List.getElem?_map, List.getElem?_take] at hu
    by_cases hj : j < len
    · rw [if_pos hj] at hu
      rw [hcell j (by omega), ← hu, List.getD_eq_getElem?_getD]
      have : ss[j]? = some ss[j] := List.getElem?_eq_getElem (by omega)
      rw [this]; rfl
    · rw [if_neg hj] at hu; cases hu

/-- An argument of integers, as 'Reads'. -/
theorem open_ints_reads {H : Type} {enc : TypeId × Value → H} {P : Program} {w : World} {r : Reach} {b0 t e : TypeId} {ik : IntKind} {v : Value} {d : DataW H} {ps : List MemPlace} (ht : P.underlying t = some (.slice e)) (he : P.underlying e = some (.int ik)) (hc : P.cellsOf e = 1)
    (hval : Value.okWide P w r b0 t v) (h : DataW.Trod enc P w 0 (fun _ => true) true t v d ps) (hlt : ∀ x ∈ ps, x.block < w.heap.size) :
    ∃ (A : Option Addr) (n c : Nat) (zs : List Int), v = .slice A n c ∧ Reads w w.heap.size A n (zs.map (Value.int ik)) ∧ n ≤ maxLen ∧ ∀ z ∈ zs, (Lit.int ik z).wf = true := by
  obtain ⟨a0, len, cap, rfl⟩ := okWide_slice ht hval
  obtain ⟨fuel, hf⟩ := h
  rcases open_ints ht he hc hf with ⟨hcs, hx⟩ | ⟨a, len', cap', zs, hcs, _, hl, hm, hz, hx, hcell, hws⟩
  · simp [Value.cells] at hcs
    obtain ⟨rfl, rfl, rfl⟩ := hcs
    exact ⟨none, 0, 0, [], rfl, Reads.none_, Nat.zero_le _, by simp⟩
  · simp [Value.cells] at hcs
    obtain ⟨rfl, rfl, rfl⟩ := hcs
    simp only [Prod.mk.injEq] at hx
    obtain ⟨rfl, rfl⟩ := hx
    simp only [if_true] at hz
    refine ⟨some a, len, cap, zs.take len, rfl, ⟨by simp; omega, fun hn => ⟨a, rfl, lt_of_row (j := 0) hlt (by omega), fun j u hu => ?_⟩⟩, by omega, fun s hs => hws s (List.mem_of_mem_take hs)⟩
    rw [List.getElem?_map, List.getElem?_take] at hu
    by_cases hj : j < len
    · rw [if_pos hj] at hu
      rw [hcell j (by omega), ← hu, List.getD_eq_getElem?_getD]
      have : zs[j]? = some zs[j] := List.getElem?_eq_getElem (by omega)
      rw [this]; rfl
    · rw [if_neg hj] at hu; cases hu
theorem bytes_of_wf : ∀ (zs : List Int), (∀ z ∈ zs, (Lit.int .u8 z).wf = true) → ∃ bs : List UInt8, zs.map (Value.int .u8) = u8s bs
  | [], _ => ⟨[], rfl⟩
  | z :: r, h => by
    obtain ⟨bs, hb⟩ := bytes_of_wf r (fun y hy => h y (by simp [hy]))
    have hz : 0 ≤ z ∧ z ≤ 255 := by simpa [Lit.wf, IntKind.min, IntKind.max, IntKind.signed, IntKind.bits] using h z (by simp)
    refine ⟨UInt8.ofNat z.toNat :: bs, ?_⟩
    have e : ((UInt8.ofNat z.toNat).toNat : Int) = z := by rw [UInt8.toNat_ofNat']; omega
    simp only [u8s, List.map_cons, e]
    rw [hb]; rfl
theorem open_bytes_reads {H : Type} {enc : TypeId × Value → H} {P : Program} {w : World} {r : Reach} {b0 t e : TypeId} {v : Value} {d : DataW H} {ps : List MemPlace} (ht : P.underlying t = some (.slice e)) (he : P.underlying e = some (.int .u8)) (hc : P.cellsOf e = 1)
    (hval : Value.okWide P w r b0 t v) (h : DataW.Trod enc P w 0 (fun _ => true) true t v d ps) (hlt : ∀ x ∈ ps, x.block < w.heap.size) :
    ∃ (A : Option Addr) (n c : Nat) (bs : List UInt8), v = .slice A n c ∧ Reads w w.heap.size A n (u8s bs) ∧ n ≤ maxLen := by
  obtain ⟨A, n, c, zs, rfl, hr, hn, hw⟩ := open_ints_reads ht he hc hval h hlt
  obtain ⟨bs, hb⟩ := bytes_of_wf zs hw
  exact ⟨A, n, c, bs, rfl, by rw [← hb]; exact hr, hn⟩
theorem cellsByte : Tryz.prog.cellsOf 5 = 1 := by kernel_rfl

theorem laidOut : laidOutB Tryz.prog = true := by kernel_rfl
theorem own : ownKnob Tryz.prog.godebug = none := by kernel_rfl
end Go.Proofs.YtoiipedomgefaaaGreatDoor


/-
  LISTS OF ROWS AS ARGUMENTS: how they read; szIntS, szIntSS, toIntSS by their contracts.
-/

namespace Go.Proofs.YtoiipedomgefaaaGreatDoor
set_option maxRecDepth 100000
open Go.RowKit Go.ChangeShapes Go.WideShapes Go.ChangeAt

/-- The slice value '.slice A n c' holds rows that read as the lists zss, all below block B. -/
structure ReadsS (w : World) (B : Nat) (A : Option Addr) (n : Nat) (zss : List (List Int)) : Prop where
  len : zss.length = n
  rows : 0 < n → ∃ ad, A = some ad ∧ ad.block < B ∧ ∀ (j : Nat) z, zss[j]? = some z → ∃ A' c', w.cell? (ad.add j) = some (.slice A' z.length c') ∧ Reads w B A' z.length (i64s z)
theorem ReadsS.below {w w' : World} {B n : Nat} {A : Option Addr} {zss : List (List Int)} (h : ReadsS w B A n zss) (hb : Below B w w') : ReadsS w' B A n zss :=
  ⟨h.len, fun hn => by
    obtain ⟨ad, e, h1, h2⟩ := h.rows hn
    refine ⟨ad, e, h1, fun j z hz => ?_⟩
    obtain ⟨A', c', h3, h4⟩ := h2 j z hz
    exact ⟨A', c', (hb.cell (by rw [block_of_add]; exact h1)).trans h3, h4.below hb⟩⟩
theorem ReadsS.at_ {w : World} {B n k : Nat} {A : Option Addr} {zss : List (List Int)} (h : ReadsS w B A n zss) (hk : k < n) : ∃ ad A' c' z, A = some ad ∧ zss[k]? = some z ∧ w.cell? (ad.add k) = some (.slice A' z.length c') ∧ Reads w B A' z.length (i64s z) := by
  obtain ⟨ad, e, h1, h2⟩ := h.rows (by omega)
  have hz : zss[k]? = some (zss[k]'(by rw [h.len]; exact hk)) := List.getElem?_eq_getElem _
  obtain ⟨A', c', h3, h4⟩ := h2 k _ hz
  exact ⟨ad, A', c', _, e, hz, h3, h4⟩
theorem list_of {β : Type} {P : Nat → β → Prop} : ∀ n : Nat, (∀ i, i < n → ∃ z, P i z) → ∃ l : List β, l.length = n ∧ ∀ (i : Nat) z, l[i]? = some z → P i z
  | 0, _ => ⟨[], rfl, fun i z h => by simp at h⟩
  | n + 1, h => by
    obtain ⟨l, h1, h2⟩ := list_of n fun i hi => h i (by omega)
    obtain ⟨z, hz⟩ := h n (by omega)
    refine ⟨l ++ [z], by simp [h1], fun i y hy => ?_⟩
    by_cases hi : i < l.length
    · rw [List.getElem?_append_left hi] at hy
      exact h2 i y hy
    · rw [List.getElem?_append_right (by omega)] at hy
      have h0 : i - l.length = 0 := by
        have := (List.getElem?_eq_some_iff.1 hy).1
        simp at this
        omega
      rw [h0] at hy
      simp at hy
      subst hy
      rw [show i = n by omega]
      exact hz
/-- An argument [][]int, as 'ReadsS'. -/
theorem open_intss_reads {H : Type} {enc : TypeId × Value → H} {P : Program} {w : World} {r : Reach} {b0 t e ei : TypeId} {v : Value} {d : DataW H} {ps : List MemPlace} (ht : P.underlying t = some (.slice e)) (he : P.underlying e = some (.slice ei)) (hei : P.underlying ei = some (.int .i64)) (hc : P.cellsOf e = 1) (hci : P.cellsOf ei = 1)
    (hval : Value.okWide P w r b0 t v) (h : DataW.Trod enc P w 0 (fun _ => true) true t v d ps) (hlt : ∀ x ∈ ps, x.block < w.heap.size) :
    ∃ (A : Option Addr) (n c : Nat) (zss : List (List Int)), v = .slice A n c ∧ ReadsS w w.heap.size A n zss ∧ n ≤ maxLen ∧ ∀ z ∈ zss, z.length ≤ maxLen ∧ Small z := by
  obtain ⟨a0, len, cap, rfl⟩ := okWide_slice ht hval
  obtain ⟨fuel, hf⟩ := h
  rcases DataW.trod_slice ht hf with ⟨hcs, hx⟩ | ⟨a, len', cap', elems, rest, m, _, hcs, hx, _, hl, hm, hlen, hel, _, _⟩
  · simp [Value.cells] at hcs
    obtain ⟨rfl, rfl, rfl⟩ := hcs
    exact ⟨none, 0, 0, [], rfl, ⟨rfl, fun h => absurd h (by omega)⟩, Nat.zero_le _, by simp⟩
  · simp [Value.cells] at hcs
    obtain ⟨rfl, rfl, rfl⟩ := hcs
    simp only [Prod.mk.injEq] at hx
    obtain ⟨_, rfl⟩ := hx
    have each : ∀ i, i < len → ∃ z : List Int, (∃ A' c', w.cell? (a.add i) = some (.slice A' z.length c') ∧ Reads w w.heap.size A' z.length (i64s z)) ∧ z.length ≤ maxLen ∧ Small z := by
      intro i hi
      have h1 := hel i hi
      rw [hc, Nat.mul_one, List.getElem?_eq_getElem (by omega), Option.bind_eq_some_iff] at h1
      obtain ⟨cs', hcs', htr⟩ := h1
      have hq : ∀ x ∈ (elems[i]'(by omega)).2, x.block < w.heap.size := fun x hx => hlt x (by
        refine List.mem_append.2 (.inr (List.mem_flatMap.2 ⟨elems[i]'(by omega), List.mem_append.2 (.inl (List.getElem_mem _)), hx⟩))
      )
      rcases open_ints he hei hci htr with ⟨rfl, _⟩ | ⟨a', len'', cap'', zs, rfl, _, hl', hm', hz, hx', hcell, hws⟩
      · exact ⟨[], ⟨none, 0, cell_of_cells?_one hcs', Reads.none_⟩, Nat.zero_le _, fun z hz => by simp at hz⟩
      · simp only [if_true] at hz
        have e1 : (zs.take len'').length = len'' := by rw [List.length_take]; omega
        refine ⟨zs.take len'', ⟨some a', cap'', by rw [e1]; exact cell_of_cells?_one hcs', ?_⟩, by omega, small_of_wf fun z hz => hws z (List.mem_of_mem_take hz)⟩
        refine ⟨by rw [i64_length], fun hn => ⟨a', rfl, ?_, fun j u hu => ?_⟩⟩
        · rw [hx'] at hq
          exact lt_of_row (j := 0) hq (by omega)
        · unfold i64s at hu
          rw [List.getElem?_map, List.getElem?_take] at hu
          by_cases hj : j < len''
          · rw [if_pos hj] at hu
            rw [hcell j (by omega), ← hu, List.getD_eq_getElem?_getD]
            have : zs[j]? = some zs[j] := List.getElem?_eq_getElem (by omega)
            rw [this]; rfl
          · rw [if_neg hj] at hu; cases hu
    obtain ⟨zss, hz1, hz2⟩ := list_of len each
    refine ⟨some a, len, cap, zss, rfl, ⟨hz1, fun hn => ⟨a, rfl, ?_, fun j z hz => (hz2 j z hz).1⟩⟩, by omega, fun z hz => ?_⟩
    · rw [hc] at hlt
      refine lt_of_row (m := (elems.length + rest.length) * 1) (j := 0) (fun x hx => hlt x (List.mem_append.2 (.inl hx))) (by omega)
    · obtain ⟨i, hi, rfl⟩ := List.getElem_of_mem hz
      exact (hz2 i _ (List.getElem?_eq_getElem hi)).2
theorem cellsRow : Tryz.prog.cellsOf 36 = 1 := by kernel_rfl

theorem szi_any (A : Option Addr) (n c : Nat) (L : Int) (hL : 0 ≤ L ∧ L ≤ 1048576) (hn : n ≤ maxLen) (w : World) :
    Calls Tryz.prog 76 #[.slice A n c, .int .i64 L] w fun e w' => e = .returned (.int .i64 (if L < n then -1 else L - n)) ∧ w = w' := by
  unfold maxLen at hn
  obtain ⟨hL1, hL2⟩ := hL
  by_cases hlt : L < n
  · rw [if_pos hlt]
    have h1 : L - (n : Int) < 0 := by omega
    go_enter Tryz.func76, Tryz.ntmps76
    go_wp2
    go_ret
    exact ⟨rfl, rfl⟩
  · rw [if_neg hlt]
    have h1 : ¬ L - (n : Int) < 0 := by omega
    go_enter Tryz.func76, Tryz.ntmps76
    go_wp2
    go_ret
    exact ⟨rfl, rfl⟩
/-- What szIntSS gives: what is left, or -1. -/
def szR (L : Int) (n : Nat) (zss : List (List Int)) : Int := if L < n + tot zss then -1 else L - n - tot zss
set_option maxHeartbeats 400000 in
theorem sziss_any (A : Option Addr) (n c B : Nat) (zss : List (List Int)) (L : Int) (hL : 0 ≤ L ∧ L ≤ 1048576) (w : World) (hr : ReadsS w B A n zss) (hn : n ≤ maxLen) (hz : ∀ z ∈ zss, z.length ≤ maxLen) :
    Calls Tryz.prog 34 #[.slice A n c, .int .i64 L] w fun e w' => e = .returned (.int .i64 (szR L n zss)) ∧ w = w' := by
  obtain ⟨r, hrr⟩ : ∃ r, szR L n zss = r := ⟨_, rfl⟩
  rw [hrr]
  have HR := hide hrr
  have HL := hide hr.len
  have HZ := hide hz
  unfold maxLen at hn
  obtain ⟨hL1, hL2⟩ := hL
  clear hrr hz
  by_cases hlt : L < n
  · obtain rfl : r = -1 := by
      rw [← unhide HR]
      unfold szR
      rw [if_pos (by omega)]
    have h1 : L - (n : Int) < 0 := by omega
    go_enter Tryz.func34, Tryz.ntmps34
    go_wp2
    go_ret
    exact ⟨rfl, rfl⟩
  · have h1 : ¬ L - (n : Int) < 0 := by omega
    go_enter Tryz.func34, Tryz.ntmps34
    go_wp2
    go_loop [1, 5] (fun lv i => ∃ (k : Nat) (l : Int), k ≤ n ∧ i = .int .i64 k ∧ lv = .int .i64 l ∧ 0 ≤ l ∧ l ≤ 1048576 ∧ Hid (l = L - n - tot (zss.take k))) (fun _ i => n - (intOf i).toNat)
    case atStart => exact ⟨0, L - n, Nat.zero_le _, rfl, by go_num, by omega, by omega, by exact (by simp [tot] : L - (n : Int) = L - n - tot (zss.take 0))⟩
    case round =>
      obtain ⟨k, l, hk, rfl, rfl, hl0, hl1, hle⟩ := hrel
      by_cases hlt2 : k < n
      · obtain ⟨ad, A1, c1, z, rfl, hzk, hcell, _⟩ := hr.at_ hlt2
        have hzl := unhide HZ z (List.mem_of_getElem? hzk)
        have hst := tot_step hzk
        have htk := tot_take zss (k + 1)
        have H1 := hide (szi_any A1 z.length c1 l ⟨hl0, hl1⟩ hzl w)
        by_cases hlt3 : l < z.length
        · rw [if_pos hlt3] at H1
          obtain rfl : r = -1 := by
            rw [← unhide HR]
            unfold szR
            have := unhide hle
            rw [if_pos (by omega)]
          clear hzk hzl hst htk hle
          go_wp2_with fail
          refine (unhide H1).mono ?_
          rintro e w' ⟨rfl, rfl⟩
          clear H1
          go_wp2
          go_ret
          exact ⟨rfl, rfl⟩
        · rw [if_neg hlt3] at H1
          have hnext : Hid (l - (z.length : Int) = L - n - tot (zss.take (k + 1))) := hide (by have := unhide hle; omega)
          have h0 : ¬ l - (z.length : Int) < 0 := by omega
          clear hzk hzl hst htk hle
          go_wp2_with fail
          refine (unhide H1).mono ?_
          rintro e w' ⟨rfl, rfl⟩
          clear H1
          go_wp2
          go_round
          case rel => exact ⟨k + 1, _, by omega, by go_num, rfl, by omega, by omega, hnext⟩
          case measure => simp [intOf]; omega
      · obtain rfl : n = k := by omega
        obtain rfl : r = l := by
          rw [← unhide HR]
          have := unhide hle
          rw [List.take_of_length_le (by rw [unhide HL]; exact Nat.le_refl _)] at this
          unfold szR
          rw [if_neg (by omega), this]
        clear hle
        go_wp2
        go_ret
        exact ⟨rfl, rfl⟩
set_option maxHeartbeats 400000 in
theorem toiss_any (A : Option Addr) (n c B : Nat) (zss : List (List Int)) (w : World) (hr : ReadsS w B A n zss) (hB : B ≤ w.heap.size) (hn : n ≤ 1048576) (hz : ∀ z ∈ zss, z.length ≤ 1048576) :
    Calls Tryz.prog 35 #[.slice A n c] w fun e w' => ∃ g, e = .returned (.slice (some ⟨g, 0, none⟩) n n) ∧ IntsS w' w.heap.size (.slice (some ⟨g, 0, none⟩) n n) zss ∧ Below w.heap.size w w' := by
  obtain ⟨i0, hi, hz0, hz1, hz2⟩ := info_parts rowsInfo1
  have HL := hide hr.len
  have HZ := hide hz
  clear hz
  go_enter Tryz.func35, Tryz.ntmps35
  go_wp2_with (first
    | (at_make; refine wpList_make_full _ rfl (.tmp 6) (.tmp 6) 24 rfl w.heap.size 36 i0 (.slice none 0 0) 1 Tryz.underlying24 hi hz0 hz1 _ _ _ _ n rfl rfl (by first | rfl | omega) (by first | rfl | omega) (by rw [hz2]; omega) (by unfold maxLen; omega) (Nat.le_refl _) ?_; intro w1 hown hg))
  have hF := Filled.start (zss := zss) (unhide HL) (Below.refl w.heap.size w) hown hg
  clear hown hg
  obtain ⟨g, hgw⟩ : ∃ g, g = w.heap.size := ⟨_, rfl⟩
  rw [← hgw] at hF ⊢
  clear hgw
  go_loopw [4] (fun i wr => ∃ k : Nat, k ≤ n ∧ i = .int .i64 k ∧ Filled w wr g n zss k) (fun i _ => n - (intOf i).toNat)
  case atStart => exact ⟨0, Nat.zero_le _, rfl, hF⟩
  case round =>
    obtain ⟨k, hk, rfl, hF⟩ := hrel
    by_cases hlt : k < n
    · obtain ⟨ad, A1, c1, z, rfl, hzk, hcell, hR⟩ := (hr.below (hF.below.mono hB)).at_ hlt
      have hzl := unhide HZ z (List.mem_of_getElem? hzk)
      have H1 := hide (toi_any A1 z.length c1 B z wr hR (Nat.le_trans hB hF.below.size) (by omega))
      have HF := hide hF
      have HZK := hide hzk
      clear hzk hR hzl hF
      go_wp2_with fail
      refine (unhide H1).mono ?_
      rintro e w3 ⟨rfl, o3, d3⟩
      obtain ⟨⟨old, hold⟩, hfz⟩ := (unhide HF).old d3 hlt
      have hF2 := (unhide HF).put (unhide HZK) d3 o3
      clear H1 d3 o3 HF HZK
      go_wp2
      go_roundw
      case rel => exact ⟨k + 1, by omega, by go_num, hF2⟩
      case measure => simp [intOf]; omega
    · obtain rfl : n = k := by omega
      obtain ⟨hbw, vs, hown, hin⟩ := hF
      have hfin : IntsS wr w.heap.size (.slice (some ⟨g, 0, none⟩) n n) zss := by
        have h1 := unhide HL
        subst h1
        rw [fillS_all] at hin
        exact ⟨vs, hown, hin⟩
      clear hown hin
      go_wp2
      go_ret
      exact ⟨g, rfl, hfin, hbw⟩
end Go.Proofs.YtoiipedomgefaaaGreatDoor


/-
  impl.sumOfAll: a list of rows that reads, by its contract. (Written by wip/tools/mkall.py.)
-/

namespace Go.Proofs.YtoiipedomgefaaaGreatDoor
set_option maxRecDepth 100000
open Go.RowKit

theorem flat_part {s : Bool} {L : Nat} {zss : List (List Int)} {k : Nat} {z : List Int} (h : zss[k]? = some z) :
    flatAll s L (zss.take (k + 1)) 0 = flatAll s L (zss.take k) 0 ++ z.map (fun v => v + ((if s then L - tot (zss.take k) - z.length else tot (zss.take k) : Nat) : Int)) := by
  rw [take_snoc_r h, flatAll_snoc]
  simp only [Nat.zero_add]
theorem ReadsS.at2 {w wr : World} {B n k : Nat} {A : Option Addr} {zss : List (List Int)} (h : ReadsS w B A n zss) (hb : Below B w wr) (hk : k < n) : ∃ ad A' c' z, A = some ad ∧ zss[k]? = some z ∧ wr.cell? (ad.add k) = some (.slice A' z.length c') ∧ Reads w B A' z.length (i64s z) := by
  obtain ⟨ad, e, h1, h2⟩ := h.rows (by omega)
  have hz : zss[k]? = some (zss[k]'(by rw [h.len]; exact hk)) := List.getElem?_eq_getElem _
  obtain ⟨A', c', h3, h4⟩ := h2 k _ hz
  exact ⟨ad, A', c', _, e, hz, (hb.cell (by rw [block_of_add]; exact h1)).trans h3, h4⟩
theorem flatAll_length (s : Bool) (L : Nat) : ∀ (l : List (List Int)) (n : Nat), (flatAll s L l n).length = tot l
  | [], _ => by simp [flatAll, tot]
  | z :: l, n => by
    rw [flatAll, List.length_append, flatAll_length s L l]
    simp [tot]
theorem map_take_step {z : List Int} {j : Nat} {x r : Int} (h : z[j]? = some x) : (z.take (j + 1)).map (fun v => v + r) = (z.take j).map (fun v => v + r) ++ [x + r] := by rw [take_snoc_i h, List.map_append]; rfl
theorem i64s_app (a b : List Int) : i64s (a ++ b) = i64s a ++ i64s b := by unfold i64s; rw [List.map_append]

end Go.Proofs.YtoiipedomgefaaaGreatDoor


/-
  spec.l4Fit, spec.l4Join, spec.SumOf, spec.SkewSumOf, by their contracts.
-/

namespace Go.Proofs.YtoiipedomgefaaaGreatDoor
set_option maxRecDepth 100000
open Go.RowKit

def bitI (b : Bool) : Int := if b then 1 else 0
theorem bit_any (b : Bool) (w : World) : Calls Tryz.prog 49 #[.bool b] w fun e w' => e = .returned (.int .i64 (bitI b)) ∧ w' = w := by
  cases b with
  | true => exact bit_true w
  | false => exact bit_false w
theorem joinL_at1 {s : Bool} {p q : List Int} {k : Nat} {z : Int} (h : p[k]? = some z) : (joinL s p q)[k]? = some (z + bitI s * (q.length : Int)) := by
  have hk : k < p.length := (List.getElem?_eq_some_iff.1 h).1
  cases s with
  | true =>
    simp only [joinL, if_true, bitI]
    rw [List.getElem?_append_left (by simpa using hk), List.getElem?_map, h, Int.one_mul]; rfl
  | false =>
    simp only [joinL, bitI, Bool.false_eq_true, if_false]
    rw [List.getElem?_append_left hk, h, Int.zero_mul, Int.add_zero]
theorem joinL_at2 {s : Bool} {p q : List Int} {k : Nat} {z : Int} (h : q[k]? = some z) : (joinL s p q)[p.length + k]? = some (z + bitI (!s) * (p.length : Int)) := by
  cases s with
  | true =>
    simp only [joinL, if_true, bitI, Bool.not_true, Bool.false_eq_true, if_false]
    rw [List.getElem?_append_right (by simp), List.length_map, Nat.add_sub_cancel_left, h, Int.zero_mul, Int.add_zero]
  | false =>
    simp only [joinL, bitI, Bool.not_false, if_true, Bool.false_eq_true, if_false]
    rw [List.getElem?_append_right (by omega), Nat.add_sub_cancel_left, List.getElem?_map, h, Int.one_mul]; rfl
theorem bit_le (s : Bool) (n : Nat) : 0 ≤ bitI s * (n : Int) ∧ bitI s * (n : Int) ≤ n := by
  cases s
  · simp [bitI]
  · simp [bitI]

theorem keep_low {B : Nat} {wr w : World} {p : Addr} {v : Value} (h : wr.cell? p = some v) (hp : p.block < B) (hb : Below B wr w) : w.cell? p = some v ∧ Below B wr w := ⟨(hb.cell hp).trans h, hb⟩
end Go.Proofs.YtoiipedomgefaaaGreatDoor


/-
  impl.SumOf, impl.SkewSumOf, impl.JoinParts; spec.JoinParts, by their contracts. (Written by wip/tools/mkjoins.py.)
-/

namespace Go.Proofs.YtoiipedomgefaaaGreatDoor
set_option maxRecDepth 100000
open Go.RowKit

theorem IntsS.readsS {w : World} {B n c : Nat} {A : Option Addr} {zss : List (List Int)} (h : IntsS w B (.slice A n c) zss) : ReadsS w w.heap.size A n zss := by
  refine ⟨h.len, fun hn => ?_⟩
  obtain ⟨ad, A', c', z, e, _⟩ := h.at_ hn
  subst e
  refine ⟨ad, rfl, ?_, fun j z hz => ?_⟩
  · have hl := h.len
    subst hl
    obtain ⟨vs, hown, hin⟩ := h
    obtain ⟨ad', he, hb, _⟩ := (Reads.of_own_at hown).2 hn
    injection he with he
    subst he
    exact hb
  · have hj : j < n := by have := (List.getElem?_eq_some_iff.1 hz).1; have := h.len; omega
    obtain ⟨ad2, A2, c2, z2, e2, hz2, hc, hI⟩ := h.at_ hj
    injection e2 with e2
    subst e2
    rw [hz] at hz2
    injection hz2 with hz2
    subst hz2
    exact ⟨A2, c2, hc, hI.reads⟩
theorem allFit_two (p q : List Int) : allFit [p, q] = fit p q := by simp [allFit, allP, fit, tot]
theorem joins_two (s : Bool) (p q : List Int) : joinsR s [p, q] = joinR s p q := by
  have e : joinAll s [p, q] = joinL s p q := by
    have h0 : joinL s [] p = p := by cases s <;> simp [joinL]
    simp [joinAll, h0]
  unfold joinsR joinR
  rw [allFit_two, e]

end Go.Proofs.YtoiipedomgefaaaGreatDoor
