/-
  Words and contracts that the laws lean on, bundled: Skews, TreeS, Aside, TreeP, TreeQ, TreeN, RootM, DrawF, OccM.
-/
import Derived.Test.YtinnlhfdgbeibaaGreatB4
import Derived.Test.YtinnlhfdgbeibaaGreatB6
import Derived.Test.YtinnlhfdgbeibaaGreatB2
import Derived.Test.YtinnlhfdgbeibaaGreatB1
import Derived.Maps.AppendAt
import Derived.Deep.RegionLaw
import Derived.Laws.ResultCell
import Derived.Test.YtinnlhfdgbeibaaGreatB3
import Derived.Test.YtinnlhfdgbeibaaGreatB5
import Derived.Deep.RegionHeld3

/-
  spec.SkewParts, impl.SkewParts, by their contracts.
-/

namespace Go.Proofs.YtinnlhfdgbeibaaGreat
set_option maxRecDepth 100000
open Go.RowKit

theorem map_take_snoc {l : List (List Int)} {k : Nat} {z : List Int} (h : l[k]? = some z) : (l.take (k + 1)).map cplL = (l.take k).map cplL ++ [cplL z] := by rw [take_snoc_r h, List.map_append]; rfl
/-- The list under way: k of the rows turned. -/
def halfC (l : List (List Int)) (k : Nat) : List (List Int) := (l.take k).map cplL ++ l.drop k
theorem halfC_zero (l : List (List Int)) : halfC l 0 = l := by simp [halfC]
theorem halfC_all (l : List (List Int)) : halfC l l.length = l.map cplL := by simp [halfC]
theorem halfC_at {l : List (List Int)} {k : Nat} {z : List Int} (h : l[k]? = some z) : (halfC l k)[k]? = some z := by
  have hk := (List.getElem?_eq_some_iff.1 h).1
  unfold halfC
  rw [List.getElem?_append_right (by simp; omega), List.getElem?_drop]
  simp only [List.length_map, List.length_take]
  rw [show min k l.length = k by omega, Nat.sub_self, Nat.add_zero]
  exact h
theorem halfC_set {l : List (List Int)} {k : Nat} {z : List Int} (h : l[k]? = some z) : (halfC l k).set k (cplL z) = halfC l (k + 1) := by
  have hk := (List.getElem?_eq_some_iff.1 h).1
  unfold halfC
  rw [map_take_snoc h, List.set_append, if_neg (by simp; omega), List.append_assoc]
  congr 1
  simp only [List.length_map, List.length_take]
  rw [show k - min k l.length = 0 by omega, List.drop_eq_getElem_cons hk, List.set_cons_zero]
  rfl

set_option maxHeartbeats 800000 in
theorem sskews_any (A : Option Addr) (n c B : Nat) (zs : List Int) (w : World) (h : Arg w B A n c zs) :
    Calls Tryz.prog 65 #[.slice A n c] w (GivesSS w (skewsR zs)) := by
  obtain ⟨b, hb⟩ : ∃ b, isP zs = b := ⟨_, rfl⟩
  have hI0 := IntsS.made0 w w.heap.size (Nat.le_refl _)
  have hbel := (Below.refl w.heap.size w).alloc (Nat.le_refl _) (.cells #[] 24)
  have H0 := hide (sisperm_any A n c B zs b hb _ (h.below hbel).reads h.le h.cap)
  cases b with
  | false =>
    rw [skewsR_no hb]
    clear hb h
    go_enter Tryz.func65, Tryz.ntmps65
    go_wp2_with fail
    refine (unhide H0).mono ?_
    rintro e w1 ⟨rfl, hd⟩
    have hb := hbel.trans (hd.below w.heap.size)
    have hI := hI0.below (hd.below _)
    clear hd H0 hI0 hbel
    go_wp2
    go_ret
    exact GivesSS.mk hI hb
  | true =>
    have H1 := hide (fun w' (hb' : Below w.heap.size w w') => l3cpl_any A n c B zs w' (h.below hb') hb)
    have HP := hide (isP_cpl hb)
    have HR := hide (skewsR_yes hb)
    have hsm := partsR_small (cplL zs)
    obtain ⟨ps, hps⟩ : ∃ ps, ps = partsR (cplL zs) := ⟨_, rfl⟩
    have hpP : ∀ z ∈ ps, isP z = true := fun z hz => partsR_isP (by rw [← hps]; exact hz)
    rw [← hps] at HR hsm
    have HPS := hide hps
    have HPP := hide hpP
    obtain ⟨hl8, _⟩ := hsm
    clear hb h hps hpP
    go_enter Tryz.func65, Tryz.ntmps65
    go_wp2_with fail
    refine (unhide H0).mono ?_
    rintro e w1 ⟨rfl, hd⟩
    have hb1 := hbel.trans (hd.below w.heap.size)
    have hI1 := hI0.below (hd.below _)
    have H2 := hide (unhide H1 w1 hb1)
    clear hd H0 hI0 hbel H1
    go_wp2_with fail
    refine (unhide H2).mono ?_
    rintro e w2 ⟨A2, c2, rfl, own2, hb2⟩
    have H3 := hide (sparts_any A2 _ c2 _ _ w2 (own2.argP (unhide HP)))
    have hI2 := hI1.below hb2
    have hb3 := below_after hb1 hb2
    clear H2 own2 hI1 hb2 hb1
    go_wp2_with fail
    refine (unhide H3).mono ?_
    rintro e w4 ⟨A4, c4, rfl, own4, hb4⟩
    clear H3
    have hI4 := hI2.below hb4
    have haw : Away (.slice A4 (partsR (cplL zs)).length c4) (.slice (some ⟨w.heap.size, 0, none⟩) 0 0) := by
      cases A4 with
      | none => exact .inl rfl
      | some a4 =>
        refine .inr fun e => ?_
        obtain ⟨ys, ho, _⟩ := own4
        have h5 := (ho.lt _ rfl).1
        have h6 : w.heap.size < w2.heap.size := by
          obtain ⟨xs, ho2, _⟩ := hI2
          exact (ho2.lt _ rfl).2
        have e2 : a4.block = w.heap.size := by simpa [Value.ownBlock] using e
        omega
    have hb5 := below_after hb3 hb4
    rw [← unhide HPS] at own4 haw ⊢
    clear hI2 hb3 hb4
    go_wp2
    go_loopw [3, 5] (fun v i wr => ∃ k : Nat, k ≤ ps.length ∧ i = .int .i64 k ∧ Below w.heap.size w wr ∧ IntsS wr w.heap.size v ((ps.take k).map cplL) ∧ IntsS wr w2.heap.size (.slice A4 ps.length c4) ps ∧ Away (.slice A4 ps.length c4) v) (fun _ i _ => ps.length - (intOf i).toNat)
    case atStart => exact ⟨0, Nat.zero_le _, rfl, hb5, hI4, own4, haw⟩
    case round =>
      obtain ⟨k, hk, rfl, hbw, hI, hL, ha⟩ := hrel
      clear hI4 own4 haw hb5
      by_cases hlt : k < ps.length
      · obtain ⟨ad, A1, c1, z, rfl, hz, hcell, hIz⟩ := hL.at_ hlt
        have hzP := unhide HPP z (List.mem_of_getElem? hz)
        have H6 := hide (l3cpl_any A1 z.length c1 _ z wr (hIz.argP hzP) hzP)
        have hnext := hide (map_take_snoc hz)
        have hsz := hbw.size
        have hln : ((ps.take k).map cplL).length ≤ 1048576 := by rw [List.length_map, List.length_take]; omega
        clear hz hIz hzP
        go_wp2_with fail
        refine (unhide H6).mono ?_
        rintro e w6 ⟨A6, c6, rfl, own6, hb6⟩
        clear H6
        have hb7 := below_after hbw hb6
        go_wp2_with (first
          | (at_builtin; refine wpList_push_row_at rfl (.tmp 20) (.tmp 26) rfl w.heap.size w wr w6 _ _ _ _ rfl rfl rfl hI hb6 own6 hln hb7 hsz ?_; intro v8 w8 hI8 hb8 hK8))
        obtain ⟨hL8, ha8⟩ := hK8 _ _ _ hL ha
        rw [← unhide hnext] at hI8
        clear hI hb6 own6 hb7 hbw hK8 hL ha hcell
        go_wp2
        go_roundw
        case rel => exact ⟨k + 1, by omega, by go_num, hb8, hI8, hL8, ha8⟩
        case measure => simp [intOf]; omega
      · obtain rfl : ps.length = k := by omega
        have hI2 : IntsS wr w.heap.size u3 (skewsR zs) := by rw [unhide HR]; rwa [List.take_length] at hI
        clear hI hL ha
        go_wp2
        go_ret
        exact GivesSS.mk hI2 hbw

set_option maxHeartbeats 800000 in
theorem iskews_any (A : Option Addr) (n c B : Nat) (zs : List Int) (w : World) (h : Arg w B A n c zs) :
    Calls Tryz.prog 31 #[.slice A n c] w (GivesSS w (skewsR zs)) := by
  obtain ⟨b, hb⟩ : ∃ b, isP zs = b := ⟨_, rfl⟩
  have H0 := hide (iisperm_any A n c B zs b hb w h.reads h.under h.le h.small)
  cases b with
  | false =>
    rw [skewsR_no hb]
    clear hb h
    go_enter Tryz.func31, Tryz.ntmps31
    go_wp2_with fail
    refine (unhide H0).mono ?_
    rintro e w1 ⟨rfl, hb⟩
    clear H0
    go_wp2
    go_ret
    exact GivesSS.mk (v := .slice none 0 0) (IntsS.nil _ _) hb
  | true =>
    have H1 := hide (fun w' (hb' : Below w.heap.size w w') => icpl_any A n c B zs w' (h.below hb'))
    rw [cplR_yes hb] at H1
    have HP := hide (isP_cpl hb)
    have HR := hide (skewsR_yes hb)
    have hsm := partsR_small (cplL zs)
    obtain ⟨ps, hps⟩ : ∃ ps, ps = partsR (cplL zs) := ⟨_, rfl⟩
    have hpP : ∀ z ∈ ps, isP z = true := fun z hz => partsR_isP (by rw [← hps]; exact hz)
    rw [← hps] at HR hsm
    have HPS := hide hps
    have HPP := hide hpP
    obtain ⟨hl8, _⟩ := hsm
    clear hb h hps hpP
    go_enter Tryz.func31, Tryz.ntmps31
    go_wp2_with fail
    refine (unhide H0).mono ?_
    rintro e w1 ⟨rfl, hb1⟩
    have H2 := hide (unhide H1 w1 hb1)
    clear H0 H1
    go_wp2_with fail
    refine (unhide H2).mono ?_
    rintro e w2 ⟨A2, c2, rfl, own2, hb2⟩
    have H3 := hide (iparts_any A2 _ c2 _ _ w2 (own2.argP (unhide HP)))
    have hb3 := below_after hb1 hb2
    clear H2 own2 hb2 hb1
    go_wp2_with fail
    refine (unhide H3).mono ?_
    rintro e w4 ⟨A4, c4, rfl, own4, hb4⟩
    clear H3
    have hb5 := below_after hb3 hb4
    have own5 := own4.low hb3.size
    rw [← unhide HPS] at own5 ⊢
    clear hb3 hb4 own4
    have hst : IntsS w4 w.heap.size (.slice A4 ps.length c4) (halfC ps 0) := by rw [halfC_zero]; exact own5
    clear own5
    go_wp2
    go_loopw [4, 5, 14] (fun _ _ i wr => ∃ k : Nat, k ≤ ps.length ∧ i = .int .i64 k ∧ Below w.heap.size w wr ∧ IntsS wr w.heap.size (.slice A4 ps.length c4) (halfC ps k)) (fun _ _ i _ => ps.length - (intOf i).toNat)
    case atStart => exact ⟨0, Nat.zero_le _, rfl, hb5, hst⟩
    case round =>
      obtain ⟨k, hk, rfl, hbw, hL⟩ := hrel
      clear hst hb5
      by_cases hlt : k < ps.length
      · obtain ⟨g, rfl⟩ := hL.shape (by omega)
        obtain ⟨ad, A1, c1, z, he, hz, hcell, hIz⟩ := hL.at_ hlt
        injection he with he
        subst he
        rw [show (⟨g, 0, none⟩ : Addr).add k = ⟨g, k, none⟩ by unfold Addr.add; split <;> simp_all] at hcell
        have hz2 : ps[k]? = some z := by
          have h9 : ps[k]? = some ps[k] := List.getElem?_eq_getElem hlt
          rw [halfC_at h9] at hz
          rw [h9, hz]
        have hzP := unhide HPP z (List.mem_of_getElem? hz2)
        have H6 := hide (icpl_any A1 z.length c1 _ z wr (hIz.argP hzP))
        rw [cplR_yes hzP] at H6
        have hnext := hide (halfC_set hz2)
        have hsz := hbw.size
        clear hz hz2 hIz hzP
        go_wp2_with fail
        refine (unhide H6).mono ?_
        rintro e w6 ⟨A6, c6, rfl, own6, hb6⟩
        clear H6
        have hb7 := below_after hbw hb6
        obtain ⟨⟨old, hold⟩, hfz, hge⟩ := (hL.below hb6).old (k := k) hlt
        have hL8 := hL.put (k := k) hb6 own6 hsz
        have hb8 := hb7.setCell (p := ⟨g, k, none⟩) hge (.slice A6 (cplL z).length c6)
        rw [unhide hnext] at hL8
        clear hbw hL hb6 own6 hb7 hge
        go_wp2
        go_roundw
        case rel => exact ⟨k + 1, by omega, by go_num, hb8, hL8⟩
        case measure => simp [intOf]; omega
      · obtain rfl : ps.length = k := by omega
        have hI2 : IntsS wr w.heap.size (.slice A4 ps.length c4) (skewsR zs) := by rw [unhide HR]; rwa [halfC_all] at hL
        clear hL
        go_wp2
        go_ret
        exact GivesSS.mk hI2 hbw
end Go.Proofs.YtinnlhfdgbeibaaGreat


/-
  spec.l6Sum, spec.l6Split, spec.SplitPerm, by their contracts.
-/

namespace Go.Proofs.YtinnlhfdgbeibaaGreat
set_option maxRecDepth 100000
open Go.RowKit

theorem infInfo : (Tryz.prog.info? 28).map (·.size) = some 2 := by kernel_rfl

set_option maxHeartbeats 1600000 in
theorem l6sum_any (A : Option Addr) (n c B : Nat) (s : Bool) (zss : List (List Int)) (w : World) (hS : IntsS w B (.slice A n c) zss) (hn : n ≤ 1048576) (h1 : 1 < n) (hsm : ∀ z ∈ zss, z.length ≤ 1048576 ∧ Small z) :
    Calls Tryz.prog 64 #[.slice A n c, .bool s] w (GivesX w (sumRoot s) (sumPcs s zss)) := by
  obtain ⟨g, rfl⟩ := hS.shape (by omega)
  have hAt := hS.atS hsm
  have hcap := hS.cap
  have hc1 : ¬ c = 1 := by omega
  have hc2 : (1 : Int) ≤ (c : Int) := by omega
  have hn2 : (1 : Int) ≤ (n : Int) := by omega
  have hbel := (Below.refl w.heap.size w).alloc (Nat.le_refl _) (.cells #[.slice none 0 0, .slice none 0 0] 28)
  have hAr := ((hAt.below hbel).rest (f := 1) (by omega))
  rw [show (⟨g, 0, none⟩ : Addr).add 1 = ⟨g, 1, none⟩ from rfl] at hAr
  have H1 := hide (fun c' => sjoinsA_any (some ⟨g, 1, none⟩) (n - 1) c' s (zss.drop 1) _ hAr (by omega))
  have HAT := hide hAt
  have hW := Whole.new w 28 #[.slice none 0 0, .slice none 0 0]
  have hz0 : 0 < zss.length := by have := hS.len; omega
  have HP : Hid (sumPcs s zss = [zss.headD [], joinsR s (zss.drop 1)]) := hide rfl
  have HH : Hid (zss[0]? = some (zss.headD [])) := hide (by cases zss with | nil => simp at hz0 | cons x r => rfl)
  obtain ⟨R, hR⟩ : ∃ R, joinsR s (zss.drop 1) = R := ⟨_, rfl⟩
  rw [hR] at H1 HP
  clear hS hAt hAr hsm hz0 hR
  go_enter Tryz.func64, Tryz.ntmps64
  go_wp2_with fail
  refine (unhide H1 _).mono ?_
  rintro e w2 ⟨A2, c2, rfl, own2, hb2⟩
  have hW2 := hW.below hb2 (by simp)
  have hb3 := below_after hbel hb2
  have hg2 : w.heap.size < w2.heap.size := by have := hb2.size; simp at this; omega
  clear H1 hW hb2
  cases s with
  | true =>
    have o1 := (Below.refl w2.heap.size w2).alloc (Nat.le_refl _) (.cells #[.int .i64 1, .int .i64 2] 3)
    have o2 := o1.alloc (by simp) (.cells #[.int .i64 2, .int .i64 1] 3)
    have o3 := o2.alloc (by simp; omega) (.cells #[] 3)
    have hrow := Ints.made2 (w2.alloc (.cells #[.int .i64 1, .int .i64 2] 3)) (w.heap.size + 1) 2 1 (by simp; omega)
    have hst := own0 ((w2.alloc (.cells #[.int .i64 1, .int .i64 2] 3)).alloc (.cells #[.int .i64 2, .int .i64 1] 3)) _ (Nat.le_refl _)
    have hb4 := below_after hb3 o3
    have own3 := own2.below o3
    have hu2 := own2.until_
    have hW3 := hW2.below o3 hg2
    obtain ⟨ad, A1, c1, z, he, hz, hcell, hArg⟩ := (unhide HAT).2 _ hb4 0 (by omega)
    injection he with he
    subst he
    rw [show (⟨g, 0, none⟩ : Addr).add 0 = ⟨g, 0, none⟩ from rfl] at hcell
    obtain rfl : zss.headD [] = z := by have := unhide HH; rw [hz] at this; exact (Option.some.inj this).symm
    obtain ⟨z, hzz⟩ : ∃ z, zss.headD [] = z := ⟨_, rfl⟩
    rw [hzz] at hcell hArg HP
    have hrow2 := hrow.below ((Below.refl _ _).alloc (Nat.le_refl _) (.cells #[] 3))
    simp only [World.size_alloc] at hst hrow2
    have hur : Until (w2.heap.size + 1 + 1) (.slice (some ⟨w2.heap.size + 1, 0, none⟩) 2 2) := fun k hk => by simp [Value.ownBlock] at hk; omega
    clear o1 o2 hrow own2 hz hzz hb3 HH HAT
    go_wp2_with (first
      | (at_builtin; refine wpList_append_arg rfl (.tmp 19) (.tmp 22) rfl (w2.heap.size + 1 + 1) _ 0 z.length c1 _ _ A1 [] z rfl rfl hst hArg (by omega) (Below.refl _ _) (by simp) ?_))
    intro v5 w5 hown5 hb5 _
    have hz5 : Ints w5 (w2.heap.size + 1 + 1) v5 z := Ints.of_own hown5
    obtain ⟨A5, c5, rfl⟩ := hz5.slice
    have hR5 := own3.stay hu2 hb5 (by omega)
    have hr5 := hrow2.stay hur hb5 (Nat.le_refl _)
    have hW5 := hW3.below hb5 (by omega)
    have hsz5 : w2.heap.size + 1 + 1 + 1 ≤ w5.heap.size := by have := hb5.size; simpa using this
    have hx5 := hz5.low (show w.heap.size + 1 ≤ _ by omega)
    have hy5 := hR5.low (show w.heap.size + 1 ≤ _ by simp)
    have hA1 := apart' hz5.since hu2 (by omega)
    have hA2 := apart' hz5.since hur (Nat.le_refl _)
    have hA3 := apart hu2 (B' := w2.heap.size + 1) (v := .slice (some ⟨w2.heap.size + 1, 0, none⟩) 2 2) (fun k hk => by simp [Value.ownBlock] at hk; omega) (by omega)
    have HF := hide (fun u v => And.intro (Fresh.two (((hx5.aside (p := ⟨w.heap.size, 0, none⟩) (by simp) u).aside (p := ⟨w.heap.size, 1, none⟩) (by simp) v)) (((hy5.aside (p := ⟨w.heap.size, 0, none⟩) (by simp) u).aside (p := ⟨w.heap.size, 1, none⟩) (by simp) v)) hA1 hA2 hA3 (by simp; omega))
      (((hr5.aside (p := ⟨w.heap.size, 0, none⟩) (by simp) u).aside (p := ⟨w.heap.size, 1, none⟩) (by simp) v)))
    have q0 := hW5.cell 0
    have q1 := hW5.cell 1
    have f0 := hW5.frozen 0
    have f1 := hW5.frozen 1
    simp only [List.getElem?_toArray, List.getElem?_cons_zero, List.getElem?_cons_succ] at q0 q1
    have hlt5 : w.heap.size < w5.heap.size := by omega
    have hbw := hb4.trans (hb5.mono (show w.heap.size ≤ _ by omega))
    clear hr5 hz5 hR5 hrow2 own3 hst hArg hown5 hcell hx5 hy5 hA1 hA2 hA3
    go_wp2
    have hWe := ((hW5.put 0 (.slice (some ⟨w2.heap.size + 1, 0, none⟩) 2 2)).put 1 (.slice (some ⟨w5.heap.size, 0, none⟩) 2 2)).alloc (.cells #[Value.slice A5 z.length c5, Value.slice A2 R.length c2] 24)
    refine bodyPost_ret (v := .agg #[.slice (some ⟨w2.heap.size + 1, 0, none⟩) 2 2, .slice (some ⟨w5.heap.size, 0, none⟩) 2 2]) (results_cell_row Tryz.results64 _ _ w.heap.size 28 _ (0, 0) _ rfl hWe Tryz.underlying28 rfl infInfo) rfl ?_
    rw [show sumRoot true = [2, 1] from rfl, HP]
    have hF := unhide HF (.slice (some ⟨w2.heap.size + 1, 0, none⟩) 2 2) (.slice (some ⟨w5.heap.size, 0, none⟩) 2 2)
    simp only [World.size_setCell] at hF
    refine GivesX.mk ⟨(hF.2.low (Nat.le_succ _)).below ((Below.refl _ _).alloc (Nat.le_refl _) _), hF.1.low (Nat.le_succ _)⟩ (((hbw.setCell (Nat.le_refl _) _).setCell (Nat.le_refl _) _).alloc (by simp; omega) _)
  | false =>
    have o1 := (Below.refl w2.heap.size w2).alloc (Nat.le_refl _) (.cells #[.int .i64 1, .int .i64 2] 3)
    have o3 := o1.alloc (by simp) (.cells #[] 3)
    have hrow := Ints.made2 w2 (w.heap.size + 1) 1 2 (by omega)
    have hst := own0 (w2.alloc (.cells #[.int .i64 1, .int .i64 2] 3)) _ (Nat.le_refl _)
    have hb4 := below_after hb3 o3
    have own3 := own2.below o3
    have hu2 := own2.until_
    have hW3 := hW2.below o3 hg2
    obtain ⟨ad, A1, c1, z, he, hz, hcell, hArg⟩ := (unhide HAT).2 _ hb4 0 (by omega)
    injection he with he
    subst he
    rw [show (⟨g, 0, none⟩ : Addr).add 0 = ⟨g, 0, none⟩ from rfl] at hcell
    obtain rfl : zss.headD [] = z := by have := unhide HH; rw [hz] at this; exact (Option.some.inj this).symm
    obtain ⟨z, hzz⟩ : ∃ z, zss.headD [] = z := ⟨_, rfl⟩
    rw [hzz] at hcell hArg HP
    have hrow2 := hrow.below ((Below.refl _ _).alloc (Nat.le_refl _) (.cells #[] 3))
    simp only [World.size_alloc] at hst hrow2
    have hur : Until (w2.heap.size + 1) (.slice (some ⟨w2.heap.size, 0, none⟩) 2 2) := fun k hk => by simp [Value.ownBlock] at hk; omega
    clear o1 hrow own2 hz hzz hb3 HH HAT
    go_wp2_with (first
      | (at_builtin; refine wpList_append_arg rfl (.tmp 19) (.tmp 22) rfl (w2.heap.size + 1) _ 0 z.length c1 _ _ A1 [] z rfl rfl hst hArg (by omega) (Below.refl _ _) (by simp) ?_))
    intro v5 w5 hown5 hb5 _
    have hz5 : Ints w5 (w2.heap.size + 1) v5 z := Ints.of_own hown5
    obtain ⟨A5, c5, rfl⟩ := hz5.slice
    have hR5 := own3.stay hu2 hb5 (by omega)
    have hr5 := hrow2.stay hur hb5 (Nat.le_refl _)
    have hW5 := hW3.below hb5 (by omega)
    have hsz5 : w2.heap.size + 1 + 1 ≤ w5.heap.size := by have := hb5.size; simpa using this
    have hx5 := hz5.low (show w.heap.size + 1 ≤ _ by omega)
    have hy5 := hR5.low (show w.heap.size + 1 ≤ _ by simp)
    have hA1 := apart' hz5.since hu2 (by omega)
    have hA2 := apart' hz5.since hur (Nat.le_refl _)
    have hA3 := apart hu2 (B' := w2.heap.size) (v := .slice (some ⟨w2.heap.size, 0, none⟩) 2 2) (fun k hk => by simp [Value.ownBlock] at hk; omega) (by omega)
    have HF := hide (fun u v => And.intro (Fresh.two (((hx5.aside (p := ⟨w.heap.size, 0, none⟩) (by simp) u).aside (p := ⟨w.heap.size, 1, none⟩) (by simp) v)) (((hy5.aside (p := ⟨w.heap.size, 0, none⟩) (by simp) u).aside (p := ⟨w.heap.size, 1, none⟩) (by simp) v)) hA1 hA2 hA3 (by simp; omega))
      (((hr5.aside (p := ⟨w.heap.size, 0, none⟩) (by simp) u).aside (p := ⟨w.heap.size, 1, none⟩) (by simp) v)))
    have q0 := hW5.cell 0
    have q1 := hW5.cell 1
    have f0 := hW5.frozen 0
    have f1 := hW5.frozen 1
    simp only [List.getElem?_toArray, List.getElem?_cons_zero, List.getElem?_cons_succ] at q0 q1
    have hlt5 : w.heap.size < w5.heap.size := by omega
    have hbw := hb4.trans (hb5.mono (show w.heap.size ≤ _ by omega))
    clear hr5 hz5 hR5 hrow2 own3 hst hArg hown5 hcell hx5 hy5 hA1 hA2 hA3
    go_wp2
    have hWe := ((hW5.put 0 (.slice (some ⟨w2.heap.size, 0, none⟩) 2 2)).put 1 (.slice (some ⟨w5.heap.size, 0, none⟩) 2 2)).alloc (.cells #[Value.slice A5 z.length c5, Value.slice A2 R.length c2] 24)
    refine bodyPost_ret (v := .agg #[.slice (some ⟨w2.heap.size, 0, none⟩) 2 2, .slice (some ⟨w5.heap.size, 0, none⟩) 2 2]) (results_cell_row Tryz.results64 _ _ w.heap.size 28 _ (0, 0) _ rfl hWe Tryz.underlying28 rfl infInfo) rfl ?_
    rw [show sumRoot false = [1, 2] from rfl, HP]
    have hF := unhide HF (.slice (some ⟨w2.heap.size, 0, none⟩) 2 2) (.slice (some ⟨w5.heap.size, 0, none⟩) 2 2)
    simp only [World.size_setCell] at hF
    refine GivesX.mk ⟨(hF.2.low (Nat.le_succ _)).below ((Below.refl _ _).alloc (Nat.le_refl _) _), hF.1.low (Nat.le_succ _)⟩ (((hbw.setCell (Nat.le_refl _) _).setCell (Nat.le_refl _) _).alloc (by simp; omega) _)
end Go.Proofs.YtinnlhfdgbeibaaGreat


/-
  WORDS: a row of integers grows beside a list of rows that lies apart from it; the list grows beside the row. Nothing here speaks of a function of the program.
-/

namespace Go.Proofs.YtinnlhfdgbeibaaGreat
set_option maxRecDepth 100000
open Go.RowKit

theorem own_keepI {w w' : World} {B n : Nat} {v : Value} {xs : List Value} (h : w.ownsRow B 3 1 v n xs) (hk : KeepI w w') : w'.ownsRow B 3 1 v n xs := by
  refine ⟨h.1, ?_⟩
  rcases h.2 with hn | ⟨g, cap, cur, rfl, hb, hgg, hr⟩
  · exact .inl hn
  · exact .inr ⟨g, cap, cur, rfl, hb, (hk.block g cur _ _ hgg (by decide)).trans hgg, hr⟩
/-- 'out = append(out, x)', an integer, beside a list of rows. -/
theorem wpList_append_beside {ops : Array Oper} {rest : List Oper} {o : Oper} {a : Act} {W : World} {Q : Exit → Act → World → Prop} (hgd : o.guard = none) (sl x : Operand)
    (ho : o.op = .call { callee := .builtin .append, args := #[sl, x], argTypes := #[24, 24] })
    (base n : Nat) (wr : World) (v l : Value) (xs : List Int) (z : Int) (zss : List (List Int)) (hs : a.eval sl = v) (hx : a.eval x = .slice (some ⟨wr.heap.size, 0, none⟩) 1 1) (hW : W = wr.alloc (.cells #[.int .i64 z] 3))
    (hown : wr.ownsRow base 3 1 v n (i64s xs)) (hF : Fresh wr base l zss v) (hn : n ≤ 1048576) (hbase : base ≤ wr.heap.size)
    (K : ∀ v' w', w'.ownsRow base 3 1 v' (n + 1) (i64s (xs ++ [z])) → Fresh w' base l zss v' → Below base wr w' → wpList Tryz.prog ops Q rest (a.put o.dst v') w') : wpList Tryz.prog ops Q (o :: rest) a W := by
  obtain ⟨i0, hi, hz0, hz1, hz2⟩ := info_parts intInfo
  obtain ⟨vs, hl, hin, ha⟩ := hF
  have hal := (Below.refl wr.heap.size wr).alloc (Nat.le_refl _) (.cells #[.int .i64 z] 3)
  have hown2 := own_below hown hal
  have hl2 := own_below hl hal
  have hin2 := hin.keepI (KeepI.of_below hal)
  have hne := rows_apart hl2 (Ints.of_own (zs := xs) hown2)
  subst hW
  refine wpList_append_own_at _ hgd sl x 24 ho base 3 i0 (.int .i64 0) 1 8 Tryz.underlying24 hi hz0 hz1 hz2 rfl (by decide) v _ _ hs hown2 ⟨wr.heap.size, 0, none⟩ 1 1 [.int .i64 z] hx rfl (cell_one_new _ _ _) ?_ (by unfold maxLen; omega) (by omega) (by simp; omega) ?_
  · intro y hy
    obtain rfl := List.mem_singleton.1 hy
    rfl
  · intro v' w' h1 h2 _ h4
    rw [← show i64s (xs ++ [z]) = i64s xs ++ [.int .i64 z] by simp [i64s]] at h1
    refine K v' w' h1 ⟨vs, hl2.kept h2 hne, ⟨hin2.len, fun i u zs hu hz => (hin2.row i u zs hu hz).kept h2 (ha u (List.mem_of_getElem? hu)), hin2.away⟩, fun u hu => ?_⟩ ((hal.mono hbase).grown h2 (by simp; omega) (fun k hk => (hown.lt k hk).1))
    obtain ⟨zs, hz⟩ := hin.mem hu
    rcases h4 with h4 | h4
    · rcases ha u hu with h | h
      · exact .inl h
      · exact .inr (by rw [h4]; exact h)
    · cases hl : u.ownBlock with
      | none => exact .inl hl
      | some g =>
        refine .inr ?_
        rw [hl, h4]
        intro e
        have h5 := hz.until_ g hl
        simp at e
        omega
/-- 'list = append(list, row)' at a step of a region that draws, beside a row of integers. -/
theorem step_push_beside {ops : Array Oper} {o : Oper} {a : Act} {W : World} {K : Act → World → Prop} {Q : Exit → Act → World → Prop} {E : Prop} (hgd : o.guard = none) (sl x : Operand)
    (ho : o.op = .call { callee := .builtin .append, args := #[sl, x], argTypes := #[26, 26] })
    (base : Nat) (w0 wr : World) (v u r : Value) (zss : List (List Int)) (zs : List Int) (hs : a.eval sl = v) (hx : a.eval x = .slice (some ⟨wr.heap.size, 0, none⟩) 1 1) (hW : W = wr.alloc (.cells #[u] 24) ∨ W = (wr.alloc (.cells #[u] 24)).drew)
    (hF : Fresh w0 base v zss r) (hb0 : Below w0.heap.size w0 wr) (hu : Ints wr w0.heap.size u zs) (hr : Until w0.heap.size r) (hn : zss.length ≤ 1048576) (hbase : base ≤ w0.heap.size)
    (hK : ∀ v' w', Fresh w' base v' (zss ++ [zs]) r → Below base w0 w' → KeepI w0 w' → K (a.put o.dst v') w') :
    if Region.wanted o (yielded ops a.tmps) = true then Oper.wp Tryz.prog o a W K Q else E := by
  obtain ⟨vs, hown, hin, ha⟩ := hF
  have hsz := hb0.size
  have hal : Below wr.heap.size wr W := by
    rcases hW with rfl | rfl
    · exact (Below.refl wr.heap.size wr).alloc (Nat.le_refl _) (.cells #[u] 24)
    · exact ((Below.refl wr.heap.size wr).alloc (Nat.le_refl _) (.cells #[u] 24)).drew
  have hrd : Reads W (wr.heap.size + 1) (some ⟨wr.heap.size, 0, none⟩) 1 [u] := by
    rcases hW with rfl | rfl
    · exact reads_new wr _ _
    · exact (reads_new wr _ _).drew
  have hown1 := own_below hown hb0
  have hown2 := own_below hown1 hal
  obtain ⟨A1, c1, rfl⟩ := hu.slice
  have hball := below_after hb0 hal
  refine step_append_rows hgd sl x ho base (wr.heap.size + 1) zss.length 1 1 w0 v (some ⟨wr.heap.size, 0, none⟩) vs [.slice A1 zs.length c1] hs hx hown2 hrd (fun h => by cases h) (fun y hy => by obtain rfl := List.mem_singleton.1 hy; rfl) (by omega) (by omega) (hball.mono hbase) (Nat.le_trans hbase hball.size) fun v' w' h1 h2 h3 _ => ?_
  have hk := (KeepI.of_below hball).trans (KeepI.of_grown hown2 h3)
  have hk1 := (KeepI.of_below hal).trans (KeepI.of_grown hown2 h3)
  refine hK v' w' ⟨vs ++ [.slice A1 zs.length c1], by rw [List.length_append]; exact h1, (hin.keepI hk).push ((hu.low hbase).keepI hk1) (hin.away_new hu.since (Nat.le_refl _)), fun y hy => ?_⟩ h2 hk
  rcases List.mem_append.1 hy with hy | hy
  · exact ha y hy
  · obtain rfl := List.mem_singleton.1 hy
    exact apart' hu.since hr (Nat.le_refl _)
end Go.Proofs.YtinnlhfdgbeibaaGreat


/-
  spec.l6Split, by its contract.
-/

namespace Go.Proofs.YtinnlhfdgbeibaaGreat
set_option maxRecDepth 100000
open Go.RowKit

theorem Ints.made1 (w : World) (B : Nat) (a : Int) (hB : B ≤ w.heap.size) : Ints (w.alloc (.cells #[.int .i64 a] 3)) B (.slice (some ⟨w.heap.size, 0, none⟩) 1 1) [a] :=
  Ints.of_own (zs := [a]) ⟨rfl, .inr ⟨w.heap.size, 1, #[.int .i64 a], rfl, hB, heap_alloc_new w _, Nat.le_refl _, by unfold maxLen; omega, rfl, rfl⟩⟩
theorem Fresh.one {w : World} {B : Nat} {u r : Value} {p : List Int} (hp : Ints w B u p) (hr1 : Away u r) (hB : B ≤ w.heap.size) :
    Fresh (w.alloc (.cells #[u] 24)) B (.slice (some ⟨w.heap.size, 0, none⟩) 1 1) [p] r := by
  have hal := (Below.refl w.heap.size w).alloc (Nat.le_refl _) (.cells #[u] 24)
  refine ⟨[u], ⟨rfl, .inr ⟨w.heap.size, 1, #[u], rfl, hB, heap_alloc_new w _, Nat.le_refl _, by unfold maxLen; omega, rfl, rfl⟩⟩, ?_, ?_⟩
  · exact (Inner.nil (w.alloc (.cells #[u] 24)) B).push (hp.below hal) (fun x hx => by simp at hx)
  · intro x hx
    simp only [List.mem_cons, List.not_mem_nil, or_false] at hx
    subst hx; exact hr1
theorem keepP {B : Nat} {wr w : World} {p : Addr} {v : Value} (h : wr.cell? p = some v) (hp : p.block < B) (hb : Below B wr w) : w.cell? p = some v ∧ Below B wr w := ⟨(hb.cell hp).trans h, hb⟩
theorem topK_stop {p : List Int} {a k : Nat} (h : k + 1 ≠ p.length) (hi : iv p a k = true) : topK p a k = k := by
  cases k with
  | zero => rfl
  | succ k => rw [topK, if_neg (by simp only [not_or]; exact ⟨h, by simp [hi]⟩)]
theorem topK_go {p : List Int} {a k : Nat} (h : k + 2 = p.length ∨ iv p a (k + 1) = false) : topK p a (k + 1) = topK p a k := by rw [topK, if_pos h]
/-- The inflation of the permutation of one number, just built. -/
theorem inf_one (w : World) (B : Nat) (hB : B ≤ w.heap.size) :
    InfAt (((w.alloc (.cells #[.int .i64 1] 3)).alloc (.cells #[.int .i64 1] 3)).alloc (.cells #[.slice (some ⟨w.heap.size + 1, 0, none⟩) 1 1] 24)) B
      (.slice (some ⟨w.heap.size, 0, none⟩) 1 1) (.slice (some ⟨w.heap.size + 1 + 1, 0, none⟩) 1 1) [1] [[1]] := by
  have r1 := Ints.made1 w B 1 hB
  have r2 := Ints.made1 (w.alloc (.cells #[.int .i64 1] 3)) B 1 (by simp; omega)
  have a1 := (Below.refl (w.alloc (.cells #[.int .i64 1] 3)).heap.size (w.alloc (.cells #[.int .i64 1] 3))).alloc (Nat.le_refl _) (.cells #[.int .i64 1] 3)
  have a2 := a1.alloc (by simp) (.cells #[.slice (some ⟨w.heap.size + 1, 0, none⟩) 1 1] 24)
  have f := Fresh.one (r := .slice (some ⟨w.heap.size, 0, none⟩) 1 1) r2 (.inr (by simp [Value.ownBlock])) (by simp; omega)
  simp only [World.size_alloc] at f
  exact ⟨r1.below a2, f⟩

set_option maxHeartbeats 1600000 in
theorem l6split_any (A : Option Addr) (n c B : Nat) (zs : List Int) (w : World) (h : Arg w B A n c zs) (hp : isP zs = true) (h0 : 0 < n) :
    Calls Tryz.prog 33 #[.slice A n c] w (GivesX w (rootP zs) (pcsP zs)) := by
  have hl := h.len
  have hn8 : n ≤ 8 := by have := isP_le hp; omega
  have hbel := (Below.refl w.heap.size w).alloc (Nat.le_refl _) (.cells #[.slice none 0 0, .slice none 0 0] 28)
  have hW := Whole.new w 28 #[.slice none 0 0, .slice none 0 0]
  by_cases h1 : n = 1
  · subst h1
    have HQ : Hid (rootP zs = [1] ∧ pcsP zs = [[1]]) := hide ⟨by unfold rootP; rw [if_pos hl], by unfold pcsP; rw [if_pos hl]⟩
    clear hl hp h
    go_enter Tryz.func33, Tryz.ntmps33
    go_wp2_with fail
    have hWe := (((Whole.new w 28 #[.slice (some ⟨w.heap.size + 1, 0, none⟩) 1 1, .slice (some ⟨w.heap.size + 1 + 1 + 1, 0, none⟩) 1 1]).alloc (.cells #[.int .i64 1] 3)).alloc (.cells #[.int .i64 1] 3)).alloc (.cells #[.slice (some ⟨w.heap.size + 1 + 1, 0, none⟩) 1 1] 24)
    have hIn := inf_one (w.alloc (.cells #[.slice (some ⟨w.heap.size + 1, 0, none⟩) 1 1, .slice (some ⟨w.heap.size + 1 + 1 + 1, 0, none⟩) 1 1] 28)) w.heap.size (by simp)
    simp only [World.size_alloc] at hIn
    refine bodyPost_ret (v := .agg #[.slice (some ⟨w.heap.size + 1, 0, none⟩) 1 1, .slice (some ⟨w.heap.size + 1 + 1 + 1, 0, none⟩) 1 1]) (results_cell_row Tryz.results33 _ _ w.heap.size 28 _ (0, 0) _ rfl hWe Tryz.underlying28 rfl infInfo) rfl ?_
    rw [(unhide HQ).1, (unhide HQ).2]
    exact GivesX.mk hIn (((((Below.refl _ w).alloc (Nat.le_refl _) _).alloc (by simp) _).alloc (by simp; omega) _).alloc (by simp; omega) _)
  · have H1 := hide (fun w' (hb : Below w.heap.size w w') => sparts_any A n c B zs w' (h.below hb))
    have H2 := hide (fun w' (hb : Below w.heap.size w w') => sskews_any A n c B zs w' (h.below hb))
    by_cases h2 : 1 < (partsR zs).length
    · have HQ : Hid (rootP zs = sumRoot false ∧ pcsP zs = sumPcs false (partsR zs)) := hide ⟨by unfold rootP; rw [if_neg (by omega), if_pos h2], by unfold pcsP; rw [if_neg (by omega), if_pos h2]⟩
      clear hl hp h
      go_enter Tryz.func33, Tryz.ntmps33
      go_wp2_with fail
      refine (unhide H1 _ hbel).mono ?_
      rintro e w2 ⟨A2, c2, rfl, own2, hb2⟩
      have hW2 := hW.below hb2 (by simp)
      have hbw := below_after hbel hb2
      have hg2 : w.heap.size + 1 ≤ w2.heap.size := by have := hb2.size; simpa using this
      have H3 := hide (l6sum_any A2 (partsR zs).length c2 (w.heap.size + 1) false (partsR zs) w2 (by simpa using own2) (by have := (partsR_small zs).1; omega) h2 (fun z hz => ⟨by have := isP_le (partsR_isP hz); omega, isP_small (partsR_isP hz)⟩))
      obtain ⟨N2, hN2⟩ : ∃ N2, (partsR zs).length = N2 := ⟨_, rfl⟩
      have h2i : (1 : Int) < (N2 : Int) := by omega
      rw [hN2] at H3
      rw [hN2]
      clear H1 H2 own2 hb2 hN2
      go_wp2_with fail
      refine (unhide H3).mono ?_
      rintro e w3 ⟨A3, c3, A4, c4, rfl, hIn, hb3⟩
      have hW3 := hW2.below hb3 (by omega)
      have hbw3 := hbw.trans (hb3.mono (by omega))
      have hlt3 : w.heap.size < w3.heap.size := hW3.lt
      have q0 := hW3.cell 0
      have q1 := hW3.cell 1
      have f0 := hW3.frozen 0
      have f1 := hW3.frozen 1
      simp only [List.getElem?_toArray, List.getElem?_cons_zero, List.getElem?_cons_succ] at q0 q1
      have HI := hide (And.intro hIn hbw3)
      clear H3 hIn hb3 hbw hbw3
      go_wp2
      have hWe := (hW3.put 0 (.slice A3 (sumRoot false).length c3)).put 1 (.slice A4 (sumPcs false (partsR zs)).length c4)
      refine bodyPost_ret (v := .agg #[.slice A3 (sumRoot false).length c3, .slice A4 (sumPcs false (partsR zs)).length c4]) (results_cell_row Tryz.results33 _ _ w.heap.size 28 _ (0, 0) _ rfl hWe Tryz.underlying28 rfl infInfo) rfl ?_
      rw [(unhide HQ).1, (unhide HQ).2]
      exact inf_end (unhide HI).1 (by omega) (unhide HI).2
    · have HN := hide h2
      by_cases h3 : 1 < (skewsR zs).length
      · have HQ : Hid (rootP zs = sumRoot true ∧ pcsP zs = sumPcs true (skewsR zs)) := hide ⟨by unfold rootP; rw [if_neg (by omega), if_neg h2, if_pos h3], by unfold pcsP; rw [if_neg (by omega), if_neg h2, if_pos h3]⟩
        obtain ⟨N1, hN1⟩ : ∃ N1, (partsR zs).length = N1 := ⟨_, rfl⟩
        have hn1 : ¬ (1 : Int) < (N1 : Int) := by omega
        clear hl hp h h2
        go_enter Tryz.func33, Tryz.ntmps33
        go_wp2_with fail
        refine (unhide H1 _ hbel).mono ?_
        rintro e w1 ⟨A1, c1, rfl, own1, hb1⟩
        have hW1 := hW.below hb1 (by simp)
        have hbw1 := below_after hbel hb1
        have hg1 : w.heap.size + 1 ≤ w1.heap.size := by have := hb1.size; simpa using this
        rw [hN1]
        clear H1 hW hbel own1 hb1 hN1
        go_wp2_with fail
        refine (unhide H2 _ hbw1).mono ?_
        rintro e w2 ⟨A2, c2, rfl, own2, hb2⟩
        have hW2 := hW1.below hb2 (by omega)
        have hbw := below_after hbw1 hb2
        have hg2 : w.heap.size + 1 ≤ w2.heap.size := by have := hb2.size; omega
        have H3 := hide (l6sum_any A2 (skewsR zs).length c2 (w.heap.size + 1) true (skewsR zs) w2 (own2.low (by omega)) (by have := (skewsR_small zs).1; omega) h3 (fun z hz => ⟨by have := isP_le (skewsR_isP hz); omega, isP_small (skewsR_isP hz)⟩))
        obtain ⟨N2, hN2⟩ : ∃ N2, (skewsR zs).length = N2 := ⟨_, rfl⟩
        have h2i : (1 : Int) < (N2 : Int) := by omega
        rw [hN2] at H3
        rw [hN2]
        clear H2 own2 hb2 hN2 hW1 hbw1 hg1
        go_wp2_with fail
        refine (unhide H3).mono ?_
        rintro e w3 ⟨A3, c3, A4, c4, rfl, hIn, hb3⟩
        have hW3 := hW2.below hb3 (by omega)
        have hbw3 := hbw.trans (hb3.mono (by omega))
        have hlt3 : w.heap.size < w3.heap.size := hW3.lt
        have q0 := hW3.cell 0
        have q1 := hW3.cell 1
        have f0 := hW3.frozen 0
        have f1 := hW3.frozen 1
        simp only [List.getElem?_toArray, List.getElem?_cons_zero, List.getElem?_cons_succ] at q0 q1
        have HI := hide (And.intro hIn hbw3)
        clear H3 hIn hb3 hbw hbw3
        go_wp2
        have hWe := (hW3.put 0 (.slice A3 (sumRoot true).length c3)).put 1 (.slice A4 (sumPcs true (skewsR zs)).length c4)
        refine bodyPost_ret (v := .agg #[.slice A3 (sumRoot true).length c3, .slice A4 (sumPcs true (skewsR zs)).length c4]) (results_cell_row Tryz.results33 _ _ w.heap.size 28 _ (0, 0) _ rfl hWe Tryz.underlying28 rfl infInfo) rfl ?_
        rw [(unhide HQ).1, (unhide HQ).2]
        exact inf_end (unhide HI).1 (by omega) (unhide HI).2
      · have HQ : Hid (rootP zs = patL (topsOf zs (cuts zs 0)) ∧ pcsP zs = pcsOf zs (cuts zs 0)) := hide ⟨by unfold rootP; rw [if_neg (by omega), if_neg h2, if_neg h3], by unfold pcsP; rw [if_neg (by omega), if_neg h2, if_neg h3]⟩
        obtain ⟨N1, hN1⟩ : ∃ N1, (partsR zs).length = N1 := ⟨_, rfl⟩
        have hn1 : ¬ (1 : Int) < (N1 : Int) := by omega
        obtain ⟨N2, hN2⟩ : ∃ N2, (skewsR zs).length = N2 := ⟨_, rfl⟩
        have hn2 : ¬ (1 : Int) < (N2 : Int) := by omega
        have HL := hide hl
        have HP := hide hp
        have HA := hide h
        clear hl hp h h2 h3
        go_enter Tryz.func33, Tryz.ntmps33
        go_wp2_with fail
        refine (unhide H1 _ hbel).mono ?_
        rintro e w1 ⟨A1, c1, rfl, own1, hb1⟩
        have hW1 := hW.below hb1 (by simp)
        have hbw1 := below_after hbel hb1
        have hg1 : w.heap.size + 1 ≤ w1.heap.size := by have := hb1.size; simpa using this
        rw [hN1]
        clear H1 hW hbel own1 hb1 hN1
        go_wp2_with fail
        refine (unhide H2 _ hbw1).mono ?_
        rintro e w2 ⟨A2, c2, rfl, own2, hb2⟩
        have hW2 := hW1.below hb2 (by omega)
        have hbw := below_after hbw1 hb2
        have hg2 : w.heap.size + 1 ≤ w2.heap.size := by have := hb2.size; omega
        rw [hN2]
        clear H2 own2 hb2 hN2 hW1 hbw1 hg1
        go_wp2
        go_loopw [6, 7, 8] (fun v i _ wr => ∃ (l : List (Nat × Nat)) (a : Nat) (pv : Value), a ≤ n ∧ l.length ≤ a ∧ i = .int .i64 a ∧ Hid (cuts zs 0 = l ++ cuts zs a) ∧ wr.ownsRow (w2.heap.size + 1) 3 1 v l.length (i64s (topsOf zs l)) ∧
          Whole wr w2.heap.size 28 #[.slice none 0 0, pv] ∧ Fresh wr (w2.heap.size + 1) pv (pcsOf zs l) v ∧ Below w.heap.size w wr ∧ Whole wr w.heap.size 28 #[.slice none 0 0, .slice none 0 0]) (fun _ i _ _ => n - (intOf i).toNat)
        case atStart =>
          have b1 := (Below.refl w2.heap.size w2).alloc (Nat.le_refl _) (.cells #[.slice none 0 0, .slice none 0 0] 28)
          have b2 := b1.alloc (by simp) (.cells #[] 3)
          have o := own0 (w2.alloc (.cells #[.slice none 0 0, .slice none 0 0] 28)) (w2.heap.size + 1) (by simp)
          simp only [World.size_alloc] at o
          exact ⟨[], 0, .slice none 0 0, by omega, by simp, rfl, hide rfl, o, (Whole.new w2 _ _).alloc _, ⟨[], ⟨rfl, .inl ⟨rfl, rfl⟩⟩, Inner.nil _ _, fun x hx => by cases hx⟩, below_after hbw b2, hW2.below b2 (by omega)⟩
        case round =>
          obtain ⟨l, a, pv, han, hla, rfl, hcut, hT, hWG, hF, hbr, hWR⟩ := hrel
          clear hbw hW2
          by_cases hlt : a < n
          · have hA := (unhide HA).below hbr
            obtain ⟨ad, u, rfl, _, hu, hc⟩ := hA.reads.at_ hlt
            obtain ⟨z, hz, rfl⟩ := i64_at hu
            have HZ := hide (at0_of hz)
            have hcap := hA.cap
            have hpb := hA.under
            have HQA := hide hA
            have hlc : a + 1 ≤ c := by omega
            have HR := hide (fun k b (hk : a + k < n) (hb : iv zs a k = b) => srun_any _ n c B zs a k (a : Int) ((a : Int) + k) rfl rfl b hb wr hA (unhide HP) hk)
            have HK := hide (topK_le zs a (n - 1 - a))
            have HC := hide (cuts_yes (p := zs) (a := a) (by rw [unhide HL]; exact hlt))
            clear hA hu hz
            go_wp2_with fail
            go_loopw [8] (fun t wi => ∃ k : Nat, a + k < n ∧ t = .int .i64 ((a : Int) + k) ∧ wi = wr ∧ Hid (topK zs a (n - 1 - a) = topK zs a k)) (fun t _ => (intOf t).toNat)
            case atStart => exact ⟨n - 1 - a, by omega, by go_num, rfl, rfl⟩
            case round =>
              obtain ⟨k, hk, rfl, rfl, hq⟩ := hrel
              by_cases hfull : k + 1 = n
              · obtain ⟨j, rfl⟩ : ∃ j, k = j + 1 := ⟨k - 1, by omega⟩
                have e1 : (a : Int) + ((j + 1 : Nat) : Int) - a + 1 = n := by omega
                have e2 : ((j + 1 : Nat) : Int) + 1 = n := by omega
                have e3 : (j : Int) + 1 + 1 = n := by omega
                have hq2 := hide ((unhide hq).trans (topK_go (p := zs) (a := a) (k := j) (.inl (by rw [unhide HL]; omega))))
                clear hq
                go_wp2
                go_roundw
                case rel => exact ⟨j, by omega, by go_num, trivial, hq2⟩
                case measure => simp [intOf]; omega
              · have e1 : ¬ (a : Int) + (k : Int) - a + 1 = n := by omega
                have e2 : ¬ (k : Int) + 1 = n := by omega
                obtain ⟨b, hb⟩ : ∃ b, iv zs a k = b := ⟨_, rfl⟩
                have HQ2 := hide (unhide HR k b hk hb)
                have HB := hide hb
                clear hb
                go_wp2_with fail
                refine (unhide HQ2).mono ?_
                rintro e w3 ⟨rfl, rfl⟩
                cases b with
                | false =>
                  have hk0 : k ≠ 0 := fun h => by
                    have := unhide HB
                    rw [h, iv_one (unhide HP) (by rw [unhide HL]; exact hlt)] at this
                    cases this
                  obtain ⟨j, rfl⟩ : ∃ j, k = j + 1 := ⟨k - 1, by omega⟩
                  have hq2 := hide ((unhide hq).trans (topK_go (p := zs) (a := a) (k := j) (.inr (unhide HB))))
                  clear hq HQ2
                  go_wp2
                  go_roundw
                  case rel => exact ⟨j, by omega, by go_num, trivial, hq2⟩
                  case measure => simp [intOf]; omega
                | true =>
                  have hq2 := hide ((unhide hq).trans (topK_stop (p := zs) (a := a) (k := k) (by rw [unhide HL]; exact hfull) (unhide HB)))
                  have H5 := hide (fun w' (hb' : Below w3.heap.size w3 w') => l2pat_any (some (ad.add a)) (k + 1) (c - a) B _ w' (((unhide HQA).cut (f := a) (m := k + 1) (by omega)).below hb') (by omega))
                  clear hq HQ2
                  go_wp2
                  have hblk : w2.heap.size < w3.heap.size := hWG.lt
                  have q1 := hWG.cell 1
                  have f1 := hWG.frozen 1
                  simp only [List.getElem?_toArray, List.getElem?_cons_zero, List.getElem?_cons_succ] at q1
                  have hb0 := Below.refl w3.heap.size w3
                  have hbl0 := Below.refl (w2.heap.size + 1) w3
                  have hun := (Ints.of_own (zs := topsOf zs l) hT).until_
                  have hpl : (pcsOf zs l).length ≤ 1048576 := by simp [pcsOf]; omega
                  have HF := hide (And.intro hF (And.intro hun hpl))
                  have HW := hide (And.intro hWG (And.intro hWR (And.intro hbr hT)))
                  have e3 : IntKind.i64.wrap ((a : Int) + (k : Int) + 1) = (a : Int) + (k : Int) + 1 := by rw [IntKind.wrap_i64]; omega
                  have e4 : (a : Int) ≤ (a : Int) + (k : Int) + 1 := by omega
                  have e5 : (a : Int) + (k : Int) + 1 ≤ (c : Int) := by omega
                  have e6 : ((a : Int) + (k : Int) + 1).toNat = a + k + 1 := by omega
                  have e7 : a + k + 1 - a = k + 1 := by omega
                  have e8 : (0 : Int) ≤ (a : Int) := by omega
                  have e9 : ¬ c = a := by omega
                  have q1' := hide q1
                  have f1' := hide f1
                  clear e1 e2 hF hun hpl hWG hWR hbr hT hcap hpb hlc hfull f1
                  go_region_law
                    (first
                      | (go_simp; go_at_call 67; refine (unhide H5 _ (by first | assumption | (apply Below.drew; assumption))).mono ?_; rintro e w4 ⟨A4, c4, rfl, own4, hb4⟩;
                          have hb5 : Below w3.heap.size w3 w4 := (hb0.drew).trans hb4;
                          have hb5l := hb5.mono (show w2.heap.size + 1 ≤ w3.heap.size from hblk);
                          have hsz4 : w2.heap.size + 1 ≤ w4.heap.size := Nat.le_trans hblk hb5.size; have q4 := (hb5.cell (p := ⟨w2.heap.size, 1, none⟩) hblk).trans (unhide q1'); have q4a := fun o => ((hb5.alloc hb5.size o).cell (p := ⟨w2.heap.size, 1, none⟩) hblk).trans (unhide q1'); have hl4 : w2.heap.size < w4.heap.size := Nat.lt_of_lt_of_le hblk hb5.size)
                      | (refine step_push_beside (by rfl) (.tmp 56) (.tmp 63) (by rfl) (w2.heap.size + 1) w3 w4 _ _ _ (pcsOf zs l) _ (by rfl) (by rfl) (by first | exact .inl rfl | exact .inr rfl) (unhide HF).1 hb5 own4 (unhide HF).2.1 (unhide HF).2.2 hblk ?_; intro v6 w6 hF6 hb6 hk6; obtain ⟨A6, c6, rfl⟩ := hF6.intsS.slice;
                          have hl6 : w2.heap.size < w6.heap.size := Nat.lt_of_lt_of_le hblk hb6.size;
                          have q6 := (hb6.cell (p := ⟨w2.heap.size, 1, none⟩) (Nat.lt_succ_self _)).trans (unhide q1');
                          have f6 := (hb6.frozen (p := ⟨w2.heap.size, 1, none⟩) (Nat.lt_succ_self _)).trans (unhide f1');
                          have HF6 := hide (And.intro hF6 (And.intro hb6 hk6)); have hb6l := hb6;
                          clear hF6 hb6 hk6 hb5 own4))
                  all_goals
                    have hF7 := (unhide HF6).1.aside (p := ⟨w2.heap.size, 1, none⟩) (Nat.lt_succ_self _) (.slice A6 ((pcsOf zs l).length + 1) c6)
                    have hT7 := own_aside (own_keepI (unhide HW).2.2.2 (unhide HF6).2.2) (p := ⟨w2.heap.size, 1, none⟩) (Nat.lt_succ_self _) (.slice A6 ((pcsOf zs l).length + 1) c6)
                    have hWG7 := ((unhide HW).1.below (unhide HF6).2.1 (Nat.lt_succ_self _)).put 1 (.slice A6 ((pcsOf zs l).length + 1) c6)
                    have hWR7 := ((unhide HW).2.1.below (unhide HF6).2.1 (by omega)).far (p := ⟨w2.heap.size, 1, none⟩) (by simp; omega) (.slice A6 ((pcsOf zs l).length + 1) c6)
                    have hbr7 := ((unhide HW).2.2.1.trans ((unhide HF6).2.1.mono (by omega))).setCell (p := ⟨w2.heap.size, 1, none⟩) (by simp; omega) (.slice A6 ((pcsOf zs l).length + 1) c6)
                    have hsz7 : w2.heap.size + 1 ≤ (w6.setCell ⟨w2.heap.size, 1, none⟩ (.slice A6 ((pcsOf zs l).length + 1) c6)).heap.size := by simp; omega
                    generalize w6.setCell ⟨w2.heap.size, 1, none⟩ (.slice A6 ((pcsOf zs l).length + 1) c6) = w7 at hF7 hT7 hWG7 hWR7 hbr7 hsz7 ⊢
                    obtain ⟨ad', u', hA', _, hu', hc7⟩ := ((unhide HA).below hbr7).reads.at_ hlt
                    injection hA' with hA'
                    subst hA'
                    obtain ⟨z', hz', rfl⟩ := i64_at hu'
                    have HZ' := hide (at0_of hz')
                    clear hu' hz' q1 q6 f6 q4 q4a hl4 hl6 hsz4 hb4 hb5l hc hb0 hbl0
                    go_wp2_with (first
                      | (at_builtin; refine wpList_append_beside rfl (.tmp 66) (.tmp 71) rfl (w2.heap.size + 1) l.length w7 u6 _ (topsOf zs l) z' _ rfl rfl rfl hT7 hF7 (by omega) hsz7 ?_; intro v8 w8 hT8 hF8 hb8))
                    have hcc := unhide HC
                    rw [unhide HL, unhide hq2] at hcc
                    have hcut2 : cuts zs 0 = (l ++ [(a, k)]) ++ cuts zs (a + k + 1) := by rw [unhide hcut, hcc]; simp
                    clear e3 e4 e5 e6 e7 e9 hcc
                    refine ⟨⟨l ++ [(a, k)], a + k + 1, .slice A6 ((pcsOf zs l).length + 1) c6, by omega, by simp; omega, by go_num, hide hcut2, ?_, hWG7.below hb8 (Nat.lt_succ_self _), ?_, hbr7.trans (hb8.mono (by omega)), hWR7.below hb8 (by omega)⟩, by simp [intOf]; omega⟩
                    · rw [tops_snoc, List.length_append, unhide HZ']; exact hT8
                    · rw [List.length_append] at hF8; rw [pcs_snoc]; exact hF8
          · obtain rfl : n = a := by omega
            have hcl : cuts zs 0 = l := by rw [unhide hcut, cuts_no (by rw [unhide HL]; omega), List.append_nil]
            have HCL := hide hcl
            have hll : (topsOf zs l).length = l.length := by simp [topsOf]
            have hTI := Ints.of_own (zs := topsOf zs l) hT
            have hsm : Small (topsOf zs l) := fun z hz => by
              obtain ⟨c, hc, rfl⟩ := List.mem_map.1 hz
              have h1 := (mem_cuts 0 (by rw [hcl]; exact hc)).2.1
              have h2 := isP_range (unhide HP) (at0_some (l := zs) (show c.1 < zs.length by omega))
              have h3 := isP_le (unhide HP)
              omega
            obtain ⟨A7, c7, rfl⟩ := hTI.slice
            obtain ⟨A8, c8, rfl⟩ := hF.intsS.slice
            have H9 := hide (l2pat_any A7 (topsOf zs l).length c7 _ _ wr (hTI.arg (by omega) hTI.cap hsm) (by omega))
            have HPS := hide hF.intsS
            have hblk : w2.heap.size < wr.heap.size := hWG.lt
            clear hT hTI hsm hF hcl hll
            go_wp2_with fail
            refine (unhide H9).mono ?_
            rintro e w5 ⟨A5, c5, rfl, own5, hb5⟩
            have hWG5 := hWG.below hb5 hblk
            have hWR5 := hWR.below hb5 hWR.lt
            have hbr5 := hbr.trans (hb5.mono (by omega))
            have q0 := hWG5.cell 0
            have q1 := hWG5.cell 1
            have f0 := hWG5.frozen 0
            have hlt5 := hWG5.lt
            have f1 := hWG5.frozen 1
            have r0 := hWR5.cell 0
            have r1 := hWR5.cell 1
            have g0 := hWR5.frozen 0
            have g1 := hWR5.frozen 1
            have hltr := hWR5.lt
            simp only [List.getElem?_toArray, List.getElem?_cons_zero, List.getElem?_cons_succ] at q0 q1 r0 r1
            have hgr : ¬ w.heap.size = w2.heap.size := by omega
            have hrg : ¬ w2.heap.size = w.heap.size := by omega
            clear H9
            go_wp2_with fail
            have hWe := ((hWR5.far (p := ⟨w2.heap.size, 0, none⟩) hgr (.slice A5 (patL (topsOf zs l)).length c5)).put 0 (.slice A5 (patL (topsOf zs l)).length c5)).put 1 (.slice A8 (pcsOf zs l).length c8)
            refine bodyPost_ret (v := .agg #[.slice A5 (patL (topsOf zs l)).length c5, .slice A8 (pcsOf zs l).length c8]) (results_cell_row Tryz.results33 _ _ w.heap.size 28 _ (0, 0) _ rfl hWe Tryz.underlying28 rfl infInfo) rfl ?_
            rw [(unhide HQ).1, (unhide HQ).2, unhide HCL]
            obtain ⟨vs, ho, hin⟩ := unhide HPS
            have hIn : InfAt w5 (w2.heap.size + 1) (.slice A5 (patL (topsOf zs l)).length c5) (.slice A8 (pcsOf zs l).length c8) (patL (topsOf zs l)) (pcsOf zs l) :=
              ⟨own5.low hblk, ⟨vs, own_below ho hb5, hin.keepI (KeepI.of_below hb5), hin.away_new own5.since (Nat.le_refl _)⟩⟩
            exact inf_end (hIn.aside (p := ⟨w2.heap.size, 0, none⟩) (Nat.lt_succ_self _) _) (by omega) (hbr5.setCell (p := ⟨w2.heap.size, 0, none⟩) (by simp; omega) _)
end Go.Proofs.YtinnlhfdgbeibaaGreat


/-
  spec.SplitPerm, by its contract.
-/

namespace Go.Proofs.YtinnlhfdgbeibaaGreat
set_option maxRecDepth 100000
open Go.RowKit

theorem results_row_tmp {P : Program} {fn : Func} {p u : Tmp} {ty : TypeId} (h : fn.results = #[.cell p ty, .tmp u]) (tmps : Array Value) (w : World) (g : Nat) (t : TypeId) (cs : Array Value) (fr : Nat × Nat) (d : TypeDesc)
    (hp : tmps.getD p undef = .pointer (some ⟨g, 0, none⟩)) (hg : w.heap[g]? = some (.cells cs t fr))
    (hu : P.underlying ty = some d) (hd : (match d with | .struct _ | .array _ _ => true | _ => false) = true) (hi : (P.info? ty).map (·.size) = some cs.size) :
    (results fn tmps).run P w = .ok (.tuple #[.agg cs, tmps.getD u undef]) w := by
  rw [results_cell_tmp h, hp]
  simp [asAddr, Result.andThen, run_loadVar_row w g t ty cs fr d hg hu hd hi]
theorem infB_end {w w3 : World} {B : Nat} {rv pv : Value} {root : List Int} {pcs : List (List Int)} (b : Bool) (hIn : InfAt w3 B rv pv root pcs) (hB : w.heap.size < B) (hb : Below w.heap.size w w3) :
    GivesXB w root pcs b (.returned (.tuple #[.agg #[rv, pv], .bool b])) ((w3.setCell ⟨w.heap.size, 0, none⟩ rv).setCell ⟨w.heap.size, 1, none⟩ pv) :=
  GivesXB.mk b (((hIn.aside (by simpa using hB) _).aside (by simpa using hB) _).low (by omega)) ((hb.setCell (Nat.le_refl _) _).setCell (Nat.le_refl _) _)
theorem inf_nil (w : World) (B : Nat) : InfAt w B (.slice none 0 0) (.slice none 0 0) [] [] :=
  ⟨Ints.nil w B, ⟨[], ⟨rfl, .inl ⟨rfl, rfl⟩⟩, Inner.nil _ _, fun x hx => by cases hx⟩⟩

set_option maxHeartbeats 1600000 in
theorem ssplit_any (A : Option Addr) (n c B : Nat) (zs : List Int) (w : World) (h : Arg w B A n c zs) :
    Calls Tryz.prog 7 #[.slice A n c] w (GivesXB w (rootR zs) (pcsR zs) (splitOK zs)) := by
  have hl := h.len
  obtain ⟨b, hb⟩ : ∃ b, isP zs = b := ⟨_, rfl⟩
  have hbel := (Below.refl w.heap.size w).alloc (Nat.le_refl _) (.cells #[.slice none 0 0, .slice none 0 0] 28)
  have hW := Whole.new w 28 #[.slice none 0 0, .slice none 0 0]
  have H0 := hide (fun w' (hb' : Below w.heap.size w w') => sisperm_any A n c B zs b hb w' (h.below hb').reads h.le h.cap)
  cases b with
  | false =>
    rw [rootR_no (splitOK_no1 hb), pcsR_no (splitOK_no1 hb), splitOK_no1 hb]
    clear hb h hl
    go_enter Tryz.func7, Tryz.ntmps7
    go_wp2_with fail
    refine (unhide H0 _ hbel).mono ?_
    rintro e w1 ⟨rfl, hd⟩
    have hW1 := hW.below (hd.below (w.heap.size + 1)) (Nat.lt_succ_self _)
    have hb1 := hbel.trans (hd.below w.heap.size)
    have r0 := hW1.cell 0
    have r1 := hW1.cell 1
    have g0 := hW1.frozen 0
    have g1 := hW1.frozen 1
    have hltr := hW1.lt
    simp only [List.getElem?_toArray, List.getElem?_cons_zero, List.getElem?_cons_succ] at r0 r1
    clear hd H0 hW hbel
    go_wp2_with fail
    have hWe := (hW1.put 0 (.slice none 0 0)).put 1 (.slice none 0 0)
    refine bodyPost_ret (v := .tuple #[.agg #[.slice none 0 0, .slice none 0 0], .bool false]) (results_row_tmp Tryz.results7 _ _ w.heap.size 28 _ (0, 0) _ rfl hWe Tryz.underlying28 rfl infInfo) rfl ?_
    exact infB_end false (inf_nil w1 (w.heap.size + 1)) (by omega) hb1
  | true =>
    by_cases h0 : n = 0
    · subst h0
      rw [rootR_no (splitOK_no2 hl), pcsR_no (splitOK_no2 hl), splitOK_no2 hl]
      clear hb h hl
      go_enter Tryz.func7, Tryz.ntmps7
      go_wp2_with fail
      refine (unhide H0 _ hbel).mono ?_
      rintro e w1 ⟨rfl, hd⟩
      have hW1 := hW.below (hd.below (w.heap.size + 1)) (Nat.lt_succ_self _)
      have hb1 := hbel.trans (hd.below w.heap.size)
      have r0 := hW1.cell 0
      have r1 := hW1.cell 1
      have g0 := hW1.frozen 0
      have g1 := hW1.frozen 1
      have hltr := hW1.lt
      simp only [List.getElem?_toArray, List.getElem?_cons_zero, List.getElem?_cons_succ] at r0 r1
      clear hd H0 hW hbel
      go_wp2_with fail
      have hWe := (hW1.put 0 (.slice none 0 0)).put 1 (.slice none 0 0)
      refine bodyPost_ret (v := .tuple #[.agg #[.slice none 0 0, .slice none 0 0], .bool false]) (results_row_tmp Tryz.results7 _ _ w.heap.size 28 _ (0, 0) _ rfl hWe Tryz.underlying28 rfl infInfo) rfl ?_
      exact infB_end false (inf_nil w1 (w.heap.size + 1)) (by omega) hb1
    · have hok := splitOK_yes hb (by omega)
      rw [rootR_yes hok, pcsR_yes hok, hok]
      have H1 := hide (fun w' (hb' : Below w.heap.size w w') => l6split_any A n c B zs w' (h.below hb') hb (by omega))
      clear hb h hl hok
      go_enter Tryz.func7, Tryz.ntmps7
      go_wp2_with fail
      refine (unhide H0 _ hbel).mono ?_
      rintro e w1 ⟨rfl, hd⟩
      have hW1 := hW.below (hd.below (w.heap.size + 1)) (Nat.lt_succ_self _)
      have hb1 := hbel.trans (hd.below w.heap.size)
      clear hd H0 hW hbel
      go_wp2_with fail
      refine (unhide H1 _ hb1).mono ?_
      rintro e w2 ⟨A3, c3, A4, c4, rfl, hIn, hb2⟩
      have hW2 := hW1.below hb2 hW1.lt
      have hb3 := below_after hb1 hb2
      have hIn2 := hIn.low (show w.heap.size + 1 ≤ w1.heap.size from hW1.lt)
      have r0 := hW2.cell 0
      have r1 := hW2.cell 1
      have g0 := hW2.frozen 0
      have g1 := hW2.frozen 1
      have hltr := hW2.lt
      simp only [List.getElem?_toArray, List.getElem?_cons_zero, List.getElem?_cons_succ] at r0 r1
      have HI := hide hIn2
      clear hIn hIn2 H1
      go_wp2_with fail
      have hWe := (hW2.put 0 (.slice A3 (rootP zs).length c3)).put 1 (.slice A4 (pcsP zs).length c4)
      refine bodyPost_ret (v := .tuple #[.agg #[.slice A3 (rootP zs).length c3, .slice A4 (pcsP zs).length c4], .bool true]) (results_row_tmp Tryz.results7 _ _ w.heap.size 28 _ (0, 0) _ rfl hWe Tryz.underlying28 rfl infInfo) rfl ?_
      exact infB_end true (unhide HI) (by omega) hb3
end Go.Proofs.YtinnlhfdgbeibaaGreat


/-
  PLAIN: the longest interval that begins at a place, read off the list of intervals. Nothing here speaks of the program.
-/

namespace Go.Proofs.YtinnlhfdgbeibaaGreat
set_option maxRecDepth 100000

/-- What a walk over rows of two keeps: the greatest second number among those with the first number f. -/
def lastF (f : Int) (b : Int) (l : List (List Int)) : Int := l.foldl (fun b r => if at0 r 0 = f then max b (at0 r 1) else b) b
theorem lastF_snoc {f b : Int} {l : List (List Int)} {z : List Int} : lastF f b (l ++ [z]) = if at0 z 0 = f then max (lastF f b l) (at0 z 1) else lastF f b l := by simp [lastF]
theorem lastF_ge (f : Int) (l : List (List Int)) : ∀ b, b ≤ lastF f b l := by
  induction l with
  | nil => intro b; exact Int.le_refl _
  | cons z r ih =>
    intro b
    have := ih (if at0 z 0 = f then max b (at0 z 1) else b)
    show b ≤ lastF f (if at0 z 0 = f then max b (at0 z 1) else b) r
    by_cases hc : at0 z 0 = f
    · rw [if_pos hc] at this ⊢; omega
    · rw [if_neg hc] at this ⊢; omega
theorem lastF_le {f c : Int} {l : List (List Int)} (h : ∀ z ∈ l, at0 z 0 = f → at0 z 1 ≤ c) : ∀ b, b ≤ c → lastF f b l ≤ c := by
  induction l with
  | nil => intro b hb; exact hb
  | cons z r ih =>
    intro b hb
    refine ih (fun y hy => h y (List.mem_cons_of_mem _ hy)) (if at0 z 0 = f then max b (at0 z 1) else b) ?_
    by_cases hc : at0 z 0 = f
    · have := h z (by simp) hc
      rw [if_pos hc]; omega
    · rw [if_neg hc]; exact hb
theorem lastF_has {f : Int} {l : List (List Int)} {z : List Int} (hz : z ∈ l) (hf : at0 z 0 = f) : ∀ b, at0 z 1 ≤ lastF f b l := by
  induction l with
  | nil => cases hz
  | cons y r ih =>
    intro b
    rcases List.mem_cons.1 hz with rfl | hz
    · have := lastF_ge f r (if at0 z 0 = f then max b (at0 z 1) else b)
      rw [if_pos hf] at this
      show at0 z 1 ≤ lastF f (if at0 z 0 = f then max b (at0 z 1) else b) r
      rw [if_pos hf]; omega
    · exact ih hz _
theorem topK_max {p : List Int} {a : Nat} : ∀ m j, j ≤ m → (j = 0 ∨ (j + 1 ≠ p.length ∧ iv p a j = true)) → j ≤ topK p a m
  | 0, j, hj, _ => by omega
  | k + 1, j, hj, hc => by
    by_cases he : j = k + 1
    · subst he
      rcases hc with h | ⟨h1, h2⟩
      · omega
      · rw [topK, if_neg]
        · exact Nat.le_refl _
        · simp only [not_or]; exact ⟨h1, by simp [h2]⟩
    · have := topK_max k j (by omega) hc
      rw [topK]
      split <;> omega
theorem mem_rowS {p : List Int} {a m : Nat} {z : List Int} : z ∈ rowS p a m ↔ ∃ k, k < m ∧ 1 ≤ k ∧ k + 1 < p.length ∧ iv p a k = true ∧ z = [(a : Int) + 1, (a : Int) + k + 1] := by
  induction m with
  | zero => simp [rowS]
  | succ m ih =>
    rw [rowS, List.mem_append, ih]
    by_cases hc : (1 ≤ m ∧ m + 1 < p.length) ∧ iv p a m = true
    · rw [if_pos hc, List.mem_singleton]
      constructor
      · rintro (⟨k, h1, h2⟩ | h)
        · exact ⟨k, by omega, h2⟩
        · exact ⟨m, by omega, hc.1.1, hc.1.2, hc.2, h⟩
      · rintro ⟨k, h1, h2, h3, h4, h5⟩
        by_cases hk : k = m
        · subst hk; exact .inr h5
        · exact .inl ⟨k, by omega, h2, h3, h4, h5⟩
    · rw [if_neg hc]
      constructor
      · rintro (⟨k, h1, h2⟩ | h)
        · exact ⟨k, by omega, h2⟩
        · cases h
      · rintro ⟨k, h1, h2, h3, h4, h5⟩
        by_cases hk : k = m
        · subst hk; exact absurd ⟨⟨h2, h3⟩, h4⟩ hc
        · exact .inl ⟨k, by omega, h2, h3, h4, h5⟩
theorem mem_ivSK {p : List Int} {m : Nat} {z : List Int} : z ∈ ivSK p m ↔ ∃ a k, a < m ∧ a + k < p.length ∧ 1 ≤ k ∧ k + 1 < p.length ∧ iv p a k = true ∧ z = [(a : Int) + 1, (a : Int) + k + 1] := by
  induction m with
  | zero => simp [ivSK]
  | succ m ih =>
    rw [ivSK, List.mem_append, ih, mem_rowS]
    constructor
    · rintro (⟨a, k, h1, h2⟩ | ⟨k, h1, h2⟩)
      · exact ⟨a, k, by omega, h2⟩
      · exact ⟨m, k, by omega, by omega, h2⟩
    · rintro ⟨a, k, h1, h2, h3⟩
      by_cases ha : a = m
      · subst ha; exact .inr ⟨k, by omega, h3⟩
      · exact .inl ⟨a, k, by omega, h2, h3⟩
/-- The walk over the list of intervals finds the longest one that begins at place a. -/
theorem last_top {p : List Int} {a : Nat} (hp : isP p = true) (ha : a < p.length) (h2 : 2 ≤ p.length) :
    lastF ((a : Int) + 1) ((a : Int) + 1) (ivsR p) = (a : Int) + (topK p a (p.length - 1 - a) : Nat) + 1 := by
  have hle := topK_le p a (p.length - 1 - a)
  have hne := topK_ne (p := p) (a := a) h2 (p.length - 1 - a)
  have hiv := topK_iv hp ha (p.length - 1 - a)
  rw [ivsR_yes hp]
  refine Int.le_antisymm ?_ ?_
  · refine lastF_le (fun z hz hf => ?_) _ (by omega)
    obtain ⟨a', k, h1, h3, h4, h5, h6, rfl⟩ := mem_ivSK.1 hz
    have e0 : at0 [(a' : Int) + 1, (a' : Int) + k + 1] 0 = (a' : Int) + 1 := rfl
    have e1 : at0 [(a' : Int) + 1, (a' : Int) + k + 1] 1 = (a' : Int) + k + 1 := rfl
    rw [e0] at hf
    obtain rfl : a' = a := by omega
    have := topK_max (p := p) (a := a') (p.length - 1 - a') k (by omega) (.inr ⟨by omega, h6⟩)
    rw [e1]; omega
  · generalize hk : topK p a (p.length - 1 - a) = k at hle hne hiv
    by_cases h0 : k = 0
    · have := lastF_ge ((a : Int) + 1) (ivSK p p.length) ((a : Int) + 1)
      omega
    · exact lastF_has (mem_ivSK.2 ⟨a, k, ha, by omega, by omega, by omega, hiv, rfl⟩) rfl _
theorem cuts_asc (p : List Int) (a : Nat) : (cuts p a).Pairwise fun c d => c.1 < d.1 := by
  induction a using cuts_ind (p := p) with
  | h0 a h => rw [cuts_no h]; exact List.Pairwise.nil
  | h1 a h ih =>
    rw [cuts_yes h]
    refine List.pairwise_cons.2 ⟨fun c hc => ?_, ih⟩
    have := (mem_cuts _ hc).1
    simp only; omega
theorem tops_ok {p : List Int} (hp : isP p = true) : patOK (topsOf p (cuts p 0)) = true := by
  have h8 := isP_le hp
  have hl := cuts_length p 0
  refine patOK_yes (by simp [topsOf]; omega) ?_
  unfold topsOf
  rw [List.nodup_iff_pairwise_ne, List.pairwise_map]
  refine List.Pairwise.imp_of_mem (fun {c d} hc hd h e => ?_) (cuts_asc p 0)
  have h1 := (mem_cuts 0 hc).2.1
  have h2 := (mem_cuts 0 hd).2.1
  have := isP_same hp (at0_some (l := p) (show c.1 < p.length by omega)) (by rw [e]; exact at0_some (l := p) (show d.1 < p.length by omega))
  omega
end Go.Proofs.YtinnlhfdgbeibaaGreat


/-
  PLAIN: the parts' lengths together; the roots of a tree. Nothing here speaks of the program.
-/

namespace Go.Proofs.YtinnlhfdgbeibaaGreat
set_option maxRecDepth 100000

theorem sumPcs_tot {s : Bool} {l : List (List Int)} (hp : ∀ z ∈ l, isP z = true ∧ 0 < z.length) (hn : tot l ≤ 8) (h1 : 1 < l.length) : tot (sumPcs s l) = tot l ∧ (sumPcs s l).length = 2 := by
  match l, h1 with
  | x :: y :: r, _ =>
    have e1 : tot (x :: y :: r) = x.length + tot (y :: r) := by simp [tot]
    have hf : allFit (y :: r) = true := allFit_yes (fun z hz => (hp z (by simp at hz ⊢; right; exact hz)).1) (by omega)
    simp only [sumPcs, List.headD_cons, List.drop_succ_cons, List.drop_zero]
    rw [joinsR_yes hf]
    refine ⟨?_, rfl⟩
    have e2 : tot [x, joinAll s (y :: r)] = x.length + (joinAll s (y :: r)).length := by simp [tot]
    rw [e2, joinAll_length, e1]
theorem pcsOf_tot {p : List Int} (a : Nat) : a ≤ p.length → tot (pcsOf p (cuts p a)) = p.length - a := by
  induction a using cuts_ind (p := p) with
  | h0 a h =>
    intro ha
    rw [cuts_no h]
    have : tot (pcsOf p []) = 0 := by simp [pcsOf, tot]
    omega
  | h1 a h ih =>
    intro _
    have ht := topK_le p a (p.length - 1 - a)
    have hi := ih (by omega)
    rw [cuts_yes h]
    have e : tot (pcsOf p ((a, topK p a (p.length - 1 - a)) :: cuts p (a + topK p a (p.length - 1 - a) + 1))) = (patL (seg p a (topK p a (p.length - 1 - a) + 1))).length + tot (pcsOf p (cuts p (a + topK p a (p.length - 1 - a) + 1))) := by simp [pcsOf, tot]
    rw [e, hi, patL_length, seg_length (by omega)]
    omega
/-- The parts have all numbers; where there are two numbers, there are two parts. -/
theorem pcsP_tot {p : List Int} (hp : isP p = true) : tot (pcsP p) = p.length ∧ (2 ≤ p.length → 2 ≤ (pcsP p).length) := by
  have h8 := isP_le hp
  unfold pcsP
  by_cases h1 : p.length = 1
  · rw [if_pos h1]
    exact ⟨by simp [tot]; omega, fun h => by omega⟩
  · rw [if_neg h1]
    by_cases h2 : 1 < (partsR p).length
    · rw [if_pos h2]
      have ht := partsR_tot hp
      have := sumPcs_tot (s := false) (fun y hy => ⟨partsR_isP hy, partsR_pos hy⟩) (by omega) h2
      exact ⟨by omega, fun _ => by omega⟩
    · rw [if_neg h2]
      by_cases h3 : 1 < (skewsR p).length
      · rw [if_pos h3]
        have ht := skewsR_tot hp
        have := sumPcs_tot (s := true) (fun y hy => ⟨skewsR_isP hy, skewsR_pos hy⟩) (by omega) h3
        exact ⟨by omega, fun _ => by omega⟩
      · rw [if_neg h3]
        refine ⟨by rw [pcsOf_tot 0 (Nat.zero_le _)]; omega, fun h => ?_⟩
        have hk := topK_ne (p := p) (a := 0) h (p.length - 1 - 0)
        have hle := topK_le p 0 (p.length - 1 - 0)
        rw [cuts_yes (by omega), cuts_yes (by omega)]
        simp [pcsOf]

theorem rootP_isP {p : List Int} (hp : isP p = true) : isP (rootP p) = true := by
  unfold rootP sumRoot
  split
  · decide
  · split
    · decide
    · split
      · decide
      · rw [isP_pat]; exact tops_ok hp

/-- The roots of the nodes that have children, each before those of its parts; m is enough when it is not less than the length less one. -/
def rtsF : Nat → List Int → List (List Int)
  | 0, _ => []
  | m + 1, p => if p.length < 2 then [] else rootP p :: (pcsP p).flatMap (rtsF m)
theorem rtsF_low {m : Nat} {p : List Int} (h : p.length < 2) : rtsF m p = [] := by cases m <;> simp [rtsF, h]
theorem rtsF_many {m : Nat} {p : List Int} (h : ¬ p.length < 2) : rtsF (m + 1) p = rootP p :: (pcsP p).flatMap (rtsF m) := by simp [rtsF, h]
theorem flat_len {m : Nat} : ∀ {l : List (List Int)}, (∀ z ∈ l, (rtsF m z).length + 1 ≤ z.length) → (l.flatMap (rtsF m)).length + l.length ≤ tot l
  | [], _ => by simp [tot]
  | z :: r, h => by
    have h1 := flat_len (m := m) (l := r) fun y hy => h y (List.mem_cons_of_mem _ hy)
    have h2 := h z (by simp)
    have h3 : tot (z :: r) = z.length + tot r := by simp [tot]
    rw [List.flatMap_cons, List.length_append, List.length_cons]
    omega
theorem rtsF_len : ∀ (m : Nat) {p : List Int}, isP p = true → 0 < p.length → (rtsF m p).length + 1 ≤ p.length
  | 0, p, _, h0 => by rw [rtsF]; simp; omega
  | m + 1, p, hp, h0 => by
    by_cases h2 : p.length < 2
    · rw [rtsF_low h2]; simp; omega
    · rw [rtsF_many h2]
      have h1 := flat_len (m := m) (l := pcsP p) fun z hz => rtsF_len m (pcsP_at hp z hz).1 (pcsP_at hp z hz).2.1
      have h3 := pcsP_tot hp
      have h4 := h3.2 (by omega)
      rw [List.length_cons]
      omega
theorem rtsF_all : ∀ (m : Nat) {p : List Int}, isP p = true → ∀ z ∈ rtsF m p, isP z = true
  | 0, p, _, z, hz => by simp [rtsF] at hz
  | m + 1, p, hp, z, hz => by
    by_cases h2 : p.length < 2
    · rw [rtsF_low h2] at hz; cases hz
    · rw [rtsF_many h2] at hz
      rcases List.mem_cons.1 hz with rfl | hz
      · exact rootP_isP hp
      · obtain ⟨y, hy, hz⟩ := List.mem_flatMap.1 hz
        exact rtsF_all m (pcsP_at hp y hy).1 z hz
theorem rtsF_le {m : Nat} {p : List Int} (hp : isP p = true) : (rtsF m p).length ≤ 8 := by
  have h8 := isP_le hp
  by_cases h0 : 0 < p.length
  · have := rtsF_len m hp h0; omega
  · rw [rtsF_low (by omega)]; simp
/-- The first k parts' roots behind the root. -/
def rtsK (m : Nat) (p : List Int) (R : List (List Int)) (k : Nat) : List (List Int) := rootP p :: (R.take k).flatMap (rtsF m)
theorem rtsK_step {m k : Nat} {p z : List Int} {R : List (List Int)} (h : R[k]? = some z) : rtsK m p R (k + 1) = rtsK m p R k ++ rtsF m z := by
  unfold rtsK
  rw [List.take_add_one, h]
  simp
theorem rtsK_all {m : Nat} {p : List Int} {R : List (List Int)} : rtsK m p R R.length = rootP p :: R.flatMap (rtsF m) := by unfold rtsK; rw [List.take_length]
theorem flat_take_len {m k : Nat} {R : List (List Int)} : ((R.take k).flatMap (rtsF m)).length ≤ (R.flatMap (rtsF m)).length := by
  have h := congrArg (fun l => (l.flatMap (rtsF m)).length) (List.take_append_drop k R)
  simp only [List.flatMap_append, List.length_append] at h
  omega
def rtsR (p : List Int) : List (List Int) := if splitOK p then ordR (rtsF 7 p) else []
theorem rtsR_yes {p : List Int} (h : splitOK p = true) : rtsR p = (rtsF 7 p).foldl putL [] := by
  unfold rtsR
  rw [if_pos h, ordR_yes (allP_yes (rtsF_all 7 (splitOK_all h).1)), ordL, List.take_length]
theorem rtsR_no {p : List Int} (h : splitOK p = false) : rtsR p = [] := by unfold rtsR; rw [if_neg (by simp [h])]
theorem rtsR_len (p : List Int) : (rtsR p).length ≤ 8 := by
  cases h : splitOK p with
  | false => rw [rtsR_no h]; exact Nat.zero_le _
  | true =>
    have h1 := (foldl_put (rtsF 7 p) [] List.Pairwise.nil).2.2
    have h2 := rtsF_le (m := 7) (splitOK_all h).1
    rw [rtsR_yes h]
    simp only [List.length_nil] at h1
    omega
theorem rtsR_all {p z : List Int} (hz : z ∈ rtsR p) : isP z = true := by
  cases h : splitOK p with
  | false => rw [rtsR_no h] at hz; cases hz
  | true =>
    unfold rtsR at hz
    rw [if_pos h] at hz
    exact ordR_mem hz
theorem tot_le8' : ∀ l : List (List Int), (∀ z ∈ l, z.length ≤ 8) → tot l ≤ 8 * l.length
  | [], _ => by simp [tot]
  | z :: r, h => by
    have h1 := tot_le8' r fun y hy => h y (List.mem_cons_of_mem _ hy)
    have h2 := h z (by simp)
    have h3 : tot (z :: r) = z.length + tot r := by simp [tot]
    rw [h3, List.length_cons]; omega
theorem rtsR_tot (p : List Int) : tot (rtsR p) ≤ 64 := by
  have h1 := tot_le8' (rtsR p) fun z hz => isP_le (rtsR_all hz)
  have h2 := rtsR_len p
  omega
end Go.Proofs.YtinnlhfdgbeibaaGreat


/-
  THE DRAWS OF CHAPTER 6: spec.DrawSplitPerm, spec.DrawIsSeparable, spec.DrawEqualInflation, by their contracts.
-/

namespace Go.Proofs.YtinnlhfdgbeibaaGreat
set_option maxRecDepth 100000
open Go.RowKit

theorem Fresh.drawn6 {w w' : World} {B cb : Nat} {v u : Value} {zss : List (List Int)} (h : Fresh w B v zss u) (hg : w.grownBy w' (some cb)) (hc : cb < B) : Fresh w' B v zss u := by
  obtain ⟨vs, h1, h2, h3⟩ := h
  exact ⟨vs, own_drawn h1 hg hc, h2.drawn hg hc, h3⟩
theorem InfAt.drawn6 {w w' : World} {B cb : Nat} {v u : Value} {z : List Int} {zss : List (List Int)} (h : InfAt w B v u z zss) (hg : w.grownBy w' (some cb)) (hc : cb < B) : InfAt w' B v u z zss := ⟨h.row.drawn hg hc, h.pcs.drawn6 hg hc⟩
theorem Fresh.of_until {w : World} {B : Nat} {v r : Value} {zss : List (List Int)} (hS : IntsS w B v zss) (hU : Until B r) : Fresh w B v zss r := by
  obtain ⟨vs, h1, h2⟩ := hS
  exact ⟨vs, h1, h2, fun x hx => by
    obtain ⟨zs, hz⟩ := h2.mem hx
    exact apart' hz.since hU (Nat.le_refl _)⟩
theorem len_tot9 : ∀ {l : List (List Int)}, (∀ z ∈ l, 0 < z.length) → l.length ≤ tot l
  | [], _ => Nat.zero_le _
  | z :: l, h => by
    have h1 := len_tot9 (l := l) fun y hy => h y (by simp [hy])
    have h2 := h z (by simp)
    have h3 : tot (z :: l) = z.length + tot l := by simp [tot]
    rw [List.length_cons]
    omega
/-- Root and parts are short. -/
def LiteI (R : List Int) (S : List (List Int)) : Prop := (R.length ≤ 8 ∧ Small R) ∧ S.length ≤ 8 ∧ ∀ z ∈ S, z.length ≤ 8 ∧ Small z
theorem lite_split (p : List Int) : LiteI (rootR p) (pcsR p) := by
  cases h : splitOK p with
  | false => rw [rootR_no h, pcsR_no h]; exact ⟨⟨by simp, fun z hz => by cases hz⟩, by simp, fun z hz => by cases hz⟩
  | true =>
    have hp := (splitOK_all h).1
    rw [rootR_yes h, pcsR_yes h]
    refine ⟨⟨isP_le (rootP_isP hp), isP_small (rootP_isP hp)⟩, ?_, fun z hz => ⟨isP_le (pcsP_at hp z hz).1, isP_small (pcsP_at hp z hz).1⟩⟩
    have h1 := (pcsP_tot hp).1
    have h2 : (pcsP p).length ≤ tot (pcsP p) := len_tot9 fun z hz => (pcsP_at hp z hz).2.1
    have := isP_le hp
    omega
def DrewX2 (w : World) (e : Ending) (w' : World) : Prop :=
  ∃ A c R P d S A' c' R' P' d' S', e = .returned (.tuple #[.agg #[.slice A R.length c, .slice P S.length d], .agg #[.slice A' R'.length c', .slice P' S'.length d']]) ∧ LiteI R S ∧ LiteI R' S' ∧ InfAt w' w.heap.size (.slice A R.length c) (.slice P S.length d) R S ∧ InfAt w' w.heap.size (.slice A' R'.length c') (.slice P' S'.length d') R' S' ∧ Below w.heap.size w w'
theorem DrewX2.drew {w w' : World} {e : Ending} (h : DrewX2 w e w') : DrewX2 w e w'.drew := by
  obtain ⟨A, c, R, P, d, S, A', c', R', P', d', S', he, h1, h2, h3, h4, h5⟩ := h
  exact ⟨A, c, R, P, d, S, A', c', R', P', d', S', he, h1, h2, h3.below (below_drew _ _), h4.below (below_drew _ _), h5.drew⟩
theorem results_cell_cell {P : Program} {fn : Func} {p q : Tmp} {ty : TypeId} (h : fn.results = #[.cell p ty, .cell q ty]) (tmps : Array Value) (w : World) (g k : Nat) (t t' : TypeId) (cs ks : Array Value) (fr fr' : Nat × Nat) (d : TypeDesc)
    (hp : tmps.getD p undef = .pointer (some ⟨g, 0, none⟩)) (hq : tmps.getD q undef = .pointer (some ⟨k, 0, none⟩)) (hg : w.heap[g]? = some (.cells cs t fr)) (hk : w.heap[k]? = some (.cells ks t' fr'))
    (hu : P.underlying ty = some d) (hd : (match d with | .struct _ | .array _ _ => true | _ => false) = true) (hi : (P.info? ty).map (·.size) = some cs.size) (hi' : (P.info? ty).map (·.size) = some ks.size) :
    (results fn tmps).run P w = .ok (.tuple #[.agg cs, .agg ks]) w := by
  have e : (results fn tmps).run P w = ((asAddr (tmps.getD p undef)).run P w).andThen fun a w₁ => ((loadVar ty a).run P w₁).andThen fun x w₂ => ((asAddr (tmps.getD q undef)).run P w₂).andThen fun b w₃ => ((loadVar ty b).run P w₃).andThen fun y w₄ => .ok (.tuple #[x, y]) w₄ := by
    simp only [results, h]
    simp [Sem.run_bind, Result.andThen]
  rw [e, hp, hq]
  simp [asAddr, Result.andThen, run_loadVar_row w g t ty cs fr d hg hu hd hi, run_loadVar_row w k t' ty ks fr' d hk hu hd hi']
set_option maxHeartbeats 1600000 in
theorem dsplit_any (A : Option Addr) (n c B : Nat) (bs : List UInt8) (w : World) (hr : Reads w B A n (u8s bs)) (hn : n ≤ 1048576) (hB : B ≤ w.heap.size) :
    Calls Tryz.prog 5 #[.slice A n c] w (DrewI w 9) := by
  have H1 := hide (new_any A n c B bs w hr hn hB)
  clear hr
  go_enter Tryz.func5, Tryz.ntmps5
  go_wp2_with fail
  refine (unhide H1).mono ?_
  rintro e w1 ⟨cb, rfl, hcb, hc1, hb1⟩
  have hS0 := Side.start hc1
  have hsz := hb1.size
  clear H1
  have H3 := hide (l5bent_any B cb w1 hc1)
  clear hc1
  go_wp2_with fail
  refine (unhide H3).mono ?_
  rintro e w3 ⟨A3, c3, q, rfl, hl, o3, hc3, hg3⟩
  have hb5 := (hS0.drawn hc3 hg3).under hb1 hcb
  have o4 := o3.low (show w.heap.size ≤ w1.heap.size by omega)
  have HL := hide hl
  clear H3 hS0 hc3 hg3 o3 hl
  go_wp2
  go_ret
  exact DrewI.mk o4 (unhide HL) hb5
set_option maxHeartbeats 1600000 in
theorem dsep_any (A : Option Addr) (n c B : Nat) (bs : List UInt8) (w : World) (hr : Reads w B A n (u8s bs)) (hn : n ≤ 1048576) (hB : B ≤ w.heap.size) :
    Calls Tryz.prog 9 #[.slice A n c] w (DrewI w 9) := by
  have H1 := hide (new_any A n c B bs w hr hn hB)
  clear hr
  go_enter Tryz.func9, Tryz.ntmps9
  go_wp2_with fail
  refine (unhide H1).mono ?_
  rintro e w1 ⟨cb, rfl, hcb, hc1, hb1⟩
  have hS0 := Side.start hc1
  have hsz := hb1.size
  clear H1
  have H2 := hide (once_any B cb 2 (by omega) w1 hc1)
  clear hc1
  go_wp2_with fail
  refine (unhide H2).mono ?_
  rintro e w2 ⟨v, rfl, ⟨b, rfl⟩, hc2, hg2⟩
  have hS2 := hS0.drawn hc2 hg2
  have hs2 := hg2.size
  clear H2 hS0 hg2
  cases b with
  | true =>
    have H3 := hide (l4summed_any B cb w2 hc2)
    clear hc2
    go_wp2_with fail
    refine (unhide H3).mono ?_
    rintro e w3 ⟨A3, c3, q, rfl, hl, o3, hc3, hg3⟩
    have hb5 := (hS2.drawn hc3 hg3).under hb1 hcb
    have o4 := o3.low (show w.heap.size ≤ w2.heap.size by omega)
    have HL := hide hl
    clear H3 hS2 hc3 hg3 o3 hl
    go_wp2
    go_ret
    exact DrewI.mk o4 (unhide HL) hb5
  | false =>
    have H3 := hide (l5bent_any B cb w2 hc2)
    clear hc2
    go_wp2_with fail
    refine (unhide H3).mono ?_
    rintro e w3 ⟨A3, c3, q, rfl, hl, o3, hc3, hg3⟩
    have hb5 := (hS2.drawn hc3 hg3).under hb1 hcb
    have o4 := o3.low (show w.heap.size ≤ w2.heap.size by omega)
    have HL := hide hl
    clear H3 hS2 hc3 hg3 o3 hl
    go_wp2
    go_ret
    exact DrewI.mk o4 (unhide HL) hb5
theorem x2_end {w wr : World} {B1 B2 : Nat} {A P A' P' : Option Addr} {c d c' d' : Nat} {R R' : List Int} {S S' : List (List Int)} (hR : Whole wr w.heap.size 28 #[.slice none 0 0, .slice none 0 0]) (hT : Whole wr (w.heap.size + 1) 28 #[.slice none 0 0, .slice none 0 0])
    (h1 : InfAt wr B1 (.slice A R.length c) (.slice P S.length d) R S) (h2 : InfAt wr B2 (.slice A' R'.length c') (.slice P' S'.length d') R' S') (hB1 : w.heap.size + 2 ≤ B1) (hB2 : w.heap.size + 2 ≤ B2) (hl : LiteI R S) (hl' : LiteI R' S') (hb : Below w.heap.size w wr) :
    DrewX2 w (.returned (.tuple #[.agg #[.slice A R.length c, .slice P S.length d], .agg #[.slice A' R'.length c', .slice P' S'.length d']])) ((((wr.setCell ⟨w.heap.size, 0, none⟩ (.slice A R.length c)).setCell ⟨w.heap.size, 1, none⟩ (.slice P S.length d)).setCell ⟨w.heap.size + 1, 0, none⟩ (.slice A' R'.length c')).setCell ⟨w.heap.size + 1, 1, none⟩ (.slice P' S'.length d')) ∧
    Whole ((((wr.setCell ⟨w.heap.size, 0, none⟩ (.slice A R.length c)).setCell ⟨w.heap.size, 1, none⟩ (.slice P S.length d)).setCell ⟨w.heap.size + 1, 0, none⟩ (.slice A' R'.length c')).setCell ⟨w.heap.size + 1, 1, none⟩ (.slice P' S'.length d')) w.heap.size 28 #[.slice A R.length c, .slice P S.length d] ∧
    Whole ((((wr.setCell ⟨w.heap.size, 0, none⟩ (.slice A R.length c)).setCell ⟨w.heap.size, 1, none⟩ (.slice P S.length d)).setCell ⟨w.heap.size + 1, 0, none⟩ (.slice A' R'.length c')).setCell ⟨w.heap.size + 1, 1, none⟩ (.slice P' S'.length d')) (w.heap.size + 1) 28 #[.slice A' R'.length c', .slice P' S'.length d'] ∧
    Whole ((wr.setCell ⟨w.heap.size, 0, none⟩ (.slice A R.length c)).setCell ⟨w.heap.size, 1, none⟩ (.slice P S.length d)) (w.heap.size + 1) 28 #[.slice none 0 0, .slice none 0 0] := by
  have hl0 : w.heap.size < w.heap.size + 2 := by omega
  have hl1 : w.heap.size + 1 < w.heap.size + 2 := by omega
  have m1 := h1.low hB1
  have m2 := h2.low hB2
  have s1 := (hR.put 0 (.slice A R.length c)).put 1 (.slice P S.length d)
  have s2 := (s1.far (p := ⟨w.heap.size + 1, 0, none⟩) (by show w.heap.size ≠ w.heap.size + 1; omega) (.slice A' R'.length c')).far (p := ⟨w.heap.size + 1, 1, none⟩) (by show w.heap.size ≠ w.heap.size + 1; omega) (.slice P' S'.length d')
  have t1 := (hT.far (p := ⟨w.heap.size, 0, none⟩) (by show w.heap.size + 1 ≠ w.heap.size; omega) (.slice A R.length c)).far (p := ⟨w.heap.size, 1, none⟩) (by show w.heap.size + 1 ≠ w.heap.size; omega) (.slice P S.length d)
  have t2 := (t1.put 0 (.slice A' R'.length c')).put 1 (.slice P' S'.length d')
  refine ⟨⟨_, _, _, _, _, _, _, _, _, _, _, _, rfl, hl, hl', ?_, ?_, ?_⟩, s2, t2, t1⟩
  · exact ((((m1.aside (p := ⟨w.heap.size, 0, none⟩) hl0 _).aside (p := ⟨w.heap.size, 1, none⟩) hl0 _).aside (p := ⟨w.heap.size + 1, 0, none⟩) hl1 _).aside (p := ⟨w.heap.size + 1, 1, none⟩) hl1 _).low (by omega)
  · exact ((((m2.aside (p := ⟨w.heap.size, 0, none⟩) hl0 _).aside (p := ⟨w.heap.size, 1, none⟩) hl0 _).aside (p := ⟨w.heap.size + 1, 0, none⟩) hl1 _).aside (p := ⟨w.heap.size + 1, 1, none⟩) hl1 _).low (by omega)
  · exact (((hb.setCell (p := ⟨w.heap.size, 0, none⟩) (Nat.le_refl _) _).setCell (p := ⟨w.heap.size, 1, none⟩) (Nat.le_refl _) _).setCell (p := ⟨w.heap.size + 1, 0, none⟩) (Nat.le_succ _) _).setCell (p := ⟨w.heap.size + 1, 1, none⟩) (Nat.le_succ _) _
theorem Arg.drew9 {w : World} {B n c : Nat} {A : Option Addr} {zs : List Int} (h : Arg w B A n c zs) : Arg w.drew B A n c zs := ⟨h.reads.drew, h.under, h.le, h.cap, h.small, h.nil⟩
set_option maxHeartbeats 1600000 in
theorem deqinf_any (A : Option Addr) (n c B : Nat) (bs : List UInt8) (w : World) (hr : Reads w B A n (u8s bs)) (hn : n ≤ 1048576) (hB : B ≤ w.heap.size) :
    Calls Tryz.prog 8 #[.slice A n c] w (DrewX2 w) := by
  obtain ⟨w0, hw0⟩ : ∃ w0, w0 = (w.alloc (.cells #[.slice none 0 0, .slice none 0 0] 28)).alloc (.cells #[.slice none 0 0, .slice none 0 0] 28) := ⟨_, rfl⟩
  have hR0 : Whole w0 w.heap.size 28 #[.slice none 0 0, .slice none 0 0] := by rw [hw0]; exact (Whole.new _ _ _).alloc _
  have hT0 : Whole w0 (w.heap.size + 1) 28 #[.slice none 0 0, .slice none 0 0] := by
    rw [hw0]
    have := Whole.new (w.alloc (.cells #[.slice none 0 0, .slice none 0 0] 28)) 28 #[.slice none 0 0, .slice none 0 0]
    rwa [World.size_alloc] at this
  have hs0 : w0.heap.size = w.heap.size + 2 := by rw [hw0]; simp
  have b0 : Below w.heap.size w w0 := by rw [hw0]; exact ((Below.refl _ w).alloc (Nat.le_refl _) _).alloc (by simp) _
  have H1 := hide (new_any A n c B bs w0 (hr.below (b0.mono hB)) hn (by omega))
  have HW0 := hide hw0
  clear hr hw0
  go_enter Tryz.func8, Tryz.ntmps8
  go_wp2_with fail
  rw [← unhide HW0]
  refine (unhide H1).mono ?_
  rintro e w1 ⟨cb, rfl, hcb, hc1, hb1⟩
  have hB1 := below_after b0 hb1
  have hR1 := hR0.below hb1 hR0.lt
  have hT1 := hT0.below hb1 hT0.lt
  have hS1 := Side.start hc1
  have hs1 := hb1.size
  have hc0 : w.heap.size + 2 ≤ cb := by omega
  have hcl := hS1.lt
  have H2 := hide (l5bent_any B cb w1 hc1)
  clear H1 HW0 hb1 hc1 b0 hR0 hT0
  go_wp2_with fail
  refine (unhide H2).mono ?_
  rintro e w2 ⟨A2, c2, p, rfl, hl2, hI2, hc2, hg2⟩
  have hS2 := hS1.drawn hc2 hg2
  have hR2 := hR1.grown hg2 (fun e => by injection e with e; omega)
  have hT2 := hT1.grown hg2 (fun e => by injection e with e; omega)
  have hs2 := hg2.size
  have H3 := hide (ssplit_any A2 _ c2 _ p w2 (hl2.arg hI2 (by omega)))
  clear H2 hS1 hR1 hT1 hc2 hg2 hI2 hl2
  go_wp2_with fail
  refine (unhide H3).mono ?_
  rintro e w3 ⟨A3, c3, P3, d3, rfl, hN3, hb3⟩
  have HL := hide (lite_split p)
  obtain ⟨R, hR⟩ : ∃ R, R = rootR p := ⟨_, rfl⟩
  obtain ⟨S, hS⟩ : ∃ S, S = pcsR p := ⟨_, rfl⟩
  rw [← hR, ← hS] at HL hN3
  have hS3 := hS2.below hb3
  have hR3 := hR2.below hb3 hR2.lt
  have hT3 := hT2.below hb3 hT2.lt
  have hs3 := hb3.size
  obtain ⟨g, hg⟩ : ∃ g, g = w3.heap.size := ⟨_, rfl⟩
  obtain ⟨w4, hw4⟩ : ∃ w4, w4 = w3.alloc (.cells #[.slice A3 R.length c3, .slice P3 S.length d3] 28) := ⟨_, rfl⟩
  have b34 : Below w3.heap.size w3 w4 := by rw [hw4]; exact (Below.refl _ w3).alloc (Nat.le_refl _) _
  have hG4 : Whole w4 g 28 #[.slice A3 R.length c3, .slice P3 S.length d3] := by rw [hw4, hg]; exact Whole.new _ _ _
  have hN4 := (hN3.below b34).low (show w1.heap.size ≤ w2.heap.size by omega)
  have hS4 := hS3.below b34
  have hR4 := hR3.below b34 hR3.lt
  have hT4 := hT3.below b34 hT3.lt
  have hg1 : w1.heap.size ≤ g := by omega
  have HW4 := hide hw4
  have HG := hide hg
  have H5 := hide (once_any B cb 2 (by omega) w4 hS4.cur)
  rw [← hR, ← hS]
  clear H3 hb3 hS2 hR2 hT2 hN3 hS3 hR3 hT3 b34 hw4 hg hR hS hs2 hs3
  go_wp2_with fail
  rw [← unhide HW4, ← unhide HG]
  refine (unhide H5).mono ?_
  rintro e w5 ⟨v, rfl, ⟨b, rfl⟩, hc5, hg5⟩
  have hS5 := hS4.drawn hc5 hg5
  have hR5 := hR4.grown hg5 (fun e => by injection e with e; omega)
  have hT5 := hT4.grown hg5 (fun e => by injection e with e; omega)
  have hG5 := hG4.grown hg5 (fun e => by injection e with e; omega)
  have hN5 := hN4.drawn6 hg5 hcl
  clear H5 HW4 HG hS4 hR4 hT4 hG4 hN4 hc5 hg5
  cases b with
  | true =>
    have hlg := hG5.lt
    have q0 := hG5.cell 0
    have q1 := hG5.cell 1
    simp only [List.getElem?_toArray, List.getElem?_cons_zero, List.getElem?_cons_succ] at q0 q1
    have al : Below w5.heap.size w5 (w5.alloc (.cells #[] 3)) := (Below.refl _ w5).alloc (Nat.le_refl _) _
    have hst := own0 w5 w5.heap.size (Nat.le_refl _)
    have hA5 := hN5.row.arg (n := R.length) (by have := (unhide HL).1.1; omega) hN5.row.cap (unhide HL).1.2
    have hA5d := (hA5.below al).drew9
    have hz5 : w5.heap.size ≤ (w5.alloc (.cells #[] 3)).heap.size := al.size
    have qa0 := (al.cell (p := ⟨g, 0, none⟩) hlg).trans q0
    have qa1 := (al.cell (p := ⟨g, 1, none⟩) hlg).trans q1
    have qal : g < (w5.alloc (.cells #[] 3)).heap.size := Nat.lt_of_lt_of_le hlg hz5
    have qb0 : (w5.alloc (.cells #[] 3)).drew.cell? ⟨g, 0, none⟩ = some (.slice A3 R.length c3) := qa0
    have qb1 : (w5.alloc (.cells #[] 3)).drew.cell? ⟨g, 1, none⟩ = some (.slice P3 S.length d3) := qa1
    have qbl : g < (w5.alloc (.cells #[] 3)).drew.heap.size := qal
    have qc0 : (w5.drew.alloc (.cells #[] 3)).cell? ⟨g, 0, none⟩ = some (.slice A3 R.length c3) := qa0
    have qc1 : (w5.drew.alloc (.cells #[] 3)).cell? ⟨g, 1, none⟩ = some (.slice P3 S.length d3) := qa1
    have qcl : g < (w5.drew.alloc (.cells #[] 3)).heap.size := qal
    have qd0 : w5.drew.cell? ⟨g, 0, none⟩ = some (.slice A3 R.length c3) := q0
    have qd1 : w5.drew.cell? ⟨g, 1, none⟩ = some (.slice P3 S.length d3) := q1
    have qdl : g < w5.drew.heap.size := hlg
    have hrl : R.length ≤ 8 := (unhide HL).1.1
    have hsz5 := hS5.size
    go_wp2_with fail
    go_region_held3 (fun w' => w'.cell? ⟨g, 0, none⟩ = some (.slice A3 R.length c3) ∧ w'.cell? ⟨g, 1, none⟩ = some (.slice P3 S.length d3) ∧ g < w'.heap.size) ((first | with_reducible exact ⟨q0, q1, hlg⟩ | with_reducible exact ⟨u0, u1, ul⟩ | with_reducible exact ⟨x0, x1, xl⟩ | with_reducible exact ⟨k0, k1, kl⟩ | with_reducible exact ⟨m0, m1, ml⟩ | with_reducible exact ⟨qb0, qb1, qbl⟩ | with_reducible exact ⟨qc0, qc1, qcl⟩ | with_reducible exact ⟨qd0, qd1, qdl⟩ | (go_loud (fail))))
      (first
        | (refine step_append_arg (by rfl) (.tmp 20) (.tmp 22) (by rfl) w5.heap.size w5.heap.size 0 R.length c3 w5 _ A3 [] R (by rfl) (by rfl) hst hA5d (by omega) al.drew hz5 ?_; intro v6 w6 hown6 hb6 hg6; rw [Nat.zero_add, List.nil_append] at hown6; clear hg6; have hI6 := Ints.of_own hown6; obtain ⟨A6, c6, rfl⟩ := hI6.slice; have u0 := (hb6.cell (p := ⟨g, 0, none⟩) hlg).trans q0; have u1 := (hb6.cell (p := ⟨g, 1, none⟩) hlg).trans q1; have ul := Nat.lt_of_lt_of_le hlg hb6.size; have hN6 := hN5.below hb6; have HC := hide (l2copy_any P3 S.length d3 S w6 (hN6.pcs.intsS.atS (fun z hz => ⟨Nat.le_trans ((unhide HL).2.2 z hz).1 (by omega), ((unhide HL).2.2 z hz).2⟩)) (by have := (unhide HL).2.1; omega)); clear hown6)
        | (go_simp; go_at_call 35; refine (unhide HC).mono ?_; rintro e w7 ⟨g7, d7, rfl, hC7, hb7⟩; have hb57 := below_after hb6 hb7; have x0 := (hb57.cell (p := ⟨g, 0, none⟩) hlg).trans q0; have x1 := (hb57.cell (p := ⟨g, 1, none⟩) hlg).trans q1; have xl := Nat.lt_of_lt_of_le hlg hb57.size; have hR7 := hR5.below hb57 hR5.lt; have hT7 := hT5.below hb57 hT5.lt; have hG7 := hG5.below hb57 hG5.lt; have hN7 := hN5.below hb57; have hI7 := hI6.below hb7; have hM7 : InfAt w7 w5.heap.size (.slice A6 R.length c6) (.slice (some ⟨g7, 0, none⟩) S.length d7) R S := ⟨hI7, (Fresh.of_until hC7 hI6.until_).low hb6.size⟩; have hS7 := hS5.below hb57; have k1' := (hG7.far (p := ⟨w.heap.size, 0, none⟩) (by show g ≠ w.heap.size; omega) (.slice A3 R.length c3)).far (p := ⟨w.heap.size, 1, none⟩) (by show g ≠ w.heap.size; omega) (.slice P3 S.length d3); have m1' := (k1'.far (p := ⟨w.heap.size + 1, 0, none⟩) (by show g ≠ w.heap.size + 1; omega) (.slice A6 R.length c6)).far (p := ⟨w.heap.size + 1, 1, none⟩) (by show g ≠ w.heap.size + 1; omega) (.slice (some ⟨g7, 0, none⟩) S.length d7); have k0 := k1'.cell 0; have k1 := k1'.cell 1; have kl := k1'.lt; have m0 := m1'.cell 0; have m1 := m1'.cell 1; have ml := m1'.lt; simp only [List.getElem?_toArray, List.getElem?_cons_zero, List.getElem?_cons_succ] at k0 k1 m0 m1; have hsw := hb57.size; have hX := x2_end hR7 hT7 hN7 hM7 (by omega) (by omega) (unhide HL) (unhide HL) (hS7.under hB1 (by omega)); have HX := hide hX; have z0 := hR7.cell 0; have z1 := hR7.cell 1; have e0 := hR7.frozen 0; have e1 := hR7.frozen 1; have zl := hR7.lt; have y0 := hX.2.2.2.cell 0; have y1 := hX.2.2.2.cell 1; have f0 := hX.2.2.2.frozen 0; have f1 := hX.2.2.2.frozen 1; have yl := hX.2.2.2.lt; simp only [List.getElem?_toArray, List.getElem?_cons_zero, List.getElem?_cons_succ] at z0 z1 y0 y1; clear hX))
    go_wp2_with fail
    obtain ⟨hF, hWS, hWT, _⟩ := unhide HX
    refine bodyPost_ret (v := .tuple #[.agg #[.slice A3 R.length c3, .slice P3 S.length d3], .agg #[.slice A6 R.length c6, .slice (some ⟨g7, 0, none⟩) S.length d7]]) (results_cell_cell Tryz.results8 _ _ w.heap.size (w.heap.size + 1) 28 28 _ _ (0, 0) (0, 0) _ rfl rfl hWS hWT Tryz.underlying28 rfl infInfo infInfo) rfl ?_
    exact hF
  | false =>
    have q0 := hG5.cell 0
    have q1 := hG5.cell 1
    simp only [List.getElem?_toArray, List.getElem?_cons_zero, List.getElem?_cons_succ] at q0 q1
    have H6 := hide (l5bent_any B cb w5 hS5.cur)
    clear q0 q1
    go_wp2_with fail
    refine (unhide H6).mono ?_
    rintro e w6 ⟨A6, c6, p6, rfl, hl6, hI6, hc6, hg6⟩
    have hS6 := hS5.drawn hc6 hg6
    have hR6 := hR5.grown hg6 (fun e => by injection e with e; omega)
    have hT6 := hT5.grown hg6 (fun e => by injection e with e; omega)
    have hG6 := hG5.grown hg6 (fun e => by injection e with e; omega)
    have hN6 := hN5.drawn6 hg6 hcl
    have hs6 := hg6.size
    have H7 := hide (ssplit_any A6 _ c6 _ p6 w6 (hl6.arg hI6 (by omega)))
    have hsz5 := hS5.size
    clear H6 hS5 hR5 hT5 hG5 hN5 hc6 hg6 hI6 hl6
    go_wp2_with fail
    refine (unhide H7).mono ?_
    rintro e w8 ⟨A8, c8, P8, d8, rfl, hN8, hb8⟩
    have HL2 := hide (lite_split p6)
    obtain ⟨R2, hR⟩ : ∃ R, R = rootR p6 := ⟨_, rfl⟩
    obtain ⟨S2, hS⟩ : ∃ S, S = pcsR p6 := ⟨_, rfl⟩
    rw [← hR, ← hS] at HL2 hN8
    rw [← hR, ← hS]
    have hS8 := hS6.below hb8
    have hR8 := hR6.below hb8 hR6.lt
    have hT8 := hT6.below hb8 hT6.lt
    have hG8 := hG6.below hb8 hG6.lt
    have hM8 := hN6.below hb8
    have hs8 := hb8.size
    obtain ⟨h, hh⟩ : ∃ h, h = w8.heap.size := ⟨_, rfl⟩
    obtain ⟨w9, hw9⟩ : ∃ w9, w9 = w8.alloc (.cells #[.slice A8 R2.length c8, .slice P8 S2.length d8] 28) := ⟨_, rfl⟩
    have b89 : Below w8.heap.size w8 w9 := by rw [hw9]; exact (Below.refl _ w8).alloc (Nat.le_refl _) _
    have hH9 : Whole w9 h 28 #[.slice A8 R2.length c8, .slice P8 S2.length d8] := by rw [hw9, hh]; exact Whole.new _ _ _
    have hG9 := hG8.below b89 hG8.lt
    have hR9 := hR8.below b89 hR8.lt
    have hT9 := hT8.below b89 hT8.lt
    have hX := x2_end hR9 hT9 (hM8.below b89) (hN8.below b89) (by omega) (by omega) (unhide HL) (unhide HL2) ((hS8.below b89).under hB1 (by omega))
    have HX := hide hX
    have q0 := hG9.cell 0
    have q1 := hG9.cell 1
    have hlg := hG9.lt
    have j0 := hH9.cell 0
    have j1 := hH9.cell 1
    have jl := hH9.lt
    have z0 := hR9.cell 0
    have z1 := hR9.cell 1
    have e0 := hR9.frozen 0
    have e1 := hR9.frozen 1
    have zl := hR9.lt
    have y0 := hX.2.2.2.cell 0
    have y1 := hX.2.2.2.cell 1
    have f0 := hX.2.2.2.frozen 0
    have f1 := hX.2.2.2.frozen 1
    have yl := hX.2.2.2.lt
    have t0 := hT9.cell 0
    have t1 := hT9.cell 1
    have i0 := hT9.frozen 0
    have i1 := hT9.frozen 1
    have tl := hT9.lt
    have k1' := (hG9.far (p := ⟨w.heap.size, 0, none⟩) (by show g ≠ w.heap.size; omega) (.slice A3 R.length c3)).far (p := ⟨w.heap.size, 1, none⟩) (by show g ≠ w.heap.size; omega) (.slice P3 S.length d3)
    have m1' := (k1'.far (p := ⟨w.heap.size + 1, 0, none⟩) (by show g ≠ w.heap.size + 1; omega) (.slice A8 R2.length c8)).far (p := ⟨w.heap.size + 1, 1, none⟩) (by show g ≠ w.heap.size + 1; omega) (.slice P8 S2.length d8)
    have kh' := (hH9.far (p := ⟨w.heap.size, 0, none⟩) (by show h ≠ w.heap.size; omega) (.slice A3 R.length c3)).far (p := ⟨w.heap.size, 1, none⟩) (by show h ≠ w.heap.size; omega) (.slice P3 S.length d3)
    have mh' := (kh'.far (p := ⟨w.heap.size + 1, 0, none⟩) (by show h ≠ w.heap.size + 1; omega) (.slice A8 R2.length c8)).far (p := ⟨w.heap.size + 1, 1, none⟩) (by show h ≠ w.heap.size + 1; omega) (.slice P8 S2.length d8)
    have k0 := k1'.cell 0
    have k1 := k1'.cell 1
    have kl := k1'.lt
    have m0 := m1'.cell 0
    have m1 := m1'.cell 1
    have ml := m1'.lt
    have kh0 := kh'.cell 0
    have kh1 := kh'.cell 1
    have khl := kh'.lt
    have mh0 := mh'.cell 0
    have mh1 := mh'.cell 1
    have mhl := mh'.lt
    simp only [List.getElem?_toArray, List.getElem?_cons_zero, List.getElem?_cons_succ] at q0 q1 j0 j1 z0 z1 y0 y1 t0 t1 k0 k1 m0 m1 kh0 kh1 mh0 mh1
    clear k1' m1' kh' mh'
    have HW9 := hide hw9
    have HH := hide hh
    clear H7 hb8 hS6 hR6 hT6 hG6 hN6 hS8 hR8 hT8 hG8 hM8 hN8 b89 hH9 hG9 hR9 hT9 hw9 hh hR hS hX hs6 hs8 hsz5
    go_wp2_with fail
    rw [← unhide HW9, ← unhide HH]
    go_region
    all_goals go_wp2_with fail
    all_goals
      obtain ⟨hF, hWS, hWT, _⟩ := unhide HX
      refine bodyPost_ret (v := .tuple #[.agg #[.slice A3 R.length c3, .slice P3 S.length d3], .agg #[.slice A8 R2.length c8, .slice P8 S2.length d8]]) (results_cell_cell Tryz.results8 _ _ w.heap.size (w.heap.size + 1) 28 28 _ _ (0, 0) (0, 0) _ rfl rfl hWS hWT Tryz.underlying28 rfl infInfo infInfo) rfl ?_
      first | exact hF | exact hF.drew
end Go.Proofs.YtinnlhfdgbeibaaGreat


/-
  PLAIN: lists that stand alike; occurrences of a permutation in a permutation. Nothing here speaks of the program.
-/

namespace Go.Proofs.YtinnlhfdgbeibaaGreat
set_option maxRecDepth 100000

theorem at0_zero (a : Int) (l : List Int) : at0 (a :: l) 0 = a := rfl
theorem at0_succ (a : Int) (l : List Int) (i : Nat) : at0 (a :: l) (i + 1) = at0 l i := rfl
theorem at0_mem {l : List Int} {i : Nat} (h : i < l.length) : at0 l i ∈ l := List.mem_of_getElem? (at0_some h)
theorem at0_app {a b : List Int} {i : Nat} (h : i < a.length) : at0 (a ++ b) i = at0 a i := at0_of (by rw [List.getElem?_append_left h]; exact at0_some h)
theorem at0_last (a : List Int) (x : Int) : at0 (a ++ [x]) a.length = x := at0_of (by simp)
theorem at0_take {l : List Int} {i k : Nat} (h : i < k) (hl : i < l.length) : at0 (l.take k) i = at0 l i := at0_of (by rw [List.getElem?_take, if_pos h]; exact at0_some hl)
theorem ext_at0 {a b : List Int} (hl : a.length = b.length) (h : ∀ i, i < a.length → at0 a i = at0 b i) : a = b := by
  refine List.ext_getElem? fun i => ?_
  by_cases hi : i < a.length
  · rw [at0_some hi, at0_some (by omega), h i hi]
  · rw [List.getElem?_eq_none (by omega), List.getElem?_eq_none (by omega)]

/-- Two lists stand alike: their numbers are in the same order. -/
def Alike (v u : List Int) : Prop := v.length = u.length ∧ ∀ i j, i < v.length → j < v.length → (at0 v i < at0 v j ↔ at0 u i < at0 u j)
theorem cnt_pt : ∀ {v u : List Int} {x y : Int}, v.length = u.length → (∀ i, i < v.length → (at0 v i < x ↔ at0 u i < y)) → cnt v x = cnt u y
  | [], [], _, _, _, _ => rfl
  | [], _ :: _, _, _, h, _ => by simp at h
  | _ :: _, [], _, _, h, _ => by simp at h
  | a :: v, b :: u, x, y, h, hp => by
    have h0 := hp 0 (by simp)
    rw [at0_zero, at0_zero] at h0
    have ih := cnt_pt (v := v) (u := u) (x := x) (y := y) (by simpa using h) fun i hi => by
      have := hp (i + 1) (by simp; omega)
      rwa [at0_succ, at0_succ] at this
    rw [cnt_cons, cnt_cons, ih]
    by_cases hx : a < x
    · rw [if_pos hx, if_pos (h0.1 hx)]
    · rw [if_neg hx, if_neg (fun h => hx (h0.2 h))]
theorem patL_at0 {l : List Int} {i : Nat} (h : i < l.length) : at0 (patL l) i = 1 + (cnt l (at0 l i) : Int) := at0_of (patL_at (at0_some h))
theorem patL_alike {v u : List Int} (h : Alike v u) : patL v = patL u := by
  refine ext_at0 (by rw [patL_length, patL_length]; exact h.1) fun i hi => ?_
  rw [patL_length] at hi
  have hl := h.1
  rw [patL_at0 hi, patL_at0 (by omega), cnt_pt hl fun j hj => h.2 j i hj hi]
theorem cnt_iff {l : List Int} {a b : Int} (ha : a ∈ l) : a < b ↔ cnt l a < cnt l b := by
  constructor
  · intro h; have := cnt_lt ha h; omega
  · intro h
    by_cases hb : b ≤ a
    · have := cnt_mono l hb; omega
    · omega
theorem alike_patL {v u : List Int} (h : patL v = patL u) : Alike v u := by
  have hl : v.length = u.length := by have := congrArg List.length h; rwa [patL_length, patL_length] at this
  refine ⟨hl, fun i j hi hj => ?_⟩
  have e : ∀ k, k < v.length → cnt v (at0 v k) = cnt u (at0 u k) := fun k hk => by
    have h1 : at0 (patL v) k = at0 (patL u) k := by rw [h]
    rw [patL_at0 hk, patL_at0 (by omega)] at h1
    omega
  rw [cnt_iff (at0_mem hi), cnt_iff (l := u) (at0_mem (by omega)), e i hi, e j hj]
theorem patL_self {p : List Int} (h : isP p = true) : patL p = p := by
  refine ext_at0 (patL_length p) fun i hi => ?_
  rw [patL_length] at hi
  rw [patL_at0 hi, cnt_isP h (at0_mem hi)]
  omega
theorem Alike.symm {v u : List Int} (h : Alike v u) : Alike u v := ⟨h.1.symm, fun i j hi hj => (h.2 i j (by rw [h.1]; exact hi) (by rw [h.1]; exact hj)).symm⟩
theorem Alike.trans {a b c : List Int} (h : Alike a b) (k : Alike b c) : Alike a c := ⟨h.1.trans k.1, fun i j hi hj => (h.2 i j hi hj).trans (k.2 i j (by rw [← h.1]; exact hi) (by rw [← h.1]; exact hj))⟩
theorem alike_pat (v : List Int) : Alike (patL v) v := ⟨patL_length v, fun i j hi hj => by
  rw [patL_length] at hi hj
  rw [patL_at0 hi, patL_at0 hj, cnt_iff (at0_mem hi)]
  omega⟩
theorem pat_eq_iff {v q : List Int} (hq : isP q = true) : patL v = q ↔ Alike v q := by
  constructor
  · intro h; exact alike_patL (by rw [h, patL_self hq])
  · intro h; rw [patL_alike h, patL_self hq]
theorem isP_ne {p : List Int} (h : isP p = true) {i j : Nat} (hi : i < p.length) (hj : j < p.length) (hne : i ≠ j) : at0 p i ≠ at0 p j := fun e => hne (isP_same h (at0_some hi) (by rw [e]; exact at0_some hj))

/-! occurrences -/
/-- The numbers at places. -/
def nums (p pl : List Int) : List Int := pl.map fun x => at0 p (x.toNat - 1)
theorem nums_length (p pl : List Int) : (nums p pl).length = pl.length := by simp [nums]
theorem nums_at0 {p pl : List Int} {i : Nat} (h : i < pl.length) : at0 (nums p pl) i = at0 p ((at0 pl i).toNat - 1) := at0_of (by unfold nums; rw [List.getElem?_map, at0_some h]; rfl)
theorem nums_snoc (p pl : List Int) (x : Int) : nums p (pl ++ [x]) = nums p pl ++ [at0 p (x.toNat - 1)] := by simp [nums]
theorem nums_take (p pl : List Int) (k : Nat) : nums p (pl.take k) = (nums p pl).take k := by simp [nums, List.map_take]
def PlOK (n : Nat) (pl : List Int) : Prop := (∀ x ∈ pl, 1 ≤ x ∧ x ≤ (n : Int)) ∧ pl.Pairwise (· < ·)
instance (n : Nat) (pl : List Int) : Decidable (PlOK n pl) := inferInstanceAs (Decidable (_ ∧ _))
theorem PlOK.nil (n : Nat) : PlOK n [] := ⟨fun x hx => by simp at hx, List.Pairwise.nil⟩
theorem PlOK.take {n : Nat} {pl : List Int} (h : PlOK n pl) (k : Nat) : PlOK n (pl.take k) := ⟨fun x hx => h.1 x (List.mem_of_mem_take hx), h.2.sublist (List.take_sublist _ _)⟩
theorem PlOK.mono {n : Nat} {pl : List Int} (h : PlOK n pl) {i j : Nat} (hij : i < j) (hj : j < pl.length) : at0 pl i < at0 pl j := by
  have := List.pairwise_iff_getElem.1 h.2 i j (by omega) hj hij
  rw [at0_of (List.getElem?_eq_getElem (show i < pl.length by omega)), at0_of (List.getElem?_eq_getElem hj)]
  exact this
theorem PlOK.rng {n : Nat} {pl : List Int} (h : PlOK n pl) {i : Nat} (hi : i < pl.length) : 1 ≤ at0 pl i ∧ at0 pl i ≤ (n : Int) := h.1 _ (at0_mem hi)
theorem nums_ne {p pl : List Int} (hp : isP p = true) (h : PlOK p.length pl) {i j : Nat} (hi : i < pl.length) (hj : j < pl.length) (hne : i ≠ j) : at0 (nums p pl) i ≠ at0 (nums p pl) j := by
  have r1 := h.rng hi
  have r2 := h.rng hj
  have hm : at0 pl i ≠ at0 pl j := by
    rcases Nat.lt_or_ge i j with h1 | h1
    · have := h.mono h1 hj; omega
    · have := h.mono (show j < i by omega) hi; omega
  rw [nums_at0 hi, nums_at0 hj]
  exact isP_ne hp (by omega) (by omega) (by omega)
/-- The last one of some places agrees with a pattern. -/
def fitL (p q pl : List Int) : Bool := (List.range (pl.length - 1)).all fun k => decide (at0 q k < at0 q (pl.length - 1)) == decide (at0 (nums p pl) k < at0 (nums p pl) (pl.length - 1))
theorem fitL_iff {p q pl : List Int} : fitL p q pl = true ↔ ∀ k, k < pl.length - 1 → (at0 q k < at0 q (pl.length - 1) ↔ at0 (nums p pl) k < at0 (nums p pl) (pl.length - 1)) := by
  unfold fitL
  rw [List.all_eq_true]
  simp only [List.mem_range, beq_iff_eq, decide_eq_decide]
theorem fitL_yes {p q pl : List Int} (h : ∀ k, k < pl.length - 1 → decide (at0 q k < at0 q (pl.length - 1)) = decide (at0 (nums p pl) k < at0 (nums p pl) (pl.length - 1))) : fitL p q pl = true := by
  rw [fitL_iff]
  intro k hk
  exact decide_eq_decide.1 (h k hk)
theorem fitL_no {p q pl : List Int} {k : Nat} (hk : k < pl.length - 1) (h : decide (at0 q k < at0 q (pl.length - 1)) ≠ decide (at0 (nums p pl) k < at0 (nums p pl) (pl.length - 1))) : fitL p q pl = false := by
  cases hf : fitL p q pl with
  | false => rfl
  | true => exact absurd (decide_eq_decide.2 (fitL_iff.1 hf k hk)) h
theorem fits_alike {p q pl : List Int} (hp : isP p = true) (hq : isP q = true) (hl : pl.length = q.length) (h : PlOK p.length pl) : (∀ k, k < pl.length → fitL p q (pl.take (k + 1)) = true) ↔ Alike (nums p pl) q := by
  have hlt : ∀ k, k < pl.length → (pl.take (k + 1)).length = k + 1 := fun k hk => by rw [List.length_take]; omega
  have key : ∀ k, k < pl.length → (fitL p q (pl.take (k + 1)) = true ↔ ∀ i, i < k → (at0 q i < at0 q k ↔ at0 (nums p pl) i < at0 (nums p pl) k)) := fun k hk => by
    rw [fitL_iff, hlt k hk, Nat.add_sub_cancel, nums_take]
    have hpl := nums_length p pl
    constructor
    · intro h i hi
      have := h i hi
      rwa [at0_take (by omega) (by omega), at0_take (by omega) (by omega)] at this
    · intro h i hi
      rw [at0_take (by omega) (by omega), at0_take (by omega) (by omega)]
      exact h i hi
  constructor
  · intro hf
    refine ⟨by rw [nums_length]; exact hl, fun i j hi hj => ?_⟩
    rw [nums_length] at hi hj
    rcases Nat.lt_trichotomy i j with h1 | h1 | h1
    · exact ((key j hj).1 (hf j hj) i h1).symm
    · subst h1; exact ⟨fun h => by omega, fun h => by omega⟩
    · have h2 := (key i hi).1 (hf i hi) j h1
      have n1 := nums_ne hp h hi hj (by omega)
      have n2 := isP_ne hq (i := i) (j := j) (by omega) (by omega) (by omega)
      constructor
      · intro h3; by_cases h4 : at0 q j < at0 q i
        · have := h2.1 h4; omega
        · omega
      · intro h3; by_cases h4 : at0 (nums p pl) j < at0 (nums p pl) i
        · have := h2.2 h4; omega
        · omega
  · intro ha k hk
    rw [key k hk]
    intro i hi
    exact (ha.2 i k (by rw [nums_length]; omega) (by rw [nums_length]; omega)).symm

/-- The last place, or none. -/
def lastP (head : List Int) : Nat := (head.getLast?.getD 0).toNat
theorem lastP_nil : lastP [] = 0 := rfl
theorem lastP_snoc (head : List Int) (x : Int) : lastP (head ++ [x]) = x.toNat := by simp [lastP]
theorem lastP_at {head : List Int} (h : 0 < head.length) : lastP head = (at0 head (head.length - 1)).toNat := by
  unfold lastP
  rw [List.getLast?_eq_getElem?, at0_some (by omega)]; rfl
theorem lastP_le {n : Nat} {head : List Int} (h : PlOK n head) : lastP head ≤ n := by
  cases head with
  | nil => rw [lastP_nil]; omega
  | cons a l =>
    rw [lastP_at (by simp)]
    have := h.rng (i := (a :: l).length - 1) (by simp)
    omega
theorem PlOK.snoc {n : Nat} {head : List Int} {x : Int} : PlOK n (head ++ [x]) ↔ PlOK n head ∧ (lastP head : Int) < x ∧ x ≤ (n : Int) := by
  unfold PlOK
  rw [List.pairwise_append]
  constructor
  · rintro ⟨h1, h2, _, h3⟩
    refine ⟨⟨fun y hy => h1 y (by simp [hy]), h2⟩, ?_, (h1 x (by simp)).2⟩
    by_cases h0 : 0 < head.length
    · have h4 := h3 (at0 head (head.length - 1)) (at0_mem (by omega)) x (by simp)
      have h5 := h1 x (by simp)
      rw [lastP_at h0]; omega
    · have : head = [] := List.eq_nil_of_length_eq_zero (by omega)
      subst this
      have h5 := h1 x (by simp)
      rw [lastP_nil]; omega
  · rintro ⟨h1, h2, h3⟩
    refine ⟨fun y hy => ?_, h1.2, by simp, fun a ha b hb => ?_⟩
    · rcases List.mem_append.1 hy with h | h
      · exact h1.1 y h
      · simp at h; subst h; omega
    · simp at hb; subst hb
      have hr := h1.1 a ha
      obtain ⟨i, hi, rfl⟩ := List.getElem_of_mem ha
      have h0 : 0 < head.length := by omega
      have e : at0 head i = head[i] := at0_of (List.getElem?_eq_getElem hi)
      have : at0 head i ≤ at0 head (head.length - 1) := by
        by_cases hh : i = head.length - 1
        · rw [← hh]; exact Int.le_refl _
        · have := PlOK.mono (n := n) h1 (i := i) (j := head.length - 1) (by omega) (by omega); omega
      rw [lastP_at h0] at h2
      have hr2 := PlOK.rng (n := n) h1 (i := head.length - 1) (by omega)
      omega

/-- The occurrences that begin with head and have m places more. -/
def extL (p q : List Int) : Nat → List Int → List (List Int)
  | 0, head => [head]
  | m + 1, head => (List.range (p.length - lastP head)).flatMap fun i => if fitL p q (head ++ [((lastP head + i + 1 : Nat) : Int)]) then extL p q m (head ++ [((lastP head + i + 1 : Nat) : Int)]) else []
/-- .. of the first j of the next places. -/
def extK (p q : List Int) (m : Nat) (head : List Int) (j : Nat) : List (List Int) := (List.range j).flatMap fun i => if fitL p q (head ++ [((lastP head + i + 1 : Nat) : Int)]) then extL p q m (head ++ [((lastP head + i + 1 : Nat) : Int)]) else []
theorem extK_all (p q : List Int) (m : Nat) (head : List Int) : extK p q m head (p.length - lastP head) = extL p q (m + 1) head := rfl
theorem extK_zero (p q : List Int) (m : Nat) (head : List Int) : extK p q m head 0 = [] := rfl
theorem extK_yes {p q : List Int} {m : Nat} {head : List Int} {j : Nat} (h : fitL p q (head ++ [((lastP head + j + 1 : Nat) : Int)]) = true) : extK p q m head (j + 1) = extK p q m head j ++ extL p q m (head ++ [((lastP head + j + 1 : Nat) : Int)]) := by
  unfold extK
  rw [List.range_succ, List.flatMap_append, List.flatMap_cons, List.flatMap_nil, List.append_nil, if_pos h]
theorem extK_no {p q : List Int} {m : Nat} {head : List Int} {j : Nat} (h : fitL p q (head ++ [((lastP head + j + 1 : Nat) : Int)]) = false) : extK p q m head (j + 1) = extK p q m head j := by
  unfold extK
  rw [List.range_succ, List.flatMap_append, List.flatMap_cons, List.flatMap_nil, List.append_nil, if_neg (by rw [h]; exact Bool.false_ne_true), List.append_nil]
theorem mem_extL {p q : List Int} : ∀ (m : Nat) (head pl : List Int), PlOK p.length head → (pl ∈ extL p q m head ↔ ∃ tl, pl = head ++ tl ∧ tl.length = m ∧ PlOK p.length pl ∧ ∀ k, head.length ≤ k → k < pl.length → fitL p q (pl.take (k + 1)) = true)
  | 0, head, pl, h => by
    rw [extL, List.mem_singleton]
    constructor
    · rintro rfl
      exact ⟨[], by simp, rfl, h, fun k h1 h2 => by omega⟩
    · rintro ⟨tl, rfl, h1, _⟩
      rw [List.eq_nil_of_length_eq_zero h1, List.append_nil]
  | m + 1, head, pl, h => by
    have hle := lastP_le h
    rw [extL, List.mem_flatMap]
    constructor
    · rintro ⟨i, hi, hm⟩
      rw [List.mem_range] at hi
      by_cases hf : fitL p q (head ++ [((lastP head + i + 1 : Nat) : Int)]) = true
      · rw [if_pos hf] at hm
        have hh : PlOK p.length (head ++ [((lastP head + i + 1 : Nat) : Int)]) := PlOK.snoc.2 ⟨h, by omega, by omega⟩
        obtain ⟨tl, rfl, h1, h2, h3⟩ := (mem_extL m _ pl hh).1 hm
        refine ⟨((lastP head + i + 1 : Nat) : Int) :: tl, by rw [List.append_assoc]; rfl, by simp [h1], h2, fun k hk1 hk2 => ?_⟩
        by_cases hk : k = head.length
        · subst hk
          rw [List.take_append_of_le_length (by simp), List.take_of_length_le (by simp)]
          exact hf
        · exact h3 k (by simp; omega) hk2
      · rw [if_neg hf] at hm; cases hm
    · rintro ⟨tl, rfl, h1, h2, h3⟩
      match tl, h1 with
      | x :: tl, h1 =>
        have hx : PlOK p.length (head ++ [x]) := by
          have := h2.take (head.length + 1)
          rwa [show head ++ x :: tl = head ++ [x] ++ tl by simp, List.take_append_of_le_length (by simp), List.take_of_length_le (by simp)] at this
        obtain ⟨_, hx1, hx2⟩ := PlOK.snoc.1 hx
        have hxe : ((lastP head + (x.toNat - lastP head - 1) + 1 : Nat) : Int) = x := by omega
        refine ⟨x.toNat - lastP head - 1, List.mem_range.2 (by omega), ?_⟩
        rw [hxe]
        have hf := h3 head.length (Nat.le_refl _) (by simp)
        rw [show head ++ x :: tl = head ++ [x] ++ tl by simp, List.take_append_of_le_length (by simp), List.take_of_length_le (by simp)] at hf
        rw [if_pos hf, mem_extL m _ _ hx]
        exact ⟨tl, by simp, by simpa using h1, h2, fun k hk1 hk2 => h3 k (by simp at hk1; omega) hk2⟩
theorem extL_len {p q : List Int} : ∀ (m : Nat) (head pl : List Int), pl ∈ extL p q m head → pl.length = head.length + m
  | 0, head, pl, h => by rw [extL, List.mem_singleton] at h; subst h; rfl
  | m + 1, head, pl, h => by
    rw [extL, List.mem_flatMap] at h
    obtain ⟨i, _, h⟩ := h
    by_cases hf : fitL p q (head ++ [((lastP head + i + 1 : Nat) : Int)]) = true
    · rw [if_pos hf] at h
      have := extL_len m _ pl h
      simp at this; omega
    · rw [if_neg hf] at h; cases h
theorem extL_pre {p q : List Int} : ∀ (m : Nat) (head pl : List Int), pl ∈ extL p q m head → ∃ tl, pl = head ++ tl
  | 0, head, pl, h => by rw [extL, List.mem_singleton] at h; subst h; exact ⟨[], by simp⟩
  | m + 1, head, pl, h => by
    rw [extL, List.mem_flatMap] at h
    obtain ⟨i, _, h⟩ := h
    by_cases hf : fitL p q (head ++ [((lastP head + i + 1 : Nat) : Int)]) = true
    · rw [if_pos hf] at h
      obtain ⟨tl, rfl⟩ := extL_pre m _ pl h
      exact ⟨_ :: tl, by simp; rfl⟩
    · rw [if_neg hf] at h; cases h
theorem lexL_app (h : List Int) (a b : List Int) : lexL (h ++ a) (h ++ b) = lexL a b := by
  induction h with
  | nil => rfl
  | cons x h ih => rw [List.cons_append, List.cons_append, lexL, if_pos rfl, ih]
theorem extL_asc {p q : List Int} : ∀ (m : Nat) (head : List Int), Asc (extL p q m head)
  | 0, head => by rw [extL]; exact List.pairwise_singleton _ _
  | m + 1, head => by
    rw [extL]
    unfold Asc
    rw [List.pairwise_flatMap]
    constructor
    · intro i _
      split
      · exact extL_asc m _
      · exact List.Pairwise.nil
    · refine List.Pairwise.imp ?_ List.pairwise_lt_range
      intro i j hij x hx y hy
      split at hx
      · split at hy
        · have l1 := extL_len m _ x hx
          have l2 := extL_len m _ y hy
          obtain ⟨t, rfl⟩ := extL_pre m _ x hx
          obtain ⟨s, rfl⟩ := extL_pre m _ y hy
          simp only [List.length_append, List.length_singleton] at l1 l2
          rw [befL_eq (by simp; omega), List.append_assoc, List.append_assoc, lexL_app, List.singleton_append, List.singleton_append, lexL, if_neg (by omega)]
          simp; omega
        · cases hy
      · cases hx
/-- The occurrences of q in p. -/
def occR (p q : List Int) : List (List Int) := if isP p && isP q then extL p q q.length [] else []
theorem occR_yes {p q : List Int} (hp : isP p = true) (hq : isP q = true) : occR p q = extL p q q.length [] := by unfold occR; rw [if_pos (by simp [hp, hq])]
theorem occR_no {p q : List Int} (h : isP p = false ∨ isP q = false) : occR p q = [] := by
  unfold occR
  rw [if_neg (by rcases h with h | h <;> simp [h])]
def isOcc (p q pl : List Int) : Bool := isP p && (isP q && (decide (pl.length = q.length) && (decide (PlOK p.length pl) && decide (patL (nums p pl) = q))))
theorem isOcc_iff {p q pl : List Int} : isOcc p q pl = true ↔ isP p = true ∧ isP q = true ∧ pl.length = q.length ∧ PlOK p.length pl ∧ patL (nums p pl) = q := by
  unfold isOcc
  simp only [Bool.and_eq_true, decide_eq_true_eq]
theorem mem_occ {p q pl : List Int} : pl ∈ occR p q ↔ isOcc p q pl = true := by
  rw [isOcc_iff]
  cases hp : isP p with
  | false => rw [occR_no (.inl hp)]; simp
  | true =>
    cases hq : isP q with
    | false => rw [occR_no (.inr hq)]; simp
    | true =>
      rw [occR_yes hp hq, mem_extL q.length [] pl (PlOK.nil _)]
      constructor
      · rintro ⟨tl, rfl, h1, h2, h3⟩
        exact ⟨rfl, rfl, h1, h2, (pat_eq_iff hq).2 ((fits_alike hp hq h1 h2).1 fun k hk => h3 k (Nat.zero_le _) hk)⟩
      · rintro ⟨_, _, h1, h2, h3⟩
        exact ⟨pl, by simp, h1, h2, fun k _ hk => (fits_alike hp hq h1 h2).2 ((pat_eq_iff hq).1 h3) k hk⟩
theorem occ_asc (p q : List Int) : Asc (occR p q) := by
  unfold occR
  split
  · exact extL_asc _ _
  · exact List.Pairwise.nil
end Go.Proofs.YtinnlhfdgbeibaaGreat
