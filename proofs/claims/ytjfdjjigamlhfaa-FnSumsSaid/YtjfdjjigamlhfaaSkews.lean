
/-
  spec.SkewParts, impl.SkewParts, by their contracts.
-/
import Derived.Test.YtjfdjjigamlhfaaParts
import Derived.Test.YtjfdjjigamlhfaaRev
namespace Go.Proofs.Ytjfdjjigamlhfaa
open Go.RowKit

theorem map_take_snoc {l : List (List Int)} {k : Nat} {z : List Int} (h : l[k]? = some z) : (l.take (k + 1)).map cplL = (l.take k).map cplL ++ [cplL z] := by rw [take_snoc_r h, List.map_append]; rfl
/-- The list under way: k of the rows turned. -/
def halfC (l : List (List Int)) (k : Nat) : List (List Int) := (l.take k).map cplL ++ l.drop k
theorem halfC_zero (l : List (List Int)) : halfC l 0 = l := by simp [halfC]
theorem halfC_all (l : List (List Int)) : halfC l l.length = l.map cplL := by simp [halfC]
theorem halfC_at {l : List (List Int)} {k : Nat} {z : List Int} (h : l[k]? = some z) : (halfC l k)[k]? = some z := by
  have hk := (List.getElem?_eq_some_iff.1 h).1
  unfold halfC
  rw [List.getElem?_append_right (by simp; omega), List.getElem?_drop]
  simp only [List.length_map, List.length_take]
  rw [show min k l.length = k by omega, Nat.sub_self, Nat.add_zero]
  exact h
theorem halfC_set {l : List (List Int)} {k : Nat} {z : List Int} (h : l[k]? = some z) : (halfC l k).set k (cplL z) = halfC l (k + 1) := by
  have hk := (List.getElem?_eq_some_iff.1 h).1
  unfold halfC
  rw [map_take_snoc h, List.set_append, if_neg (by simp; omega), List.append_assoc]
  congr 1
  simp only [List.length_map, List.length_take]
  rw [show k - min k l.length = 0 by omega, List.drop_eq_getElem_cons hk, List.set_cons_zero]
  rfl

set_option maxHeartbeats 800000 in
theorem sskews_any (A : Option Addr) (n c B : Nat) (zs : List Int) (w : World) (h : Arg w B A n c zs) :
    Calls Try.prog 23 #[.slice A n c] w (GivesSS w (skewsR zs)) := by
  obtain ⟨b, hb⟩ : ∃ b, isP zs = b := ⟨_, rfl⟩
  have hI0 := IntsS.made0 w w.heap.size (Nat.le_refl _)
  have hbel := (Below.refl w.heap.size w).alloc (Nat.le_refl _) (.cells #[] 22)
  have H0 := hide (sisperm_any A n c B zs b hb _ (h.below hbel).reads h.le h.cap)
  cases b with
  | false =>
    rw [skewsR_no hb]
    clear hb h
    go_enter Try.func23, Try.ntmps23
    go_wp2_with fail
    refine (unhide H0).mono ?_
    rintro e w1 ⟨rfl, hd⟩
    have hb := hbel.trans (hd.below w.heap.size)
    have hI := hI0.below (hd.below _)
    clear hd H0 hI0 hbel
    go_wp2
    go_ret
    exact GivesSS.mk hI hb
  | true =>
    have H1 := hide (fun w' (hb' : Below w.heap.size w w') => l3cpl_any A n c B zs w' (h.below hb') hb)
    have HP := hide (isP_cpl hb)
    have HR := hide (skewsR_yes hb)
    have hsm := partsR_small (cplL zs)
    obtain ⟨ps, hps⟩ : ∃ ps, ps = partsR (cplL zs) := ⟨_, rfl⟩
    have hpP : ∀ z ∈ ps, isP z = true := fun z hz => partsR_isP (by rw [← hps]; exact hz)
    rw [← hps] at HR hsm
    have HPS := hide hps
    have HPP := hide hpP
    obtain ⟨hl8, _⟩ := hsm
    clear hb h hps hpP
    go_enter Try.func23, Try.ntmps23
    go_wp2_with fail
    refine (unhide H0).mono ?_
    rintro e w1 ⟨rfl, hd⟩
    have hb1 := hbel.trans (hd.below w.heap.size)
    have hI1 := hI0.below (hd.below _)
    have H2 := hide (unhide H1 w1 hb1)
    clear hd H0 hI0 hbel H1
    go_wp2_with fail
    refine (unhide H2).mono ?_
    rintro e w2 ⟨A2, c2, rfl, own2, hb2⟩
    have H3 := hide (sparts_any A2 _ c2 _ _ w2 (own2.argP (unhide HP)))
    have hI2 := hI1.below hb2
    have hb3 := below_after hb1 hb2
    clear H2 own2 hI1 hb2 hb1
    go_wp2_with fail
    refine (unhide H3).mono ?_
    rintro e w4 ⟨A4, c4, rfl, own4, hb4⟩
    clear H3
    have hI4 := hI2.below hb4
    have haw : Away (.slice A4 (partsR (cplL zs)).length c4) (.slice (some ⟨w.heap.size, 0, none⟩) 0 0) := by
      cases A4 with
      | none => exact .inl rfl
      | some a4 =>
        refine .inr fun e => ?_
        obtain ⟨ys, ho, _⟩ := own4
        have h5 := (ho.lt _ rfl).1
        have h6 : w.heap.size < w2.heap.size := by
          obtain ⟨xs, ho2, _⟩ := hI2
          exact (ho2.lt _ rfl).2
        have e2 : a4.block = w.heap.size := by simpa [Value.ownBlock] using e
        omega
    have hb5 := below_after hb3 hb4
    rw [← unhide HPS] at own4 haw ⊢
    clear hI2 hb3 hb4
    go_wp2
    go_loopw [3, 5] (fun v i wr => ∃ k : Nat, k ≤ ps.length ∧ i = .int .i64 k ∧ Below w.heap.size w wr ∧ IntsS wr w.heap.size v ((ps.take k).map cplL) ∧ IntsS wr w2.heap.size (.slice A4 ps.length c4) ps ∧ Away (.slice A4 ps.length c4) v) (fun _ i _ => ps.length - (intOf i).toNat)
    case atStart => exact ⟨0, Nat.zero_le _, rfl, hb5, hI4, own4, haw⟩
    case round =>
      obtain ⟨k, hk, rfl, hbw, hI, hL, ha⟩ := hrel
      clear hI4 own4 haw hb5
      by_cases hlt : k < ps.length
      · obtain ⟨ad, A1, c1, z, rfl, hz, hcell, hIz⟩ := hL.at_ hlt
        have hzP := unhide HPP z (List.mem_of_getElem? hz)
        have H6 := hide (l3cpl_any A1 z.length c1 _ z wr (hIz.argP hzP) hzP)
        have hnext := hide (map_take_snoc hz)
        have hsz := hbw.size
        have hln : ((ps.take k).map cplL).length ≤ 1048576 := by rw [List.length_map, List.length_take]; omega
        clear hz hIz hzP
        go_wp2_with fail
        refine (unhide H6).mono ?_
        rintro e w6 ⟨A6, c6, rfl, own6, hb6⟩
        clear H6
        have hb7 := below_after hbw hb6
        go_wp2_with (first
          | (at_builtin; refine wpList_push_row_at rfl (.tmp 20) (.tmp 26) rfl w.heap.size w wr w6 _ _ _ _ rfl rfl rfl hI hb6 own6 hln hb7 hsz ?_; intro v8 w8 hI8 hb8 hK8))
        obtain ⟨hL8, ha8⟩ := hK8 _ _ _ hL ha
        rw [← unhide hnext] at hI8
        clear hI hb6 own6 hb7 hbw hK8 hL ha hcell
        go_wp2
        go_roundw
        case rel => exact ⟨k + 1, by omega, by go_num, hb8, hI8, hL8, ha8⟩
        case measure => simp [intOf]; omega
      · obtain rfl : ps.length = k := by omega
        have hI2 : IntsS wr w.heap.size u3 (skewsR zs) := by rw [unhide HR]; rwa [List.take_length] at hI
        clear hI hL ha
        go_wp2
        go_ret
        exact GivesSS.mk hI2 hbw

set_option maxHeartbeats 800000 in
theorem iskews_any (A : Option Addr) (n c B : Nat) (zs : List Int) (w : World) (h : Arg w B A n c zs) :
    Calls Try.prog 24 #[.slice A n c] w (GivesSS w (skewsR zs)) := by
  obtain ⟨b, hb⟩ : ∃ b, isP zs = b := ⟨_, rfl⟩
  have H0 := hide (iisperm_any A n c B zs b hb w h.reads h.under h.le h.small)
  cases b with
  | false =>
    rw [skewsR_no hb]
    clear hb h
    go_enter Try.func24, Try.ntmps24
    go_wp2_with fail
    refine (unhide H0).mono ?_
    rintro e w1 ⟨rfl, hb⟩
    clear H0
    go_wp2
    go_ret
    exact GivesSS.mk (v := .slice none 0 0) (IntsS.nil _ _) hb
  | true =>
    have H1 := hide (fun w' (hb' : Below w.heap.size w w') => icpl_any A n c B zs w' (h.below hb'))
    rw [cplR_yes hb] at H1
    have HP := hide (isP_cpl hb)
    have HR := hide (skewsR_yes hb)
    have hsm := partsR_small (cplL zs)
    obtain ⟨ps, hps⟩ : ∃ ps, ps = partsR (cplL zs) := ⟨_, rfl⟩
    have hpP : ∀ z ∈ ps, isP z = true := fun z hz => partsR_isP (by rw [← hps]; exact hz)
    rw [← hps] at HR hsm
    have HPS := hide hps
    have HPP := hide hpP
    obtain ⟨hl8, _⟩ := hsm
    clear hb h hps hpP
    go_enter Try.func24, Try.ntmps24
    go_wp2_with fail
    refine (unhide H0).mono ?_
    rintro e w1 ⟨rfl, hb1⟩
    have H2 := hide (unhide H1 w1 hb1)
    clear H0 H1
    go_wp2_with fail
    refine (unhide H2).mono ?_
    rintro e w2 ⟨A2, c2, rfl, own2, hb2⟩
    have H3 := hide (iparts_any A2 _ c2 _ _ w2 (own2.argP (unhide HP)))
    have hb3 := below_after hb1 hb2
    clear H2 own2 hb2 hb1
    go_wp2_with fail
    refine (unhide H3).mono ?_
    rintro e w4 ⟨A4, c4, rfl, own4, hb4⟩
    clear H3
    have hb5 := below_after hb3 hb4
    have own5 := own4.low hb3.size
    rw [← unhide HPS] at own5 ⊢
    clear hb3 hb4 own4
    have hst : IntsS w4 w.heap.size (.slice A4 ps.length c4) (halfC ps 0) := by rw [halfC_zero]; exact own5
    clear own5
    go_wp2
    go_loopw [4, 5, 14] (fun _ _ i wr => ∃ k : Nat, k ≤ ps.length ∧ i = .int .i64 k ∧ Below w.heap.size w wr ∧ IntsS wr w.heap.size (.slice A4 ps.length c4) (halfC ps k)) (fun _ _ i _ => ps.length - (intOf i).toNat)
    case atStart => exact ⟨0, Nat.zero_le _, rfl, hb5, hst⟩
    case round =>
      obtain ⟨k, hk, rfl, hbw, hL⟩ := hrel
      clear hst hb5
      by_cases hlt : k < ps.length
      · obtain ⟨g, rfl⟩ := hL.shape (by omega)
        obtain ⟨ad, A1, c1, z, he, hz, hcell, hIz⟩ := hL.at_ hlt
        injection he with he
        subst he
        rw [show (⟨g, 0, none⟩ : Addr).add k = ⟨g, k, none⟩ by unfold Addr.add; split <;> simp_all] at hcell
        have hz2 : ps[k]? = some z := by
          have h9 : ps[k]? = some ps[k] := List.getElem?_eq_getElem hlt
          rw [halfC_at h9] at hz
          rw [h9, hz]
        have hzP := unhide HPP z (List.mem_of_getElem? hz2)
        have H6 := hide (icpl_any A1 z.length c1 _ z wr (hIz.argP hzP))
        rw [cplR_yes hzP] at H6
        have hnext := hide (halfC_set hz2)
        have hsz := hbw.size
        clear hz hz2 hIz hzP
        go_wp2_with fail
        refine (unhide H6).mono ?_
        rintro e w6 ⟨A6, c6, rfl, own6, hb6⟩
        clear H6
        have hb7 := below_after hbw hb6
        obtain ⟨⟨old, hold⟩, hfz, hge⟩ := (hL.below hb6).old (k := k) hlt
        have hL8 := hL.put (k := k) hb6 own6 hsz
        have hb8 := hb7.setCell (p := ⟨g, k, none⟩) hge (.slice A6 (cplL z).length c6)
        rw [unhide hnext] at hL8
        clear hbw hL hb6 own6 hb7 hge
        go_wp2
        go_roundw
        case rel => exact ⟨k + 1, by omega, by go_num, hb8, hL8⟩
        case measure => simp [intOf]; omega
      · obtain rfl : ps.length = k := by omega
        have hI2 : IntsS wr w.heap.size (.slice A4 ps.length c4) (skewsR zs) := by rw [unhide HR]; rwa [halfC_all] at hL
        clear hL
        go_wp2
        go_ret
        exact GivesSS.mk hI2 hbw
end Go.Proofs.Ytjfdjjigamlhfaa
