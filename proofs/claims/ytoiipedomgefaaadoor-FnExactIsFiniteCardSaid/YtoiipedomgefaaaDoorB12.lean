/-
  Words and contracts that the laws lean on, bundled: MeetJ, MeetV.
-/
import Derived.Test.YtoiipedomgefaaaDoorB11
import Derived.Test.YtoiipedomgefaaaDoorB7
import Derived.Test.YtoiipedomgefaaaDoorB4
import Derived.Test.YtoiipedomgefaaaDoorB5

/-
  impl.FirstBeyond, SymmetryBasis, by their contracts (where the variable errNoBasis holds an error). (Written by wip/tools/mkmeeti.py.)
-/

namespace Go.Proofs.YtoiipedomgefaaaDoor
set_option maxRecDepth 100000
open Go.RowKit

set_option maxHeartbeats 1600000 in
theorem ibey_any (A A' : Option Addr) (n c B n' c' B' : Nat) (a b : List (List Int)) (m : Int) (hm : -9223372036854775808 ≤ m ∧ m ≤ 9223372036854775807) (w : World) (hS : IntsS w B (.slice A n c) a) (hS' : IntsS w B' (.slice A' n' c') b) (hn : n ≤ 1048576) (hn' : n' ≤ 1048576) (hsm : ∀ z ∈ a, z.length ≤ 1048576 ∧ Small z) (hsm' : ∀ z ∈ b, z.length ≤ 1048576 ∧ Small z) (a0 : Addr) (hE : ErrAt a0 w) :
    Calls Tryd.prog 25 #[.slice A n c, .slice A' n' c', .int .i64 m] w (GivesIB w (beyR a b m) (beyOK a b m)) := by
  have HEE := hide (fun (w2 : World) (d : Below w.heap.size w w2) => (show w2.cell? ⟨0, 0, none⟩ = some (.iface 126 (.pointer (some a0))) from hE.below d))
  have d1 := below_after ((Below.refl w.heap.size w).alloc (Nat.le_refl _) (.cells #[.slice A n c, .slice A' n' c'] 22)) (below_drew _ _)
  have HC := hide (icheck_any w.heap.size 2 [a, b] a0 _ ((ListsAt.two (t := 22) hS hn hsm hS' hn' hsm').below (below_drew _ _)) rfl (by omega) (hE.below d1))
  have hE0 := unhide HEE _ (below_drew _ w)
  have hE1 := unhide HEE _ d1
  have hE9 := unhide HEE _ (Below.refl _ w)
  clear hE
  obtain ⟨ba, hba⟩ : ∃ x, basis a = x := ⟨_, rfl⟩
  obtain ⟨bb, hbb⟩ : ∃ x, basis b = x := ⟨_, rfl⟩
  obtain ⟨ok, hok⟩ : ∃ ok, (ba && bb) = ok := ⟨_, rfl⟩
  rw [show [a, b].all basis = ok by rw [← hok, ← hba, ← hbb]; simp] at HC
  cases ok with
  | false =>
    have HR := hide (bey_not (m := m) (bey_no (m := m) fun h => by rw [h.1] at hba; rw [h.2.1] at hbb; subst hba hbb; cases hok))
    rw [(unhide HR).1, (unhide HR).2]
    clear hS hS' hsm hsm' hba hbb hok
    go_enter Tryd.func25, Tryd.ntmps25
    go_wp2
    refine wp_region_held_drew (S := (fun wx => wx.cell? ⟨0, 0, none⟩ = some (.iface 126 (.pointer (some a0))))) (by kernel_rfl) ?_ (fun hHeld0 => ?_)
    · exact hE0
    refine wpAnyH_take (i := 0) (v := ?_) rfl (by kernel_rfl) (by kernel_rfl) (by kernel_rfl) (fun _ _ _ h => h) (Or.inl ⟨by rfl, ?_⟩) (by assumption) ?_
    rotate_left
    · intro w9 hSw
      (try dsimp only at hSw)
      go_simp
      all_goals with_reducible rfl
    simp only [Act.put, List.getElem_toArray, List.getElem_cons_zero, List.setIfInBounds_toArray, List.set_cons_zero, List.set_cons_succ]
    refine wpAnyH_take (i := 1) (v := ?_) rfl (by kernel_rfl) (by kernel_rfl) (by kernel_rfl) (fun _ _ _ h => h) (Or.inl ⟨by rfl, ?_⟩) (by assumption) ?_
    rotate_left
    · intro w9 hSw
      (try dsimp only at hSw)
      go_simp
      all_goals with_reducible rfl
    simp only [Act.put, List.getElem_toArray, List.getElem_cons_succ, List.getElem_cons_zero, List.setIfInBounds_toArray, List.set_cons_zero, List.set_cons_succ]
    refine wpAnyH_take (i := 4) (v := ?_) rfl (by kernel_rfl) (by kernel_rfl) (by kernel_rfl) (fun _ _ _ h => h) (Or.inl ⟨by rfl, ?_⟩) (by assumption) ?_
    rotate_left
    · intro w9 hSw
      (try dsimp only at hSw)
      go_simp
      all_goals with_reducible rfl
    simp only [Act.put, List.getElem_toArray, List.getElem_cons_succ, List.getElem_cons_zero, List.setIfInBounds_toArray, List.set_cons_zero, List.set_cons_succ]
    refine wpAnyH_ready (rs := [2]) (by kernel_rfl) (by simp) ?_
    refine AllReadyH.cons rfl (fun K hK => ?_) (AllReadyH.nil)
    go_simp
    refine hK.out _ _ ?_ (fun hHeld2 => ?_)
    · (try dsimp only)
      exact hE1
    clear hK K
    try simp only [Act.put, List.setIfInBounds_toArray, List.set_cons_zero, List.set_cons_succ]
    refine wpAnyH_ready (rs := [3]) (by kernel_rfl) (by simp) ?_
    refine AllReadyH.cons rfl (fun K hK => ?_) (AllReadyH.nil)
    go_simp
    go_at_call 35
    refine (unhide HC).mono ?_
    rintro e w4 ⟨rfl, d4⟩
    have hb4 := below_after d1 d4
    have hE4 := unhide HEE w4 hb4
    have H5 := hide (isSame_any a0 w4)
    clear HC d4
    refine hK.out _ _ ?_ (fun hHeld3 => ?_)
    · (try dsimp only)
      exact hE4
    clear hK K
    try simp only [Act.put, List.setIfInBounds_toArray, List.set_cons_zero, List.set_cons_succ]
    refine wpAnyH_ready (rs := [5]) (by kernel_rfl) (by simp) ?_
    refine AllReadyH.cons rfl (fun K hK => ?_) (AllReadyH.nil)
    go_simp
    go_at_call 34
    refine (unhide H5).mono ?_
    rintro e w5 ⟨rfl, hw5⟩
    replace hw5 := hw5.symm
    subst hw5
    refine hK.out _ _ ?_ (fun hHeld5 => ?_)
    · (try dsimp only)
      exact hE4
    clear hK K
    try simp only [Act.put, List.setIfInBounds_toArray, List.set_cons_zero, List.set_cons_succ]
    refine wpAnyH_take (i := 6) (v := ?_) rfl (by kernel_rfl) (by kernel_rfl) (by kernel_rfl) (fun _ _ _ h => h) (Or.inl ⟨by rfl, ?_⟩) (by assumption) ?_
    rotate_left
    · intro w9 hSw
      (try dsimp only at hSw)
      go_simp
      all_goals with_reducible rfl
    simp only [Act.put, List.getElem_toArray, List.getElem_cons_succ, List.getElem_cons_zero, List.setIfInBounds_toArray, List.set_cons_zero, List.set_cons_succ]
    refine wpAnyH_take (i := 7) (v := undef) rfl (by kernel_rfl) (by kernel_rfl) (by kernel_rfl) (fun _ _ _ h => h) (Or.inr ⟨by rfl, rfl⟩) (by assumption) ?_
    simp only [Act.put, List.getElem_toArray, List.getElem_cons_succ, List.getElem_cons_zero, List.setIfInBounds_toArray, List.set_cons_zero, List.set_cons_succ]
    refine wpAnyH_take (i := 8) (v := undef) rfl (by kernel_rfl) (by kernel_rfl) (by kernel_rfl) (fun _ _ _ h => h) (Or.inr ⟨by rfl, rfl⟩) (by assumption) ?_
    simp only [Act.put, List.getElem_toArray, List.getElem_cons_succ, List.getElem_cons_zero, List.setIfInBounds_toArray, List.set_cons_zero, List.set_cons_succ]
    refine wpAnyH_take (i := 9) (v := ?_) rfl (by kernel_rfl) (by kernel_rfl) (by kernel_rfl) (fun _ _ _ h => h) (Or.inl ⟨by rfl, ?_⟩) (by assumption) ?_
    rotate_left
    · intro w9 hSw
      (try dsimp only at hSw)
      go_simp
      all_goals with_reducible rfl
    simp only [Act.put, List.getElem_toArray, List.getElem_cons_succ, List.getElem_cons_zero, List.setIfInBounds_toArray, List.set_cons_zero, List.set_cons_succ]
    refine wpAnyH_take (i := 10) (v := ?_) rfl (by kernel_rfl) (by kernel_rfl) (by kernel_rfl) (fun _ _ _ h => h) (Or.inl ⟨by rfl, ?_⟩) (by assumption) ?_
    rotate_left
    · intro w9 hSw
      (try dsimp only at hSw)
      go_simp
      all_goals with_reducible rfl
    simp only [Act.put, List.getElem_toArray, List.getElem_cons_succ, List.getElem_cons_zero, List.setIfInBounds_toArray, List.set_cons_zero, List.set_cons_succ]
    refine wpAnyH_take (i := 11) (v := undef) rfl (by kernel_rfl) (by kernel_rfl) (by kernel_rfl) (fun _ _ _ h => h) (Or.inr ⟨by rfl, rfl⟩) (by assumption) ?_
    simp only [Act.put, List.getElem_toArray, List.getElem_cons_succ, List.getElem_cons_zero, List.setIfInBounds_toArray, List.set_cons_zero, List.set_cons_succ]
    refine wpAnyH_take (i := 12) (v := undef) rfl (by kernel_rfl) (by kernel_rfl) (by kernel_rfl) (fun _ _ _ h => h) (Or.inr ⟨by rfl, rfl⟩) (by assumption) ?_
    simp only [Act.put, List.getElem_toArray, List.getElem_cons_succ, List.getElem_cons_zero, List.setIfInBounds_toArray, List.set_cons_zero, List.set_cons_succ]
    refine wpAnyH_take (i := 13) (v := ?_) rfl (by kernel_rfl) (by kernel_rfl) (by kernel_rfl) (fun _ _ _ h => h) (Or.inl ⟨by rfl, ?_⟩) (by assumption) ?_
    rotate_left
    · intro w9 hSw
      (try dsimp only at hSw)
      go_simp
      all_goals with_reducible rfl
    simp only [Act.put, List.getElem_toArray, List.getElem_cons_succ, List.getElem_cons_zero, List.setIfInBounds_toArray, List.set_cons_zero, List.set_cons_succ]
    refine wpAnyH_done (by kernel_rfl) ?_ _
    clear hHeld0 hHeld2 hHeld3 hHeld5 hE0 hE1 hE9 hE4 HEE H5 d1
    go_wp2
    go_ret2
    exact GivesIB.mk (v := .slice none 0 0) false (Ints.nil _ _) hb4
  | true =>
    rw [Bool.and_eq_true] at hok
    rw [hok.1] at hba
    rw [hok.2] at hbb
    clear hok
    obtain ⟨hm1, hm2⟩ := hm
    by_cases hlo : m < 0
    · have HR := hide (bey_not (a := a) (b := b) (m := m) (bey_no (m := m) fun h => by omega))
      rw [(unhide HR).1, (unhide HR).2]
      clear hS hS' hsm hsm' hba hbb
      have hcl : decide (m < 0) = true := decide_eq_true hlo
      go_enter Tryd.func25, Tryd.ntmps25
      go_wp2
      refine wp_region_held_drew (S := (fun wx => wx.cell? ⟨0, 0, none⟩ = some (.iface 126 (.pointer (some a0))))) (by kernel_rfl) ?_ (fun hHeld0 => ?_)
      · exact hE0
      refine wpAnyH_take (i := 0) (v := ?_) rfl (by kernel_rfl) (by kernel_rfl) (by kernel_rfl) (fun _ _ _ h => h) (Or.inl ⟨by rfl, ?_⟩) (by assumption) ?_
      rotate_left
      · intro w9 hSw
        (try dsimp only at hSw)
        go_simp
        all_goals with_reducible rfl
      simp only [Act.put, List.getElem_toArray, List.getElem_cons_zero, List.setIfInBounds_toArray, List.set_cons_zero, List.set_cons_succ]
      refine wpAnyH_take (i := 1) (v := ?_) rfl (by kernel_rfl) (by kernel_rfl) (by kernel_rfl) (fun _ _ _ h => h) (Or.inl ⟨by rfl, ?_⟩) (by assumption) ?_
      rotate_left
      · intro w9 hSw
        (try dsimp only at hSw)
        go_simp
        all_goals with_reducible rfl
      simp only [Act.put, List.getElem_toArray, List.getElem_cons_succ, List.getElem_cons_zero, List.setIfInBounds_toArray, List.set_cons_zero, List.set_cons_succ]
      refine wpAnyH_take (i := 4) (v := ?_) rfl (by kernel_rfl) (by kernel_rfl) (by kernel_rfl) (fun _ _ _ h => h) (Or.inl ⟨by rfl, ?_⟩) (by assumption) ?_
      rotate_left
      · intro w9 hSw
        (try dsimp only at hSw)
        go_simp
        all_goals with_reducible rfl
      simp only [Act.put, List.getElem_toArray, List.getElem_cons_succ, List.getElem_cons_zero, List.setIfInBounds_toArray, List.set_cons_zero, List.set_cons_succ]
      refine wpAnyH_ready (rs := [2]) (by kernel_rfl) (by simp) ?_
      refine AllReadyH.cons rfl (fun K hK => ?_) (AllReadyH.nil)
      go_simp
      refine hK.out _ _ ?_ (fun hHeld2 => ?_)
      · (try dsimp only)
        exact hE1
      clear hK K
      try simp only [Act.put, List.setIfInBounds_toArray, List.set_cons_zero, List.set_cons_succ]
      refine wpAnyH_ready (rs := [3]) (by kernel_rfl) (by simp) ?_
      refine AllReadyH.cons rfl (fun K hK => ?_) (AllReadyH.nil)
      go_simp
      go_at_call 35
      refine (unhide HC).mono ?_
      rintro e w4 ⟨rfl, d4⟩
      have hb4 := below_after d1 d4
      have hE4 := unhide HEE w4 hb4
      have H5 := hide (isNil_any a0 w4)
      clear HC d4
      refine hK.out _ _ ?_ (fun hHeld3 => ?_)
      · (try dsimp only)
        exact hE4
      clear hK K
      try simp only [Act.put, List.setIfInBounds_toArray, List.set_cons_zero, List.set_cons_succ]
      refine wpAnyH_ready (rs := [5]) (by kernel_rfl) (by simp) ?_
      refine AllReadyH.cons rfl (fun K hK => ?_) (AllReadyH.nil)
      go_simp
      go_at_call 34
      refine (unhide H5).mono ?_
      rintro e w5 ⟨rfl, hw5⟩
      replace hw5 := hw5.symm
      subst hw5
      refine hK.out _ _ ?_ (fun hHeld5 => ?_)
      · (try dsimp only)
        exact hE4
      clear hK K
      try simp only [Act.put, List.setIfInBounds_toArray, List.set_cons_zero, List.set_cons_succ]
      refine wpAnyH_take (i := 6) (v := ?_) rfl (by kernel_rfl) (by kernel_rfl) (by kernel_rfl) (fun _ _ _ h => h) (Or.inl ⟨by rfl, ?_⟩) (by assumption) ?_
      rotate_left
      · intro w9 hSw
        (try dsimp only at hSw)
        go_simp
        all_goals with_reducible rfl
      simp only [Act.put, List.getElem_toArray, List.getElem_cons_succ, List.getElem_cons_zero, List.setIfInBounds_toArray, List.set_cons_zero, List.set_cons_succ]
      refine wpAnyH_take (i := 7) (v := ?_) rfl (by kernel_rfl) (by kernel_rfl) (by kernel_rfl) (fun _ _ _ h => h) (Or.inl ⟨by rfl, ?_⟩) (by assumption) ?_
      rotate_left
      · intro w9 hSw
        (try dsimp only at hSw)
        go_simp
        all_goals with_reducible rfl
      simp only [Act.put, List.getElem_toArray, List.getElem_cons_succ, List.getElem_cons_zero, List.setIfInBounds_toArray, List.set_cons_zero, List.set_cons_succ]
      refine wpAnyH_take (i := 8) (v := ?_) rfl (by kernel_rfl) (by kernel_rfl) (by kernel_rfl) (fun _ _ _ h => h) (Or.inl ⟨by rfl, ?_⟩) (by assumption) ?_
      rotate_left
      · intro w9 hSw
        (try dsimp only at hSw)
        go_simp
        all_goals with_reducible rfl
      simp only [Act.put, List.getElem_toArray, List.getElem_cons_succ, List.getElem_cons_zero, List.setIfInBounds_toArray, List.set_cons_zero, List.set_cons_succ]
      refine wpAnyH_take (i := 9) (v := ?_) rfl (by kernel_rfl) (by kernel_rfl) (by kernel_rfl) (fun _ _ _ h => h) (Or.inl ⟨by rfl, ?_⟩) (by assumption) ?_
      rotate_left
      · intro w9 hSw
        (try dsimp only at hSw)
        go_simp
        all_goals with_reducible rfl
      simp only [Act.put, List.getElem_toArray, List.getElem_cons_succ, List.getElem_cons_zero, List.setIfInBounds_toArray, List.set_cons_zero, List.set_cons_succ]
      refine wpAnyH_take (i := 10) (v := ?_) rfl (by kernel_rfl) (by kernel_rfl) (by kernel_rfl) (fun _ _ _ h => h) (Or.inl ⟨by rfl, ?_⟩) (by assumption) ?_
      rotate_left
      · intro w9 hSw
        (try dsimp only at hSw)
        go_simp
        all_goals with_reducible rfl
      simp only [Act.put, List.getElem_toArray, List.getElem_cons_succ, List.getElem_cons_zero, List.setIfInBounds_toArray, List.set_cons_zero, List.set_cons_succ]
      refine wpAnyH_take (i := 11) (v := undef) rfl (by kernel_rfl) (by kernel_rfl) (by kernel_rfl) (fun _ _ _ h => h) (Or.inr ⟨by rfl, rfl⟩) (by assumption) ?_
      simp only [Act.put, List.getElem_toArray, List.getElem_cons_succ, List.getElem_cons_zero, List.setIfInBounds_toArray, List.set_cons_zero, List.set_cons_succ]
      refine wpAnyH_take (i := 12) (v := undef) rfl (by kernel_rfl) (by kernel_rfl) (by kernel_rfl) (fun _ _ _ h => h) (Or.inr ⟨by rfl, rfl⟩) (by assumption) ?_
      simp only [Act.put, List.getElem_toArray, List.getElem_cons_succ, List.getElem_cons_zero, List.setIfInBounds_toArray, List.set_cons_zero, List.set_cons_succ]
      refine wpAnyH_take (i := 13) (v := ?_) rfl (by kernel_rfl) (by kernel_rfl) (by kernel_rfl) (fun _ _ _ h => h) (Or.inl ⟨by rfl, ?_⟩) (by assumption) ?_
      rotate_left
      · intro w9 hSw
        (try dsimp only at hSw)
        go_simp
        all_goals with_reducible rfl
      simp only [Act.put, List.getElem_toArray, List.getElem_cons_succ, List.getElem_cons_zero, List.setIfInBounds_toArray, List.set_cons_zero, List.set_cons_succ]
      refine wpAnyH_done (by kernel_rfl) ?_ _
      clear hHeld0 hHeld2 hHeld3 hHeld5 hE0 hE1 hE9 hE4 HEE H5 d1
      go_wp2
      go_ret2
      exact GivesIB.mk (v := .slice none 0 0) false (Ints.nil _ _) hb4
    · by_cases hhi : 6 < m
      · have HR := hide (bey_not (a := a) (b := b) (m := m) (bey_no (m := m) fun h => by omega))
        rw [(unhide HR).1, (unhide HR).2]
        clear hS hS' hsm hsm' hba hbb
        have hcl : decide (m < 0) = false := decide_eq_false hlo
        have hch : decide (6 < m) = true := decide_eq_true (by omega)
        go_enter Tryd.func25, Tryd.ntmps25
        go_wp2
        refine wp_region_held_drew (S := (fun wx => wx.cell? ⟨0, 0, none⟩ = some (.iface 126 (.pointer (some a0))))) (by kernel_rfl) ?_ (fun hHeld0 => ?_)
        · exact hE0
        refine wpAnyH_take (i := 0) (v := ?_) rfl (by kernel_rfl) (by kernel_rfl) (by kernel_rfl) (fun _ _ _ h => h) (Or.inl ⟨by rfl, ?_⟩) (by assumption) ?_
        rotate_left
        · intro w9 hSw
          (try dsimp only at hSw)
          go_simp
          all_goals with_reducible rfl
        simp only [Act.put, List.getElem_toArray, List.getElem_cons_zero, List.setIfInBounds_toArray, List.set_cons_zero, List.set_cons_succ]
        refine wpAnyH_take (i := 1) (v := ?_) rfl (by kernel_rfl) (by kernel_rfl) (by kernel_rfl) (fun _ _ _ h => h) (Or.inl ⟨by rfl, ?_⟩) (by assumption) ?_
        rotate_left
        · intro w9 hSw
          (try dsimp only at hSw)
          go_simp
          all_goals with_reducible rfl
        simp only [Act.put, List.getElem_toArray, List.getElem_cons_succ, List.getElem_cons_zero, List.setIfInBounds_toArray, List.set_cons_zero, List.set_cons_succ]
        refine wpAnyH_take (i := 4) (v := ?_) rfl (by kernel_rfl) (by kernel_rfl) (by kernel_rfl) (fun _ _ _ h => h) (Or.inl ⟨by rfl, ?_⟩) (by assumption) ?_
        rotate_left
        · intro w9 hSw
          (try dsimp only at hSw)
          go_simp
          all_goals with_reducible rfl
        simp only [Act.put, List.getElem_toArray, List.getElem_cons_succ, List.getElem_cons_zero, List.setIfInBounds_toArray, List.set_cons_zero, List.set_cons_succ]
        refine wpAnyH_ready (rs := [2]) (by kernel_rfl) (by simp) ?_
        refine AllReadyH.cons rfl (fun K hK => ?_) (AllReadyH.nil)
        go_simp
        refine hK.out _ _ ?_ (fun hHeld2 => ?_)
        · (try dsimp only)
          exact hE1
        clear hK K
        try simp only [Act.put, List.setIfInBounds_toArray, List.set_cons_zero, List.set_cons_succ]
        refine wpAnyH_ready (rs := [3]) (by kernel_rfl) (by simp) ?_
        refine AllReadyH.cons rfl (fun K hK => ?_) (AllReadyH.nil)
        go_simp
        go_at_call 35
        refine (unhide HC).mono ?_
        rintro e w4 ⟨rfl, d4⟩
        have hb4 := below_after d1 d4
        have hE4 := unhide HEE w4 hb4
        have H5 := hide (isNil_any a0 w4)
        clear HC d4
        refine hK.out _ _ ?_ (fun hHeld3 => ?_)
        · (try dsimp only)
          exact hE4
        clear hK K
        try simp only [Act.put, List.setIfInBounds_toArray, List.set_cons_zero, List.set_cons_succ]
        refine wpAnyH_ready (rs := [5]) (by kernel_rfl) (by simp) ?_
        refine AllReadyH.cons rfl (fun K hK => ?_) (AllReadyH.nil)
        go_simp
        go_at_call 34
        refine (unhide H5).mono ?_
        rintro e w5 ⟨rfl, hw5⟩
        replace hw5 := hw5.symm
        subst hw5
        refine hK.out _ _ ?_ (fun hHeld5 => ?_)
        · (try dsimp only)
          exact hE4
        clear hK K
        try simp only [Act.put, List.setIfInBounds_toArray, List.set_cons_zero, List.set_cons_succ]
        refine wpAnyH_take (i := 6) (v := ?_) rfl (by kernel_rfl) (by kernel_rfl) (by kernel_rfl) (fun _ _ _ h => h) (Or.inl ⟨by rfl, ?_⟩) (by assumption) ?_
        rotate_left
        · intro w9 hSw
          (try dsimp only at hSw)
          go_simp
          all_goals with_reducible rfl
        simp only [Act.put, List.getElem_toArray, List.getElem_cons_succ, List.getElem_cons_zero, List.setIfInBounds_toArray, List.set_cons_zero, List.set_cons_succ]
        refine wpAnyH_take (i := 7) (v := ?_) rfl (by kernel_rfl) (by kernel_rfl) (by kernel_rfl) (fun _ _ _ h => h) (Or.inl ⟨by rfl, ?_⟩) (by assumption) ?_
        rotate_left
        · intro w9 hSw
          (try dsimp only at hSw)
          go_simp
          all_goals with_reducible rfl
        simp only [Act.put, List.getElem_toArray, List.getElem_cons_succ, List.getElem_cons_zero, List.setIfInBounds_toArray, List.set_cons_zero, List.set_cons_succ]
        refine wpAnyH_take (i := 8) (v := ?_) rfl (by kernel_rfl) (by kernel_rfl) (by kernel_rfl) (fun _ _ _ h => h) (Or.inl ⟨by rfl, ?_⟩) (by assumption) ?_
        rotate_left
        · intro w9 hSw
          (try dsimp only at hSw)
          go_simp
          all_goals with_reducible rfl
        simp only [Act.put, List.getElem_toArray, List.getElem_cons_succ, List.getElem_cons_zero, List.setIfInBounds_toArray, List.set_cons_zero, List.set_cons_succ]
        refine wpAnyH_take (i := 9) (v := ?_) rfl (by kernel_rfl) (by kernel_rfl) (by kernel_rfl) (fun _ _ _ h => h) (Or.inl ⟨by rfl, ?_⟩) (by assumption) ?_
        rotate_left
        · intro w9 hSw
          (try dsimp only at hSw)
          go_simp
          all_goals with_reducible rfl
        simp only [Act.put, List.getElem_toArray, List.getElem_cons_succ, List.getElem_cons_zero, List.setIfInBounds_toArray, List.set_cons_zero, List.set_cons_succ]
        refine wpAnyH_take (i := 10) (v := ?_) rfl (by kernel_rfl) (by kernel_rfl) (by kernel_rfl) (fun _ _ _ h => h) (Or.inl ⟨by rfl, ?_⟩) (by assumption) ?_
        rotate_left
        · intro w9 hSw
          (try dsimp only at hSw)
          go_simp
          all_goals with_reducible rfl
        simp only [Act.put, List.getElem_toArray, List.getElem_cons_succ, List.getElem_cons_zero, List.setIfInBounds_toArray, List.set_cons_zero, List.set_cons_succ]
        refine wpAnyH_take (i := 11) (v := ?_) rfl (by kernel_rfl) (by kernel_rfl) (by kernel_rfl) (fun _ _ _ h => h) (Or.inl ⟨by rfl, ?_⟩) (by assumption) ?_
        rotate_left
        · intro w9 hSw
          (try dsimp only at hSw)
          go_simp
          all_goals with_reducible rfl
        simp only [Act.put, List.getElem_toArray, List.getElem_cons_succ, List.getElem_cons_zero, List.setIfInBounds_toArray, List.set_cons_zero, List.set_cons_succ]
        refine wpAnyH_take (i := 12) (v := ?_) rfl (by kernel_rfl) (by kernel_rfl) (by kernel_rfl) (fun _ _ _ h => h) (Or.inl ⟨by rfl, ?_⟩) (by assumption) ?_
        rotate_left
        · intro w9 hSw
          (try dsimp only at hSw)
          go_simp
          all_goals with_reducible rfl
        simp only [Act.put, List.getElem_toArray, List.getElem_cons_succ, List.getElem_cons_zero, List.setIfInBounds_toArray, List.set_cons_zero, List.set_cons_succ]
        refine wpAnyH_take (i := 13) (v := ?_) rfl (by kernel_rfl) (by kernel_rfl) (by kernel_rfl) (fun _ _ _ h => h) (Or.inl ⟨by rfl, ?_⟩) (by assumption) ?_
        rotate_left
        · intro w9 hSw
          (try dsimp only at hSw)
          go_simp
          all_goals with_reducible rfl
        simp only [Act.put, List.getElem_toArray, List.getElem_cons_succ, List.getElem_cons_zero, List.setIfInBounds_toArray, List.set_cons_zero, List.set_cons_succ]
        refine wpAnyH_done (by kernel_rfl) ?_ _
        clear hHeld0 hHeld2 hHeld3 hHeld5 hE0 hE1 hE9 hE4 HEE H5 d1
        go_wp2
        go_ret2
        exact GivesIB.mk (v := .slice none 0 0) false (Ints.nil _ _) hb4
      · obtain ⟨k, rfl⟩ : ∃ k : Nat, m = (k : Int) := ⟨m.toNat, by omega⟩
        have hk6 : k ≤ 6 := by omega
        have HIB := hide (fun (w4 : World) (d : Below w.heap.size w w4) => iib_any A A' n c B n' c' B' a b w4 (hS.below d) (hS'.below d) hba hbb)
        have HAT := hide (fun (w4 : World) (d : Below w.heap.size w w4) => (hS'.below d))
        have HN0 := hide (fun (h : ∀ q ∈ b, avo a q = false) => bey_not (bey_none_at hba hbb hk6 h))
        have HN1 := hide (fun (i : Nat) (z : List Int) (hz : b[i]? = some z) (hno : ∀ y ∈ b.take i, avo a y = false) (hl : k < z.length) => bey_not (bey_long hba hbb hk6 hz hno hl))
        have HY := hide (fun (i : Nat) (z : List Int) (hz : b[i]? = some z) (hza : avo a z = true) (hno : ∀ y ∈ b.take i, avo a y = false) (hl : z.length ≤ k) => bey_is (bey_at hba hbb hk6 hz hza hno hl))
        have HPP := hide (fun (z : List Int) (hz : z ∈ b) => (basis_isP hbb z hz).1)
        have HL := hide hS'.len
        clear hS hS' hba hbb hsm hsm' hm1 hm2
        go_enter Tryd.func25, Tryd.ntmps25
        go_wp2
        go_region_held3 (fun wx => wx.cell? ⟨0, 0, none⟩ = some (.iface 126 (.pointer (some a0)))) (first | with_reducible exact hE9 | with_reducible exact hE0 | with_reducible exact hE1 | with_reducible exact hE4)
          (first
            | (go_simp; go_at_call 35; refine (unhide HC).mono ?_; rintro e w4 ⟨rfl, d4⟩; have hb4 := below_after d1 d4; have hE4 := unhide HEE w4 hb4; have H5 := hide (isNil_any a0 w4); clear HC d4)
            | (go_simp; go_at_call 34; refine (unhide H5).mono ?_; rintro e w5 ⟨rfl, hw5⟩; replace hw5 := hw5.symm; subst hw5))
        have H6 := hide (unhide HIB w4 hb4)
        clear HIB HEE hE0 hE1 hE9 hE4 H5 d1
        go_wp2_with fail
        refine (unhide H6).mono ?_
        rintro e w6 ⟨x, rfl, hx, d6⟩
        have hb6 := below_after hb4 d6
        clear H6 d6 hb4
        rcases hx with ⟨rfl, h⟩ | ⟨i, z, rfl, hz, hf, hno⟩
        · have HR := hide (unhide HN0 h)
          clear h
          go_wp2
          go_ret2
          rw [(unhide HR).1, (unhide HR).2]
          exact GivesIB.mk (v := .slice none 0 0) false (Ints.nil _ _) hb6
        · have hi : i < n' := by
            have := (List.getElem?_eq_some_iff.1 hz).1
            rw [unhide HL] at this
            exact this
          obtain ⟨ad, A9, c9, z9, rfl, hz9, hcell, hI⟩ := (unhide HAT w6 hb6).at_ hi
          obtain rfl : z9 = z := Option.some.inj (hz9.symm.trans hz)
          have hzp := unhide HPP z9 (List.mem_of_getElem? hz)
          by_cases hlen : k < z9.length
          · have HR := hide (unhide HN1 i z9 hz hno hlen)
            obtain ⟨lz, hlz⟩ : ∃ l, l = z9.length := ⟨_, rfl⟩
            rw [← hlz] at hcell hlen
            have hlen' : (k : Int) < (lz : Int) := by omega
            clear hz hz9 hI hzp hf hno hlz
            go_wp2
            go_ret2
            rw [(unhide HR).1, (unhide HR).2]
            exact GivesIB.mk (v := .slice none 0 0) false (Ints.nil _ _) hb6
          · have HR := hide (unhide HY i z9 hz hf hno (by omega))
            have H7 := hide (clone_any A9 z9.length c9 _ z9 w6 (hI.argP hzp))
            obtain ⟨lz, hlz⟩ : ∃ l, l = z9.length := ⟨_, rfl⟩
            rw [← hlz] at hcell hlen H7
            have hlen' : ¬ (k : Int) < (lz : Int) := by omega
            have HLZ := hide hlz
            clear hz hz9 hI hzp hf hno hlz
            go_wp2_with fail
            refine (unhide H7).mono ?_
            rintro e w7 ⟨A7, c7, rfl, o7, d7⟩
            have HI := hide (o7.low hb6.size)
            have hb7 := below_after hb6 d7
            clear H7 o7 d7 hb6 hcell
            go_wp2
            go_ret2
            rw [(unhide HR).1, (unhide HR).2]
            exact GivesIB.mk true (unhide HI) hb7
set_option maxHeartbeats 1600000 in
theorem isymb_any (A : Option Addr) (n c B : Nat) (a : List (List Int)) (m : Int) (hm : -9223372036854775808 ≤ m ∧ m ≤ 9223372036854775807) (w : World) (hS : IntsS w B (.slice A n c) a) (hn : n ≤ 1048576) (hsm : ∀ z ∈ a, z.length ≤ 1048576 ∧ Small z) (a0 : Addr) (hE : ErrAt a0 w) :
    Calls Tryd.prog 19 #[.slice A n c, .int .i64 m] w (GivesSSB w (symBR a m) (symBOK a m)) := by
  have HEE := hide (fun (w2 : World) (d : Below w.heap.size w w2) => (show w2.cell? ⟨0, 0, none⟩ = some (.iface 126 (.pointer (some a0))) from hE.below d))
  have d1 := below_after ((Below.refl w.heap.size w).alloc (Nat.le_refl _) (.cells #[.slice A n c] 22)) (below_drew _ _)
  have HC := hide (icheck_any w.heap.size 1 [a] a0 _ ((ListsAt.one (t := 22) hS hn hsm).below (below_drew _ _)) rfl (by omega) (hE.below d1))
  have hE0 := unhide HEE _ (below_drew _ w)
  have hE1 := unhide HEE _ d1
  have hE9 := unhide HEE _ (Below.refl _ w)
  clear hE
  obtain ⟨ba, hba⟩ : ∃ x, basis a = x := ⟨_, rfl⟩
  rw [show [a].all basis = ba by rw [← hba]; simp] at HC
  cases ba with
  | false =>
    have HR := hide (show symBOK a m = false by unfold symBOK; rw [hba]; rfl)
    rw [symBR_no (unhide HR), unhide HR]
    clear hS hsm hba
    go_enter Tryd.func19, Tryd.ntmps19
    go_wp2
    refine wp_region_held_drew (S := (fun wx => wx.cell? ⟨0, 0, none⟩ = some (.iface 126 (.pointer (some a0))))) (by kernel_rfl) ?_ (fun hHeld0 => ?_)
    · exact hE0
    refine wpAnyH_take (i := 0) (v := ?_) rfl (by kernel_rfl) (by kernel_rfl) (by kernel_rfl) (fun _ _ _ h => h) (Or.inl ⟨by rfl, ?_⟩) (by assumption) ?_
    rotate_left
    · intro w9 hSw
      (try dsimp only at hSw)
      go_simp
      all_goals with_reducible rfl
    simp only [Act.put, List.getElem_toArray, List.getElem_cons_zero, List.setIfInBounds_toArray, List.set_cons_zero, List.set_cons_succ]
    refine wpAnyH_take (i := 3) (v := ?_) rfl (by kernel_rfl) (by kernel_rfl) (by kernel_rfl) (fun _ _ _ h => h) (Or.inl ⟨by rfl, ?_⟩) (by assumption) ?_
    rotate_left
    · intro w9 hSw
      (try dsimp only at hSw)
      go_simp
      all_goals with_reducible rfl
    simp only [Act.put, List.getElem_toArray, List.getElem_cons_succ, List.getElem_cons_zero, List.setIfInBounds_toArray, List.set_cons_zero, List.set_cons_succ]
    refine wpAnyH_ready (rs := [1]) (by kernel_rfl) (by simp) ?_
    refine AllReadyH.cons rfl (fun K hK => ?_) (AllReadyH.nil)
    go_simp
    refine hK.out _ _ ?_ (fun hHeld1 => ?_)
    · (try dsimp only)
      exact hE1
    clear hK K
    try simp only [Act.put, List.setIfInBounds_toArray, List.set_cons_zero, List.set_cons_succ]
    refine wpAnyH_ready (rs := [2]) (by kernel_rfl) (by simp) ?_
    refine AllReadyH.cons rfl (fun K hK => ?_) (AllReadyH.nil)
    go_simp
    go_at_call 35
    refine (unhide HC).mono ?_
    rintro e w4 ⟨rfl, d4⟩
    have hb4 := below_after d1 d4
    have hE4 := unhide HEE w4 hb4
    have H5 := hide (isSame_any a0 w4)
    clear HC d4
    refine hK.out _ _ ?_ (fun hHeld2 => ?_)
    · (try dsimp only)
      exact hE4
    clear hK K
    try simp only [Act.put, List.setIfInBounds_toArray, List.set_cons_zero, List.set_cons_succ]
    refine wpAnyH_ready (rs := [4]) (by kernel_rfl) (by simp) ?_
    refine AllReadyH.cons rfl (fun K hK => ?_) (AllReadyH.nil)
    go_simp
    go_at_call 34
    refine (unhide H5).mono ?_
    rintro e w5 ⟨rfl, hw5⟩
    replace hw5 := hw5.symm
    subst hw5
    refine hK.out _ _ ?_ (fun hHeld4 => ?_)
    · (try dsimp only)
      exact hE4
    clear hK K
    try simp only [Act.put, List.setIfInBounds_toArray, List.set_cons_zero, List.set_cons_succ]
    refine wpAnyH_take (i := 5) (v := ?_) rfl (by kernel_rfl) (by kernel_rfl) (by kernel_rfl) (fun _ _ _ h => h) (Or.inl ⟨by rfl, ?_⟩) (by assumption) ?_
    rotate_left
    · intro w9 hSw
      (try dsimp only at hSw)
      go_simp
      all_goals with_reducible rfl
    simp only [Act.put, List.getElem_toArray, List.getElem_cons_succ, List.getElem_cons_zero, List.setIfInBounds_toArray, List.set_cons_zero, List.set_cons_succ]
    refine wpAnyH_take (i := 6) (v := undef) rfl (by kernel_rfl) (by kernel_rfl) (by kernel_rfl) (fun _ _ _ h => h) (Or.inr ⟨by rfl, rfl⟩) (by assumption) ?_
    simp only [Act.put, List.getElem_toArray, List.getElem_cons_succ, List.getElem_cons_zero, List.setIfInBounds_toArray, List.set_cons_zero, List.set_cons_succ]
    refine wpAnyH_take (i := 7) (v := undef) rfl (by kernel_rfl) (by kernel_rfl) (by kernel_rfl) (fun _ _ _ h => h) (Or.inr ⟨by rfl, rfl⟩) (by assumption) ?_
    simp only [Act.put, List.getElem_toArray, List.getElem_cons_succ, List.getElem_cons_zero, List.setIfInBounds_toArray, List.set_cons_zero, List.set_cons_succ]
    refine wpAnyH_take (i := 8) (v := ?_) rfl (by kernel_rfl) (by kernel_rfl) (by kernel_rfl) (fun _ _ _ h => h) (Or.inl ⟨by rfl, ?_⟩) (by assumption) ?_
    rotate_left
    · intro w9 hSw
      (try dsimp only at hSw)
      go_simp
      all_goals with_reducible rfl
    simp only [Act.put, List.getElem_toArray, List.getElem_cons_succ, List.getElem_cons_zero, List.setIfInBounds_toArray, List.set_cons_zero, List.set_cons_succ]
    refine wpAnyH_take (i := 9) (v := ?_) rfl (by kernel_rfl) (by kernel_rfl) (by kernel_rfl) (fun _ _ _ h => h) (Or.inl ⟨by rfl, ?_⟩) (by assumption) ?_
    rotate_left
    · intro w9 hSw
      (try dsimp only at hSw)
      go_simp
      all_goals with_reducible rfl
    simp only [Act.put, List.getElem_toArray, List.getElem_cons_succ, List.getElem_cons_zero, List.setIfInBounds_toArray, List.set_cons_zero, List.set_cons_succ]
    refine wpAnyH_take (i := 10) (v := undef) rfl (by kernel_rfl) (by kernel_rfl) (by kernel_rfl) (fun _ _ _ h => h) (Or.inr ⟨by rfl, rfl⟩) (by assumption) ?_
    simp only [Act.put, List.getElem_toArray, List.getElem_cons_succ, List.getElem_cons_zero, List.setIfInBounds_toArray, List.set_cons_zero, List.set_cons_succ]
    refine wpAnyH_take (i := 11) (v := undef) rfl (by kernel_rfl) (by kernel_rfl) (by kernel_rfl) (fun _ _ _ h => h) (Or.inr ⟨by rfl, rfl⟩) (by assumption) ?_
    simp only [Act.put, List.getElem_toArray, List.getElem_cons_succ, List.getElem_cons_zero, List.setIfInBounds_toArray, List.set_cons_zero, List.set_cons_succ]
    refine wpAnyH_take (i := 12) (v := ?_) rfl (by kernel_rfl) (by kernel_rfl) (by kernel_rfl) (fun _ _ _ h => h) (Or.inl ⟨by rfl, ?_⟩) (by assumption) ?_
    rotate_left
    · intro w9 hSw
      (try dsimp only at hSw)
      go_simp
      all_goals with_reducible rfl
    simp only [Act.put, List.getElem_toArray, List.getElem_cons_succ, List.getElem_cons_zero, List.setIfInBounds_toArray, List.set_cons_zero, List.set_cons_succ]
    refine wpAnyH_done (by kernel_rfl) ?_ _
    clear hHeld0 hHeld1 hHeld2 hHeld4 hE0 hE1 hE9 hE4 HEE H5 d1
    go_wp2
    go_ret2
    exact GivesSSB.mk false (IntsS.nil _ _) hb4
  | true =>
    obtain ⟨hm1, hm2⟩ := hm
    by_cases hlo : m < 0
    · have HR := hide (show symBOK a m = false by unfold symBOK; rw [hba, decide_eq_false (by omega)]; rfl)
      rw [symBR_no (unhide HR), unhide HR]
      clear hS hsm hba
      have hcl : decide (m < 0) = true := decide_eq_true hlo
      go_enter Tryd.func19, Tryd.ntmps19
      go_wp2
      refine wp_region_held_drew (S := (fun wx => wx.cell? ⟨0, 0, none⟩ = some (.iface 126 (.pointer (some a0))))) (by kernel_rfl) ?_ (fun hHeld0 => ?_)
      · exact hE0
      refine wpAnyH_take (i := 0) (v := ?_) rfl (by kernel_rfl) (by kernel_rfl) (by kernel_rfl) (fun _ _ _ h => h) (Or.inl ⟨by rfl, ?_⟩) (by assumption) ?_
      rotate_left
      · intro w9 hSw
        (try dsimp only at hSw)
        go_simp
        all_goals with_reducible rfl
      simp only [Act.put, List.getElem_toArray, List.getElem_cons_zero, List.setIfInBounds_toArray, List.set_cons_zero, List.set_cons_succ]
      refine wpAnyH_take (i := 3) (v := ?_) rfl (by kernel_rfl) (by kernel_rfl) (by kernel_rfl) (fun _ _ _ h => h) (Or.inl ⟨by rfl, ?_⟩) (by assumption) ?_
      rotate_left
      · intro w9 hSw
        (try dsimp only at hSw)
        go_simp
        all_goals with_reducible rfl
      simp only [Act.put, List.getElem_toArray, List.getElem_cons_succ, List.getElem_cons_zero, List.setIfInBounds_toArray, List.set_cons_zero, List.set_cons_succ]
      refine wpAnyH_ready (rs := [1]) (by kernel_rfl) (by simp) ?_
      refine AllReadyH.cons rfl (fun K hK => ?_) (AllReadyH.nil)
      go_simp
      refine hK.out _ _ ?_ (fun hHeld1 => ?_)
      · (try dsimp only)
        exact hE1
      clear hK K
      try simp only [Act.put, List.setIfInBounds_toArray, List.set_cons_zero, List.set_cons_succ]
      refine wpAnyH_ready (rs := [2]) (by kernel_rfl) (by simp) ?_
      refine AllReadyH.cons rfl (fun K hK => ?_) (AllReadyH.nil)
      go_simp
      go_at_call 35
      refine (unhide HC).mono ?_
      rintro e w4 ⟨rfl, d4⟩
      have hb4 := below_after d1 d4
      have hE4 := unhide HEE w4 hb4
      have H5 := hide (isNil_any a0 w4)
      clear HC d4
      refine hK.out _ _ ?_ (fun hHeld2 => ?_)
      · (try dsimp only)
        exact hE4
      clear hK K
      try simp only [Act.put, List.setIfInBounds_toArray, List.set_cons_zero, List.set_cons_succ]
      refine wpAnyH_ready (rs := [4]) (by kernel_rfl) (by simp) ?_
      refine AllReadyH.cons rfl (fun K hK => ?_) (AllReadyH.nil)
      go_simp
      go_at_call 34
      refine (unhide H5).mono ?_
      rintro e w5 ⟨rfl, hw5⟩
      replace hw5 := hw5.symm
      subst hw5
      refine hK.out _ _ ?_ (fun hHeld4 => ?_)
      · (try dsimp only)
        exact hE4
      clear hK K
      try simp only [Act.put, List.setIfInBounds_toArray, List.set_cons_zero, List.set_cons_succ]
      refine wpAnyH_take (i := 5) (v := ?_) rfl (by kernel_rfl) (by kernel_rfl) (by kernel_rfl) (fun _ _ _ h => h) (Or.inl ⟨by rfl, ?_⟩) (by assumption) ?_
      rotate_left
      · intro w9 hSw
        (try dsimp only at hSw)
        go_simp
        all_goals with_reducible rfl
      simp only [Act.put, List.getElem_toArray, List.getElem_cons_succ, List.getElem_cons_zero, List.setIfInBounds_toArray, List.set_cons_zero, List.set_cons_succ]
      refine wpAnyH_take (i := 6) (v := ?_) rfl (by kernel_rfl) (by kernel_rfl) (by kernel_rfl) (fun _ _ _ h => h) (Or.inl ⟨by rfl, ?_⟩) (by assumption) ?_
      rotate_left
      · intro w9 hSw
        (try dsimp only at hSw)
        go_simp
        all_goals with_reducible rfl
      simp only [Act.put, List.getElem_toArray, List.getElem_cons_succ, List.getElem_cons_zero, List.setIfInBounds_toArray, List.set_cons_zero, List.set_cons_succ]
      refine wpAnyH_take (i := 7) (v := ?_) rfl (by kernel_rfl) (by kernel_rfl) (by kernel_rfl) (fun _ _ _ h => h) (Or.inl ⟨by rfl, ?_⟩) (by assumption) ?_
      rotate_left
      · intro w9 hSw
        (try dsimp only at hSw)
        go_simp
        all_goals with_reducible rfl
      simp only [Act.put, List.getElem_toArray, List.getElem_cons_succ, List.getElem_cons_zero, List.setIfInBounds_toArray, List.set_cons_zero, List.set_cons_succ]
      refine wpAnyH_take (i := 8) (v := ?_) rfl (by kernel_rfl) (by kernel_rfl) (by kernel_rfl) (fun _ _ _ h => h) (Or.inl ⟨by rfl, ?_⟩) (by assumption) ?_
      rotate_left
      · intro w9 hSw
        (try dsimp only at hSw)
        go_simp
        all_goals with_reducible rfl
      simp only [Act.put, List.getElem_toArray, List.getElem_cons_succ, List.getElem_cons_zero, List.setIfInBounds_toArray, List.set_cons_zero, List.set_cons_succ]
      refine wpAnyH_take (i := 9) (v := ?_) rfl (by kernel_rfl) (by kernel_rfl) (by kernel_rfl) (fun _ _ _ h => h) (Or.inl ⟨by rfl, ?_⟩) (by assumption) ?_
      rotate_left
      · intro w9 hSw
        (try dsimp only at hSw)
        go_simp
        all_goals with_reducible rfl
      simp only [Act.put, List.getElem_toArray, List.getElem_cons_succ, List.getElem_cons_zero, List.setIfInBounds_toArray, List.set_cons_zero, List.set_cons_succ]
      refine wpAnyH_take (i := 10) (v := undef) rfl (by kernel_rfl) (by kernel_rfl) (by kernel_rfl) (fun _ _ _ h => h) (Or.inr ⟨by rfl, rfl⟩) (by assumption) ?_
      simp only [Act.put, List.getElem_toArray, List.getElem_cons_succ, List.getElem_cons_zero, List.setIfInBounds_toArray, List.set_cons_zero, List.set_cons_succ]
      refine wpAnyH_take (i := 11) (v := undef) rfl (by kernel_rfl) (by kernel_rfl) (by kernel_rfl) (fun _ _ _ h => h) (Or.inr ⟨by rfl, rfl⟩) (by assumption) ?_
      simp only [Act.put, List.getElem_toArray, List.getElem_cons_succ, List.getElem_cons_zero, List.setIfInBounds_toArray, List.set_cons_zero, List.set_cons_succ]
      refine wpAnyH_take (i := 12) (v := ?_) rfl (by kernel_rfl) (by kernel_rfl) (by kernel_rfl) (fun _ _ _ h => h) (Or.inl ⟨by rfl, ?_⟩) (by assumption) ?_
      rotate_left
      · intro w9 hSw
        (try dsimp only at hSw)
        go_simp
        all_goals with_reducible rfl
      simp only [Act.put, List.getElem_toArray, List.getElem_cons_succ, List.getElem_cons_zero, List.setIfInBounds_toArray, List.set_cons_zero, List.set_cons_succ]
      refine wpAnyH_done (by kernel_rfl) ?_ _
      clear hHeld0 hHeld1 hHeld2 hHeld4 hE0 hE1 hE9 hE4 HEE H5 d1
      go_wp2
      go_ret2
      exact GivesSSB.mk false (IntsS.nil _ _) hb4
    · by_cases hhi : 7 < m
      · have HR := hide (show symBOK a m = false by unfold symBOK; rw [hba, decide_eq_false (by omega)]; rfl)
        rw [symBR_no (unhide HR), unhide HR]
        clear hS hsm hba
        have hcl : decide (m < 0) = false := decide_eq_false hlo
        have hch : decide (8 ≤ m) = true := decide_eq_true (by omega)
        go_enter Tryd.func19, Tryd.ntmps19
        go_wp2
        refine wp_region_held_drew (S := (fun wx => wx.cell? ⟨0, 0, none⟩ = some (.iface 126 (.pointer (some a0))))) (by kernel_rfl) ?_ (fun hHeld0 => ?_)
        · exact hE0
        refine wpAnyH_take (i := 0) (v := ?_) rfl (by kernel_rfl) (by kernel_rfl) (by kernel_rfl) (fun _ _ _ h => h) (Or.inl ⟨by rfl, ?_⟩) (by assumption) ?_
        rotate_left
        · intro w9 hSw
          (try dsimp only at hSw)
          go_simp
          all_goals with_reducible rfl
        simp only [Act.put, List.getElem_toArray, List.getElem_cons_zero, List.setIfInBounds_toArray, List.set_cons_zero, List.set_cons_succ]
        refine wpAnyH_take (i := 3) (v := ?_) rfl (by kernel_rfl) (by kernel_rfl) (by kernel_rfl) (fun _ _ _ h => h) (Or.inl ⟨by rfl, ?_⟩) (by assumption) ?_
        rotate_left
        · intro w9 hSw
          (try dsimp only at hSw)
          go_simp
          all_goals with_reducible rfl
        simp only [Act.put, List.getElem_toArray, List.getElem_cons_succ, List.getElem_cons_zero, List.setIfInBounds_toArray, List.set_cons_zero, List.set_cons_succ]
        refine wpAnyH_ready (rs := [1]) (by kernel_rfl) (by simp) ?_
        refine AllReadyH.cons rfl (fun K hK => ?_) (AllReadyH.nil)
        go_simp
        refine hK.out _ _ ?_ (fun hHeld1 => ?_)
        · (try dsimp only)
          exact hE1
        clear hK K
        try simp only [Act.put, List.setIfInBounds_toArray, List.set_cons_zero, List.set_cons_succ]
        refine wpAnyH_ready (rs := [2]) (by kernel_rfl) (by simp) ?_
        refine AllReadyH.cons rfl (fun K hK => ?_) (AllReadyH.nil)
        go_simp
        go_at_call 35
        refine (unhide HC).mono ?_
        rintro e w4 ⟨rfl, d4⟩
        have hb4 := below_after d1 d4
        have hE4 := unhide HEE w4 hb4
        have H5 := hide (isNil_any a0 w4)
        clear HC d4
        refine hK.out _ _ ?_ (fun hHeld2 => ?_)
        · (try dsimp only)
          exact hE4
        clear hK K
        try simp only [Act.put, List.setIfInBounds_toArray, List.set_cons_zero, List.set_cons_succ]
        refine wpAnyH_ready (rs := [4]) (by kernel_rfl) (by simp) ?_
        refine AllReadyH.cons rfl (fun K hK => ?_) (AllReadyH.nil)
        go_simp
        go_at_call 34
        refine (unhide H5).mono ?_
        rintro e w5 ⟨rfl, hw5⟩
        replace hw5 := hw5.symm
        subst hw5
        refine hK.out _ _ ?_ (fun hHeld4 => ?_)
        · (try dsimp only)
          exact hE4
        clear hK K
        try simp only [Act.put, List.setIfInBounds_toArray, List.set_cons_zero, List.set_cons_succ]
        refine wpAnyH_take (i := 5) (v := ?_) rfl (by kernel_rfl) (by kernel_rfl) (by kernel_rfl) (fun _ _ _ h => h) (Or.inl ⟨by rfl, ?_⟩) (by assumption) ?_
        rotate_left
        · intro w9 hSw
          (try dsimp only at hSw)
          go_simp
          all_goals with_reducible rfl
        simp only [Act.put, List.getElem_toArray, List.getElem_cons_succ, List.getElem_cons_zero, List.setIfInBounds_toArray, List.set_cons_zero, List.set_cons_succ]
        refine wpAnyH_take (i := 6) (v := ?_) rfl (by kernel_rfl) (by kernel_rfl) (by kernel_rfl) (fun _ _ _ h => h) (Or.inl ⟨by rfl, ?_⟩) (by assumption) ?_
        rotate_left
        · intro w9 hSw
          (try dsimp only at hSw)
          go_simp
          all_goals with_reducible rfl
        simp only [Act.put, List.getElem_toArray, List.getElem_cons_succ, List.getElem_cons_zero, List.setIfInBounds_toArray, List.set_cons_zero, List.set_cons_succ]
        refine wpAnyH_take (i := 7) (v := ?_) rfl (by kernel_rfl) (by kernel_rfl) (by kernel_rfl) (fun _ _ _ h => h) (Or.inl ⟨by rfl, ?_⟩) (by assumption) ?_
        rotate_left
        · intro w9 hSw
          (try dsimp only at hSw)
          go_simp
          all_goals with_reducible rfl
        simp only [Act.put, List.getElem_toArray, List.getElem_cons_succ, List.getElem_cons_zero, List.setIfInBounds_toArray, List.set_cons_zero, List.set_cons_succ]
        refine wpAnyH_take (i := 8) (v := ?_) rfl (by kernel_rfl) (by kernel_rfl) (by kernel_rfl) (fun _ _ _ h => h) (Or.inl ⟨by rfl, ?_⟩) (by assumption) ?_
        rotate_left
        · intro w9 hSw
          (try dsimp only at hSw)
          go_simp
          all_goals with_reducible rfl
        simp only [Act.put, List.getElem_toArray, List.getElem_cons_succ, List.getElem_cons_zero, List.setIfInBounds_toArray, List.set_cons_zero, List.set_cons_succ]
        refine wpAnyH_take (i := 9) (v := ?_) rfl (by kernel_rfl) (by kernel_rfl) (by kernel_rfl) (fun _ _ _ h => h) (Or.inl ⟨by rfl, ?_⟩) (by assumption) ?_
        rotate_left
        · intro w9 hSw
          (try dsimp only at hSw)
          go_simp
          all_goals with_reducible rfl
        simp only [Act.put, List.getElem_toArray, List.getElem_cons_succ, List.getElem_cons_zero, List.setIfInBounds_toArray, List.set_cons_zero, List.set_cons_succ]
        refine wpAnyH_take (i := 10) (v := ?_) rfl (by kernel_rfl) (by kernel_rfl) (by kernel_rfl) (fun _ _ _ h => h) (Or.inl ⟨by rfl, ?_⟩) (by assumption) ?_
        rotate_left
        · intro w9 hSw
          (try dsimp only at hSw)
          go_simp
          all_goals with_reducible rfl
        simp only [Act.put, List.getElem_toArray, List.getElem_cons_succ, List.getElem_cons_zero, List.setIfInBounds_toArray, List.set_cons_zero, List.set_cons_succ]
        refine wpAnyH_take (i := 11) (v := ?_) rfl (by kernel_rfl) (by kernel_rfl) (by kernel_rfl) (fun _ _ _ h => h) (Or.inl ⟨by rfl, ?_⟩) (by assumption) ?_
        rotate_left
        · intro w9 hSw
          (try dsimp only at hSw)
          go_simp
          all_goals with_reducible rfl
        simp only [Act.put, List.getElem_toArray, List.getElem_cons_succ, List.getElem_cons_zero, List.setIfInBounds_toArray, List.set_cons_zero, List.set_cons_succ]
        refine wpAnyH_take (i := 12) (v := ?_) rfl (by kernel_rfl) (by kernel_rfl) (by kernel_rfl) (fun _ _ _ h => h) (Or.inl ⟨by rfl, ?_⟩) (by assumption) ?_
        rotate_left
        · intro w9 hSw
          (try dsimp only at hSw)
          go_simp
          all_goals with_reducible rfl
        simp only [Act.put, List.getElem_toArray, List.getElem_cons_succ, List.getElem_cons_zero, List.setIfInBounds_toArray, List.set_cons_zero, List.set_cons_succ]
        refine wpAnyH_done (by kernel_rfl) ?_ _
        clear hHeld0 hHeld1 hHeld2 hHeld4 hE0 hE1 hE9 hE4 HEE H5 d1
        go_wp2
        go_ret2
        exact GivesSSB.mk false (IntsS.nil _ _) hb4
      · obtain ⟨k, rfl⟩ : ∃ k : Nat, m = (k : Int) := ⟨m.toNat, by omega⟩
        have hk7 : k ≤ 7 := by omega
        obtain ⟨i0, hi, hz0, hz1, hz2⟩ := info_parts rowsInfo1
        have hl := hS.len
        have hn8 : n ≤ 8 := by have := basis_le hba; omega
        have HR := hide (symBR_yes hba hk7)
        rw [(unhide HR).1, (unhide HR).2]
        have HA := hide (⟨hS, fun z hz => (basis_isP hba z hz).1⟩ : IntsS w B (.slice A n c) a ∧ ∀ z ∈ a, isP z = true)
        have HAT := hide (fun (j : Nat) (z : List Int) (hz : a[j]? = some z) => (show (a.map fun z => symL z k)[j]? = some (symL z k) by rw [List.getElem?_map, hz]; rfl))
        have HLEN := hide (show (a.map fun z => symL z k).length = n by rw [List.length_map]; exact hl)
        have HDEF := hide (show ordR (a.map fun z => symL z k) = symB a k from rfl)
        have HSM := hide (fun (z : List Int) (hz : z ∈ a.map fun z => symL z k) => (show z.length ≤ 1048576 ∧ Small z by
          obtain ⟨y, hy, rfl⟩ := List.mem_map.1 hz
          have h1 := symL_isP (basis_isP hba y hy).1 k
          exact ⟨by have := isP_le h1; omega, isP_small h1⟩))
        obtain ⟨Z, hZ⟩ : ∃ Z, Z = a.map fun z => symL z k := ⟨_, rfl⟩
        rw [← hZ] at HAT HLEN HDEF HSM
        clear hS hsm hba hl hZ hm1 hm2
        go_enter Tryd.func19, Tryd.ntmps19
        go_wp2
        go_region_held3 (fun wx => wx.cell? ⟨0, 0, none⟩ = some (.iface 126 (.pointer (some a0)))) (first | with_reducible exact hE9 | with_reducible exact hE0 | with_reducible exact hE1 | with_reducible exact hE4)
          (first
            | (go_simp; go_at_call 35; refine (unhide HC).mono ?_; rintro e w4 ⟨rfl, d4⟩; have hb4 := below_after d1 d4; have hE4 := unhide HEE w4 hb4; have H5 := hide (isNil_any a0 w4); clear HC d4)
            | (go_simp; go_at_call 34; refine (unhide H5).mono ?_; rintro e w5 ⟨rfl, hw5⟩; replace hw5 := hw5.symm; subst hw5))
        have hs4 := hb4.size
        clear HEE hE0 hE1 hE9 hE4 H5 d1
        go_wp2_with (first
          | (at_make; refine wpList_make_full _ rfl (.tmp 23) (.tmp 23) 22 rfl w.heap.size 31 i0 (.slice none 0 0) 1 Tryd.underlying22 hi hz0 hz1 _ _ _ _ n rfl rfl (by first | rfl | omega) (by first | rfl | omega) (by rw [hz2]; omega) (by unfold maxLen; omega) hs4 ?_; intro w5 hown hg))
        have hF := Filled.start (zss := Z) (unhide HLEN) hb4 hown hg
        clear hown hg hb4
        obtain ⟨g, hgw⟩ : ∃ g, g = w4.heap.size := ⟨_, rfl⟩
        rw [← hgw] at hF ⊢
        clear hgw hs4
        go_loopw [7, 8, 27] (fun _ _ i wr => ∃ j : Nat, j ≤ n ∧ i = .int .i64 j ∧ Filled w wr g n Z j) (fun _ _ i _ => n - (intOf i).toNat)
        case atStart => exact ⟨0, Nat.zero_le _, rfl, hF⟩
        case round =>
          obtain ⟨j, hj, rfl, hF⟩ := hrel
          by_cases hlt : j < n
          · obtain ⟨ad, A1, c1, z, rfl, hz, hcell, hI⟩ := ((unhide HA).1.below hF.below).at_ hlt
            have hzp := (unhide HA).2 z (List.mem_of_getElem? hz)
            have H3 := hide (isym_yes A1 z.length c1 _ z k hk7 wr (hI.argP hzp) hzp)
            have HF := hide hF
            have HZ := hide (unhide HAT j z hz)
            obtain ⟨lz, hlz⟩ : ∃ l, l = z.length := ⟨_, rfl⟩
            rw [← hlz] at hcell H3
            clear hz hzp hI hF hlz
            go_wp2_with fail
            refine (unhide H3).mono ?_
            rintro e w6 ⟨A3, c3, rfl, o3, d3⟩
            obtain ⟨⟨old, hold⟩, hfz⟩ := (unhide HF).old d3 hlt
            have hF2 := (unhide HF).put (unhide HZ) d3 o3
            clear H3 d3 o3 HF hcell
            go_wp2
            go_roundw
            case rel => exact ⟨j + 1, by omega, by go_num, hF2⟩
            case measure => simp [intOf]; omega
          · obtain rfl : n = j := by omega
            obtain ⟨hbw, vs, hown, hin⟩ := hF
            have he : fillS Z n = Z := by
              have := fillS_all Z
              rwa [unhide HLEN] at this
            rw [he] at hin
            have hS : IntsS wr w.heap.size (.slice (some ⟨g, 0, none⟩) n n) Z := ⟨vs, by rw [unhide HLEN]; exact hown, hin⟩
            have H4 := hide (iorda_any _ n n Z wr (hS.atS (unhide HSM)) (by omega))
            rw [unhide HDEF] at H4
            clear hown hin he hS
            go_wp2_with fail
            refine (unhide H4).mono ?_
            rintro e w7 ⟨A7, c7, rfl, o7, d7⟩
            have HI := hide (o7.low hbw.size)
            have hb7 := below_after hbw d7
            clear H4 o7 d7 hbw
            go_wp2
            go_ret2
            exact GivesSSB.mk true (unhide HI) hb7
end Go.Proofs.YtoiipedomgefaaaDoor


/-
  spec.l13Straight, IsFinite, IsSumClosed, FirstBeyond, by their contracts.
-/

namespace Go.Proofs.YtoiipedomgefaaaDoor
set_option maxRecDepth 100000
open Go.RowKit

theorem isP_upN {n : Nat} (h : n ≤ 8) : isP (upTo n) = true := isP_true.2 ⟨by rw [upTo_length]; exact h, fun x hx => by rw [upTo_length]; exact mem_upTo.1 hx, upTo_nodup n⟩
theorem idR_len {z : List Int} (h : isP z = true) : idR (z.length : Int) = upTo z.length := by
  by_cases h0 : z.length = 0
  · have : z = [] := List.eq_nil_of_length_eq_zero h0
    subst this
    decide
  · rw [idR_yes (by omega) (by have := isP_le h; omega), Int.toNat_natCast]
set_option maxHeartbeats 800000 in
theorem l13str_any (A : Option Addr) (n c B : Nat) (z : List Int) (w : World) (h : Arg w B A n c z) (hp : isP z = true) :
    Calls Tryd.prog 47 #[.slice A n c] w (GivesB w (strP z)) := by
  have hl := h.len
  have hn8 : n ≤ 8 := by have := isP_le hp; omega
  have H1 := hide (by have h5 := sid_any ((n : Nat) : Int) (by omega) w; rw [← hl, idR_len hp, hl] at h5; exact h5 : Calls Tryd.prog 79 #[.int .i64 (n : Int)] w (GivesI w (upTo n)))
  have hup : isP (upTo n) = true := isP_upN hn8
  have H2 := hide (fun (w1 : World) (d : Below w.heap.size w w1) (A1 : Option Addr) (c1 : Nat) (o : Ints w1 w.heap.size (.slice A1 (upTo n).length c1) (upTo n)) => l2same_any A A1 n c B _ c1 _ z (upTo n) (strP z) (by unfold strP; rw [hl]) w1 (h.below d) (o.argP hup))
  obtain ⟨b, hb⟩ : ∃ b, b = strP z := ⟨_, rfl⟩
  rw [← hb] at H2 ⊢
  clear h hp hl hup hb
  go_enter Tryd.func47, Tryd.ntmps47
  go_wp2_with fail
  refine (unhide H1).mono ?_
  rintro e w1 ⟨A1, c1, rfl, o1, d1⟩
  have H3 := hide (unhide H2 w1 d1 A1 c1 o1)
  clear H1 H2 o1
  go_wp2_with fail
  refine (unhide H3).mono ?_
  rintro e w2 ⟨rfl, d2⟩
  have hb2 := d1.trans (d2.below _)
  clear H3 d1 d2
  go_wp2
  go_ret
  exact ⟨rfl, hb2⟩
set_option maxHeartbeats 3200000 in
theorem sfin_any (A : Option Addr) (n c B : Nat) (L : List (List Int)) (w : World) (hS : IntsS w B (.slice A n c) L) (hn : n ≤ 1048576) (hsm : ∀ z ∈ L, z.length ≤ 1048576 ∧ Small z) :
    Calls Tryd.prog 20 #[.slice A n c] w (GivesB w (finR L)) := by
  have hl := hS.len
  obtain ⟨b, hb⟩ : ∃ x, basis L = x := ⟨_, rfl⟩
  have HB := hide (fun (w' : World) (d : Below w.heap.size w w') => by have h := sbas_any A n c B L w' (hS.below d) hn hsm; rw [hb] at h; exact h)
  have hb0 := Below.refl w.heap.size w
  cases b with
  | false =>
    have hpos : 0 < n := by have := basis_some hb; omega
    rw [fin_no hb]
    clear hS hsm hb hl
    go_enter Tryd.func20, Tryd.ntmps20
    go_wp2
    go_loopw [3, 4, 5] (fun u d i wr => u = .bool false ∧ d = .bool false ∧ i = .int .i64 0 ∧ wr = w) (fun _ _ _ _ => 0)
    case atStart => exact ⟨rfl, rfl, rfl, rfl⟩
    case round =>
      obtain ⟨rfl, rfl, rfl, rfl⟩ := hrel
      have hp0 : (0 : Int) < (n : Int) := by omega
      have H1 := hide (unhide HB wr hb0)
      go_wp2_with fail
      refine (unhide H1).mono ?_
      rintro e w1 ⟨rfl, d1⟩
      clear H1 hb0
      go_wp2
      go_ret
      exact ⟨rfl, d1⟩
  | true =>
    have hn8 : n ≤ 8 := by have := basis_le hb; omega
    have HA := hide (⟨hS, fun z hz => (basis_isP hb z hz).1⟩ : IntsS w B (.slice A n c) L ∧ ∀ z ∈ L, isP z = true)
    have HL := hide hl
    have HF := hide (fin_yes hb)
    clear hS hsm hb hl
    go_enter Tryd.func20, Tryd.ntmps20
    go_wp2
    go_loopw [3, 4, 5] (fun u d i wr => ∃ k : Nat, k ≤ n ∧ i = .int .i64 k ∧ u = .bool ((L.take k).any strP) ∧ d = .bool ((L.take k).any fun z => strP z.reverse) ∧ Below w.heap.size w wr) (fun _ _ i _ => n - (intOf i).toNat)
    case atStart => exact ⟨0, Nat.zero_le _, rfl, by simp, by simp, hb0⟩
    case round =>
      obtain ⟨k, hk, rfl, rfl, rfl, hbw⟩ := hrel
      clear hb0
      by_cases hlt : k < n
      · have H1 := hide (unhide HB wr hbw)
        obtain ⟨ad, A6, c6, z, rfl, hz, hcell, hI⟩ := ((unhide HA).1.below hbw).at_ hlt
        have hzp := (unhide HA).2 z (List.mem_of_getElem? hz)
        have hcl := World.block_lt_of_cell? wr _ hcell
        have hArg := hI.argP hzp
        have H2 := hide (fun (w' : World) (d : Below wr.heap.size wr w') => l13str_any A6 z.length c6 _ z w' (hArg.below d) hzp)
        have H3 := hide (fun (w' : World) (d : Below wr.heap.size wr w') => l3rev_any A6 z.length c6 _ z w' (hArg.below d))
        have H4 := hide (fun (w' : World) (B9 : Nat) (A9 : Option Addr) (c9 : Nat) (o : Ints w' B9 (.slice A9 z.reverse.length c9) z.reverse) => l13str_any A9 z.reverse.length c9 _ z.reverse w' (o.argP (isP_rev hzp)) (isP_rev hzp))
        have HU := hide (any_step (f := strP) hz)
        have HD := hide (any_step (f := fun z => strP z.reverse) hz)
        obtain ⟨bu, hbu⟩ : ∃ x, (L.take k).any strP = x := ⟨_, rfl⟩
        obtain ⟨bd, hbd⟩ : ∃ x, (L.take k).any (fun z => strP z.reverse) = x := ⟨_, rfl⟩
        obtain ⟨su, hsu⟩ : ∃ x, strP z = x := ⟨_, rfl⟩
        obtain ⟨sd, hsd⟩ : ∃ x, strP z.reverse = x := ⟨_, rfl⟩
        rw [hsu] at HU
        rw [hsd] at HD
        rw [hbu] at HU ⊢
        rw [hbd] at HD ⊢
        simp only [hsu] at H2
        simp only [hsd] at H4
        obtain ⟨lz, hlz⟩ : ∃ l, l = z.length := ⟨_, rfl⟩
        rw [← hlz] at hcell
        simp only [← hlz] at H2 H3
        clear hz hzp hI hArg hbu hbd hsu hsd hlz
        go_wp2_with fail
        refine (unhide H1).mono ?_
        rintro e w1 ⟨rfl, d1⟩
        clear H1
        have HB2 := HU
        cases bu with
        | true =>
          cases bd with
          | true =>
            have hb9 := below_after hbw d1
            have HU2 := hide (unhide HU).symm
            have HD2 := hide (unhide HD).symm
            clear HB2 H2 H3 H4 hcell hcl HU HD d1 hbw
            go_wp2
            go_roundw
            case rel => exact ⟨k + 1, by omega, by go_num, by rw [← unhide HU2]; first | rfl | (cases su <;> rfl), by rw [← unhide HD2]; rfl, hb9⟩
            case measure => simp [intOf]; omega
          | false =>
            have hcell8 := (d1.cell hcl).trans hcell
            have H6 := hide (unhide H3 w1 d1)
            clear H2 H3
            go_wp2_with fail
            refine (unhide H6).mono ?_
            rintro e w8 ⟨A8, c8, rfl, o8, d8⟩
            have H7 := hide (unhide H4 w8 _ A8 c8 o8)
            rw [List.length_reverse] at H7
            have d9 := below_after d1 d8
            clear H4 H6 o8 d8 hcell8
            go_wp2_with fail
            refine (unhide H7).mono ?_
            rintro e w9 ⟨rfl, e9⟩
            have hb9 := below_after hbw (below_after d9 e9)
            have HU2 := hide (unhide HU).symm
            have HD2 := hide (unhide HD).symm
            clear HB2 H7 hcell hcl HU HD d9 e9 d1 hbw
            go_wp2
            go_roundw
            case rel => exact ⟨k + 1, by omega, by go_num, by rw [← unhide HU2]; first | rfl | (cases su <;> rfl), by rw [← unhide HD2]; rfl, hb9⟩
            case measure => simp [intOf]; omega
        | false =>
          have hcell2 := (d1.cell hcl).trans hcell
          have H5 := hide (unhide H2 w1 d1)
          go_wp2_with fail
          refine (unhide H5).mono ?_
          rintro e w2 ⟨rfl, d2⟩
          have d3 := below_after d1 d2
          clear H5 d1 d2 hcell2
          cases bd with
          | true =>
            have hb9 := below_after hbw d3
            have HU2 := hide (unhide HU).symm
            have HD2 := hide (unhide HD).symm
            clear HB2 H2 H3 H4 hcell hcl HU HD d3 hbw
            go_wp2
            go_roundw
            case rel => exact ⟨k + 1, by omega, by go_num, by rw [← unhide HU2]; first | rfl | (cases su <;> rfl), by rw [← unhide HD2]; rfl, hb9⟩
            case measure => simp [intOf]; omega
          | false =>
            have hcell8 := (d3.cell hcl).trans hcell
            have H6 := hide (unhide H3 w2 d3)
            clear H2 H3
            go_wp2_with fail
            refine (unhide H6).mono ?_
            rintro e w8 ⟨A8, c8, rfl, o8, d8⟩
            have H7 := hide (unhide H4 w8 _ A8 c8 o8)
            rw [List.length_reverse] at H7
            have d9 := below_after d3 d8
            clear H4 H6 o8 d8 hcell8
            go_wp2_with fail
            refine (unhide H7).mono ?_
            rintro e w9 ⟨rfl, e9⟩
            have hb9 := below_after hbw (below_after d9 e9)
            have HU2 := hide (unhide HU).symm
            have HD2 := hide (unhide HD).symm
            clear HB2 H7 hcell hcl HU HD d9 e9 d3 hbw
            go_wp2
            go_roundw
            case rel => exact ⟨k + 1, by omega, by go_num, by rw [← unhide HU2]; first | rfl | (cases su <;> rfl), by rw [← unhide HD2]; rfl, hb9⟩
            case measure => simp [intOf]; omega
      · obtain rfl : n = k := by omega
        have hR : ((L.take n).any strP && (L.take n).any fun z => strP z.reverse) = finR L := by rw [unhide HF, List.take_of_length_le (by rw [unhide HL]; exact Nat.le_refl _)]
        obtain ⟨bu, hbu⟩ : ∃ x, (L.take n).any strP = x := ⟨_, rfl⟩
        obtain ⟨bd, hbd⟩ : ∃ x, (L.take n).any (fun z => strP z.reverse) = x := ⟨_, rfl⟩
        rw [hbu, hbd] at hR ⊢
        have HR := hide hR
        clear hbu hbd hR
        cases bu with
        | false =>
          go_wp2
          go_ret
          exact ⟨ret_bool (unhide HR), hbw⟩
        | true =>
          go_wp2
          go_ret
          exact ⟨ret_bool (by rw [← unhide HR]; rfl), hbw⟩
set_option maxHeartbeats 1600000 in
theorem ssumc_any (A : Option Addr) (n c B : Nat) (L : List (List Int)) (w : World) (hS : IntsS w B (.slice A n c) L) (hn : n ≤ 1048576) (hsm : ∀ z ∈ L, z.length ≤ 1048576 ∧ Small z) :
    Calls Tryd.prog 22 #[.slice A n c] w (GivesB w (sumC L)) := by
  have hl := hS.len
  have HA := hide (⟨hS, hsm⟩ : IntsS w B (.slice A n c) L ∧ ∀ z ∈ L, z.length ≤ 1048576 ∧ Small z)
  have HL := hide hl
  have hb0 := Below.refl w.heap.size w
  clear hS hsm hl
  go_enter Tryd.func22, Tryd.ntmps22
  go_wp2
  go_loopw [3] (fun i wr => ∃ k : Nat, k ≤ n ∧ i = .int .i64 k ∧ Below w.heap.size w wr ∧ Hid (∀ z ∈ L.take k, decide (1 < (partsR z).length) = false)) (fun i _ => n - (intOf i).toNat)
  case atStart => exact ⟨0, Nat.zero_le _, rfl, hb0, fun q hq => by simp at hq⟩
  case round =>
    obtain ⟨k, hk, rfl, hb, hno⟩ := hrel
    clear hb0
    by_cases hlt : k < n
    · obtain ⟨ad, A6, c6, z, rfl, hz, hcell, hI⟩ := ((unhide HA).1.below hb).at_ hlt
      have hzs := (unhide HA).2 z (List.mem_of_getElem? hz)
      have H1 := hide (sparts_any A6 z.length c6 _ z wr (hI.arg hzs.1 hI.cap hzs.2))
      have HZ := hide hz
      obtain ⟨lz, hlz⟩ : ∃ l, l = z.length := ⟨_, rfl⟩
      rw [← hlz] at hcell H1
      obtain ⟨N, hN⟩ : ∃ l, l = (partsR z).length := ⟨_, rfl⟩
      have HN := hide hN
      clear hz hI hzs hlz hN
      go_wp2_with fail
      refine (unhide H1).mono ?_
      rintro e w2 ⟨A2, c2, rfl, o2, d2⟩
      have hb2 := below_after hb d2
      rw [← unhide HN]
      clear H1 o2 d2 hcell hb
      by_cases h1 : 1 < N
      · have h1' : (1 : Int) < (N : Int) := by omega
        have HR := hide (sum_no (List.mem_of_getElem? (unhide HZ)) (by rw [← unhide HN]; exact h1))
        go_wp2
        go_ret
        exact ⟨ret_bool (unhide HR).symm, hb2⟩
      · have h1' : ¬ (1 : Int) < (N : Int) := by omega
        have HS := hide (row_step (f := fun z => decide (1 < (partsR z).length)) (unhide HZ) (by rw [← unhide HN]; exact decide_eq_false h1) (unhide hno))
        go_wp2
        go_roundw
        case rel => exact ⟨k + 1, by omega, by go_num, hb2, HS⟩
        case measure => simp [intOf]; omega
    · obtain rfl : n = k := by omega
      have hall : ∀ z ∈ L, decide (1 < (partsR z).length) = false := by
        have h := unhide hno
        rwa [List.take_of_length_le (by rw [unhide HL]; exact Nat.le_refl _)] at h
      have H1 := hide (by have h := sbas_any A n c B L wr ((unhide HA).1.below hb) hn (unhide HA).2; rw [← sum_end hall] at h; exact h)
      obtain ⟨b, hbb⟩ : ∃ x, x = sumC L := ⟨_, rfl⟩
      rw [← hbb] at H1
      have HBB := hide hbb
      clear hno hall hbb
      go_wp2_with fail
      refine (unhide H1).mono ?_
      rintro e w2 ⟨rfl, d2⟩
      have hb2 := below_after hb d2
      clear H1 d2 hb
      go_wp2
      go_ret
      exact ⟨ret_bool (unhide HBB), hb2⟩
set_option maxHeartbeats 3200000 in
theorem sbey_any (A A' : Option Addr) (n c B n' c' B' : Nat) (a b : List (List Int)) (m : Int) (hm : -9223372036854775808 ≤ m ∧ m ≤ 9223372036854775807) (w : World) (hS : IntsS w B (.slice A n c) a) (hS' : IntsS w B' (.slice A' n' c') b) (hn : n ≤ 1048576) (hn' : n' ≤ 1048576) (hsm : ∀ z ∈ a, z.length ≤ 1048576 ∧ Small z) (hsm' : ∀ z ∈ b, z.length ≤ 1048576 ∧ Small z) :
    Calls Tryd.prog 24 #[.slice A n c, .slice A' n' c', .int .i64 m] w (GivesIB w (beyR a b m) (beyOK a b m)) := by
  obtain ⟨hm1, hm2⟩ := hm
  obtain ⟨ba, hba⟩ : ∃ x, basis a = x := ⟨_, rfl⟩
  obtain ⟨bb, hbb⟩ : ∃ x, basis b = x := ⟨_, rfl⟩
  have H1 := hide (sbas_any A n c B a w hS hn hsm)
  rw [hba] at H1
  cases ba with
  | false =>
    obtain ⟨e1, e2⟩ := bey_not (bey_no (a := a) (b := b) (m := m) (fun h => by rw [hba] at h; cases h.1))
    rw [e1, e2]
    clear hS hS' hsm hsm' hba hbb e1 e2
    go_enter Tryd.func24, Tryd.ntmps24
    go_wp2_with fail
    refine (unhide H1).mono ?_
    rintro e w1 ⟨rfl, d1⟩
    have hm := Ints.made0 w1 w.heap.size d1.size
    have hb2 := d1.alloc d1.size (.cells #[] 3)
    clear H1 d1
    go_wp2
    go_ret2
    exact GivesIB.mk false hm hb2
  | true =>
    have H2 := hide (fun (w' : World) (d : Below w.heap.size w w') => by have h := sbas_any A' n' c' B' b w' (hS'.below d) hn' hsm'; rw [hbb] at h; exact h)
    cases bb with
    | false =>
      obtain ⟨e1, e2⟩ := bey_not (bey_no (a := a) (b := b) (m := m) (fun h => by rw [hbb] at h; cases h.2.1))
      rw [e1, e2]
      clear hS hS' hsm hsm' hba hbb e1 e2
      go_enter Tryd.func24, Tryd.ntmps24
      go_wp2_with fail
      refine (unhide H1).mono ?_
      rintro e w1 ⟨rfl, d1⟩
      have H3 := hide (unhide H2 w1 d1)
      clear H1 H2
      go_wp2_with fail
      refine (unhide H3).mono ?_
      rintro e w2 ⟨rfl, d2⟩
      have hb2 := below_after d1 d2
      have hm := Ints.made0 w2 w.heap.size hb2.size
      have hb3 := hb2.alloc hb2.size (.cells #[] 3)
      clear H3 d1 d2 hb2
      go_wp2
      go_ret2
      exact GivesIB.mk false hm hb3
    | true =>
      by_cases hin : 0 ≤ m ∧ m ≤ 6
      · obtain ⟨j, rfl⟩ : ∃ j : Nat, m = (j : Int) := ⟨m.toNat, by omega⟩
        have hj6 : j ≤ 6 := by omega
        have H3 := hide (fun w' => l1in_any (j : Int) 0 6 true (decide_eq_true hin) w')
        have HYES := hide (fun (p : List Int) (h : (allU j).find? (beyP a b) = some p) => bey_is ((bey_yes hba hbb hj6).trans h))
        have HNO := hide (fun (h : (allU j).find? (beyP a b) = none) => bey_not ((bey_yes hba hbb hj6).trans h))
        have HA := hide (⟨hS, hS', fun z hz => (basis_isP hba z hz).1, fun z hz => (basis_isP hbb z hz).1⟩ : IntsS w B (.slice A n c) a ∧ IntsS w B' (.slice A' n' c') b ∧ (∀ z ∈ a, isP z = true) ∧ ∀ z ∈ b, isP z = true)
        have HPM := hide (fun (k : Nat) (_ : k ≤ j) (w' : World) => by have h5 := sperms_any ((k : Nat) : Int) (by omega) w'; rw [permsR_yes (by omega)] at h5; exact h5)
        clear hS hS' hsm hsm' hba hbb hin hm1 hm2
        go_enter Tryd.func24, Tryd.ntmps24
        go_wp2_with fail
        refine (unhide H1).mono ?_
        rintro e w1 ⟨rfl, d1⟩
        have H4 := hide (unhide H2 w1 d1)
        clear H1 H2
        go_wp2_with fail
        refine (unhide H4).mono ?_
        rintro e w2 ⟨rfl, d2⟩
        have hb2 := below_after d1 d2
        clear H4 d1 d2
        go_wp2_with fail
        refine (unhide H3 w2).mono ?_
        rintro e w3 ⟨rfl, hw3⟩
        rw [hw3]
        clear H3 hw3 w3
        go_wp2
        go_loopw [8, 9, 10] (fun i _ _ wr => ∃ k : Nat, k ≤ j + 1 ∧ i = .int .i64 k ∧ Below w.heap.size w wr ∧ Hid (∀ q ∈ (List.range k).flatMap permL, beyP a b q = false)) (fun i _ _ _ => j + 1 - (intOf i).toNat)
        case atStart => exact ⟨0, Nat.zero_le _, rfl, hb2, fun q hq => by simp at hq⟩
        case round =>
          obtain ⟨k, hk, rfl, hb, hno⟩ := hrel
          clear hb2
          by_cases hlt : k < j + 1
          · have hlt2 : (k : Int) ≤ (j : Int) := by omega
            have H5 := hide (unhide HPM k (by omega) wr)
            change Hid (Calls _ _ _ _ (GivesSS wr (permL k))) at H5
            have HPP := hide (fun (i : Nat) (z : List Int) (hz : (permL k)[i]? = some z) => permL_isPm k (by omega) z (List.mem_of_getElem? hz))
            have HFO := hide (fun (i : Nat) (p : List Int) (hp : (permL k)[i]? = some p) (h2 : ∀ q ∈ (permL k).take i, beyP a b q = false) (h3 : beyP a b p = true) => unhide HYES p (bey_found (show k ≤ j by omega) hp (unhide hno) h2 h3))
            have HST := hide (fun (h2 : ∀ q ∈ permL k, beyP a b q = false) => bey_step (unhide hno) h2)
            obtain ⟨Z, hZ⟩ : ∃ Z, Z = permL k := ⟨_, rfl⟩
            rw [← hZ] at H5 HPP HFO HST
            obtain ⟨N, hN⟩ : ∃ N, N = Z.length := ⟨_, rfl⟩
            have HN := hide hN
            have hN7 : N ≤ 720 := by rw [hN, hZ]; exact (permL_small k (by omega)).1
            clear hZ hN hno
            go_wp2_with fail
            refine (unhide H5).mono ?_
            rintro e w5 ⟨A5, c5, rfl, o5, d5⟩
            have hb5 := below_after hb d5
            have HO := hide o5
            rw [← unhide HN] at HO ⊢
            have hk5 := Below.refl w5.heap.size w5
            have HSZ := hide hb.size
            clear H5 o5 d5 hb
            go_wp2
            go_loopw [10] (fun i wr2 => ∃ i9 : Nat, i9 ≤ N ∧ i = .int .i64 i9 ∧ Below w5.heap.size w5 wr2 ∧ Hid (∀ q ∈ Z.take i9, beyP a b q = false)) (fun i _ => N - (intOf i).toNat)
            case atStart => exact ⟨0, Nat.zero_le _, rfl, hk5, fun q hq => by simp at hq⟩
            case round =>
              obtain ⟨i9, hi9, rfl, hd, hno⟩ := hrel
              clear hk5
              by_cases hlt9 : i9 < N
              · obtain ⟨ad, A6, c6, z, rfl, hz, hcell, hI⟩ := ((unhide HO).below hd).at_ hlt9
                have hzp := unhide HPP i9 z hz
                have hArg := hI.argP hzp
                have hcl := World.block_lt_of_cell? _ _ hcell
                have hbw := below_after hb5 hd
                have H6 := hide (savo_any A A6 n c B z.length c6 _ a z wr ((unhide HA).1.below hbw) hArg hzp (unhide HA).2.2.1 hn)
                have H7 := hide (fun (w' : World) (d : Below wr.heap.size wr w') => savo_any A' A6 n' c' B' z.length c6 _ b z w' (((unhide HA).2.1.below hbw).below d) (hArg.below d) hzp (unhide HA).2.2.2 hn')
                obtain ⟨b1, hb1⟩ : ∃ x, avo a z = x := ⟨_, rfl⟩
                obtain ⟨b2, hb2⟩ : ∃ x, avo b z = x := ⟨_, rfl⟩
                have hbey : beyP a b z = (b1 && !b2) := by unfold beyP; rw [hb1, hb2]
                rw [hb1] at H6
                simp only [hb2] at H7
                have HZ := hide (⟨hz, hbey⟩ : _ ∧ _)
                have HI := hide hI
                obtain ⟨lz, hlz⟩ : ∃ l, l = z.length := ⟨_, rfl⟩
                have HLZ := hide hlz
                rw [← hlz] at hcell H6
                simp only [← hlz] at H7
                clear hz hzp hI hArg hb1 hb2 hbey hlz
                cases b1 with
                | false =>
                  go_wp2_with fail
                  refine (unhide H6).mono ?_
                  rintro e w6 ⟨rfl, d6⟩
                  clear H6 H7
                  have HS := hide (row_step (f := beyP a b) (unhide HZ).1 (unhide HZ).2 (unhide hno))
                  have hd9 := below_after hd d6
                  clear d6 hd hcell hcl hbw
                  go_wp2
                  go_roundw
                  case rel => exact ⟨i9 + 1, by omega, by go_num, hd9, HS⟩
                  case measure => simp [intOf]; omega
                | true =>
                  go_wp2_with fail
                  refine (unhide H6).mono ?_
                  rintro e w6 ⟨rfl, d6⟩
                  have hcell6 := (d6.cell hcl).trans hcell
                  have H8 := hide (unhide H7 w6 d6)
                  clear H6 H7
                  go_wp2_with fail
                  refine (unhide H8).mono ?_
                  rintro e w7 ⟨rfl, d7⟩
                  have d8 := below_after d6 d7
                  clear H8 d6 d7 hcell6
                  cases b2 with
                  | true =>
                    have HS := hide (row_step (f := beyP a b) (unhide HZ).1 (unhide HZ).2 (unhide hno))
                    have hd9 := below_after hd d8
                    clear d8 hd hcell hcl hbw
                    go_wp2
                    go_roundw
                    case rel => exact ⟨i9 + 1, by omega, by go_num, hd9, HS⟩
                    case measure => simp [intOf]; omega
                  | false =>
                    have HE12 := hide (unhide HFO i9 z (unhide HZ).1 (unhide hno) (unhide HZ).2)
                    have hcell8 := (d8.cell hcl).trans hcell
                    have hI8 := (unhide HI).below d8
                    have hI9 := hI8.low (Nat.le_trans (unhide HSZ) (Nat.le_refl _))
                    have hb9 := below_after hbw d8
                    rw [← unhide HLZ] at hI9
                    have HI9 := hide hI9
                    clear hd hcell hcl hbw d8 hI8 hI9 hno
                    go_wp2
                    go_ret2
                    rw [(unhide HE12).1, (unhide HE12).2]; exact GivesIB.mk true (unhide HI9) hb9
              · obtain rfl : N = i9 := by omega
                have hall : ∀ q ∈ Z, beyP a b q = false := by
                  have h := unhide hno
                  rwa [List.take_of_length_le (by rw [unhide HN]; exact Nat.le_refl _)] at h
                have HS2 := hide (unhide HST hall)
                have hb9 := below_after hb5 hd
                clear hno hall hd hb5
                go_wp2
                go_roundw
                case rel => exact ⟨k + 1, by omega, by go_num, hb9, HS2⟩
                case measure => simp [intOf]; omega
          · obtain rfl : k = j + 1 := by omega
            have hlt2 : ¬ ((j : Int) + 1 ≤ (j : Int)) := by omega
            have HE12 := hide (unhide HNO (bey_none (unhide hno)))
            have hm := Ints.made0 wr w.heap.size hb.size
            have hb3 := hb.alloc hb.size (.cells #[] 3)
            clear hno
            go_wp2
            go_ret2
            rw [(unhide HE12).1, (unhide HE12).2]; exact GivesIB.mk false hm hb3
      · obtain ⟨e1, e2⟩ := bey_not (bey_no (a := a) (b := b) (m := m) (fun h => hin h.2.2))
        rw [e1, e2]
        have H3 := hide (fun w' => l1in_any m 0 6 false (decide_eq_false hin) w')
        clear hS hS' hsm hsm' hba hbb hin e1 e2
        go_enter Tryd.func24, Tryd.ntmps24
        go_wp2_with fail
        refine (unhide H1).mono ?_
        rintro e w1 ⟨rfl, d1⟩
        have H4 := hide (unhide H2 w1 d1)
        clear H1 H2
        go_wp2_with fail
        refine (unhide H4).mono ?_
        rintro e w2 ⟨rfl, d2⟩
        have hb2 := below_after d1 d2
        clear H4 d1 d2
        go_wp2_with fail
        refine (unhide H3 w2).mono ?_
        rintro e w3 ⟨rfl, hw3⟩
        rw [hw3]
        clear H3 hw3 w3
        have hm := Ints.made0 w2 w.heap.size hb2.size
        have hb3 := hb2.alloc hb2.size (.cells #[] 3)
        clear hb2
        go_wp2
        go_ret2
        exact GivesIB.mk false hm hb3
end Go.Proofs.YtoiipedomgefaaaDoor
