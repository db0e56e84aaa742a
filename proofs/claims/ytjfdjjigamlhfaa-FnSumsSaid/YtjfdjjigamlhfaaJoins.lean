
/-
  impl.SumOf, impl.SkewSumOf, impl.JoinParts; spec.JoinParts, by their contracts. (Written by wip/tools/mkjoins.py.)
-/
import Derived.Test.YtjfdjjigamlhfaaSumAll
import Derived.Test.YtjfdjjigamlhfaaJoin
namespace Go.Proofs.Ytjfdjjigamlhfaa
open Go.RowKit

theorem sumall_any (s : Bool) (A : Option Addr) (n c B : Nat) (zss : List (List Int)) (w : World) (hS : ReadsS w B A n zss) (hB : B ≤ w.heap.size) (hn : n ≤ 1048576) (hsm : ∀ z ∈ zss, z.length ≤ 1048576 ∧ Small z) :
    Calls Try.prog 41 #[.bool s, .slice A n c] w (GivesIB w (joinsR s zss) (allFit zss)) := by
  cases s with
  | false => exact sumall_false A n c B zss w hS hB hn hsm
  | true => exact sumall_true A n c B zss w hS hB hn hsm
theorem IntsS.readsS {w : World} {B n c : Nat} {A : Option Addr} {zss : List (List Int)} (h : IntsS w B (.slice A n c) zss) : ReadsS w w.heap.size A n zss := by
  refine ⟨h.len, fun hn => ?_⟩
  obtain ⟨ad, A', c', z, e, _⟩ := h.at_ hn
  subst e
  refine ⟨ad, rfl, ?_, fun j z hz => ?_⟩
  · have hl := h.len
    subst hl
    obtain ⟨vs, hown, hin⟩ := h
    obtain ⟨ad', he, hb, _⟩ := (Reads.of_own_at hown).2 hn
    injection he with he
    subst he
    exact hb
  · have hj : j < n := by have := (List.getElem?_eq_some_iff.1 hz).1; have := h.len; omega
    obtain ⟨ad2, A2, c2, z2, e2, hz2, hc, hI⟩ := h.at_ hj
    injection e2 with e2
    subst e2
    rw [hz] at hz2
    injection hz2 with hz2
    subst hz2
    exact ⟨A2, c2, hc, hI.reads⟩
theorem allFit_two (p q : List Int) : allFit [p, q] = fit p q := by simp [allFit, allP, fit, tot]
theorem joins_two (s : Bool) (p q : List Int) : joinsR s [p, q] = joinR s p q := by
  have e : joinAll s [p, q] = joinL s p q := by
    have h0 : joinL s [] p = p := by cases s <;> simp [joinL]
    simp [joinAll, h0]
  unfold joinsR joinR
  rw [allFit_two, e]

theorem isum_any (A A' : Option Addr) (n c B n' c' B' : Nat) (p q : List Int) (w : World) (h : Arg w B A n c p) (h' : Arg w B' A' n' c' q) :
    Calls Try.prog 12 #[.slice A n c, .slice A' n' c'] w (GivesIB w (joinR false p q) (fit p q)) := by
  have hbel := (Below.refl w.heap.size w).alloc (Nat.le_refl _) (.cells #[.slice A n c, .slice A' n' c'] 22)
  have hR : ReadsS (w.alloc (.cells #[.slice A n c, .slice A' n' c'] 22)) (w.heap.size + 1) (some ⟨w.heap.size, 0, none⟩) 2 [p, q] := by
    refine ⟨rfl, fun _ => ⟨_, rfl, by simp, fun j z hz => ?_⟩⟩
    rw [show (⟨w.heap.size, 0, none⟩ : Addr).add j = ⟨w.heap.size, j, none⟩ by unfold Addr.add; split <;> simp_all, World.cell?_alloc_new]
    have e1 := h.len
    have e2 := h'.len
    match j, hz with
    | 0, hz =>
      injection hz with hz
      subst hz
      exact ⟨A, c, by rw [e1]; rfl, by rw [e1]; exact (h.reads.below (hbel.mono h.under)).more (Nat.le_trans h.under (Nat.le_succ _))⟩
    | 1, hz =>
      injection hz with hz
      subst hz
      exact ⟨A', c', by rw [e2]; rfl, by rw [e2]; exact (h'.reads.below (hbel.mono h'.under)).more (Nat.le_trans h'.under (Nat.le_succ _))⟩
  have hsm : ∀ z ∈ [p, q], z.length ≤ 1048576 ∧ Small z := fun z hz => by
    rcases List.mem_cons.1 hz with rfl | hz
    · exact ⟨by have := h.len; have := h.le; omega, h.small⟩
    · rw [List.mem_singleton] at hz
      subst hz
      exact ⟨by have := h'.len; have := h'.le; omega, h'.small⟩
  have H1 := hide (sumall_any false (some ⟨w.heap.size, 0, none⟩) 2 2 (w.heap.size + 1) [p, q] _ hR (by simp) (by omega) hsm)
  rw [← allFit_two p q, ← joins_two false p q]
  clear h h' hR hsm
  go_enter Try.func12, Try.ntmps12
  go_wp2_with fail
  refine (unhide H1).mono ?_
  rintro e w1 ⟨A1, c1, rfl, own1, hb1⟩
  clear H1
  go_wp2
  go_ret2
  exact GivesIB.mk _ (own1.low hbel.size) (below_after hbel hb1)

theorem iskew_any (A A' : Option Addr) (n c B n' c' B' : Nat) (p q : List Int) (w : World) (h : Arg w B A n c p) (h' : Arg w B' A' n' c' q) :
    Calls Try.prog 17 #[.slice A n c, .slice A' n' c'] w (GivesIB w (joinR true p q) (fit p q)) := by
  have hbel := (Below.refl w.heap.size w).alloc (Nat.le_refl _) (.cells #[.slice A n c, .slice A' n' c'] 22)
  have hR : ReadsS (w.alloc (.cells #[.slice A n c, .slice A' n' c'] 22)) (w.heap.size + 1) (some ⟨w.heap.size, 0, none⟩) 2 [p, q] := by
    refine ⟨rfl, fun _ => ⟨_, rfl, by simp, fun j z hz => ?_⟩⟩
    rw [show (⟨w.heap.size, 0, none⟩ : Addr).add j = ⟨w.heap.size, j, none⟩ by unfold Addr.add; split <;> simp_all, World.cell?_alloc_new]
    have e1 := h.len
    have e2 := h'.len
    match j, hz with
    | 0, hz =>
      injection hz with hz
      subst hz
      exact ⟨A, c, by rw [e1]; rfl, by rw [e1]; exact (h.reads.below (hbel.mono h.under)).more (Nat.le_trans h.under (Nat.le_succ _))⟩
    | 1, hz =>
      injection hz with hz
      subst hz
      exact ⟨A', c', by rw [e2]; rfl, by rw [e2]; exact (h'.reads.below (hbel.mono h'.under)).more (Nat.le_trans h'.under (Nat.le_succ _))⟩
  have hsm : ∀ z ∈ [p, q], z.length ≤ 1048576 ∧ Small z := fun z hz => by
    rcases List.mem_cons.1 hz with rfl | hz
    · exact ⟨by have := h.len; have := h.le; omega, h.small⟩
    · rw [List.mem_singleton] at hz
      subst hz
      exact ⟨by have := h'.len; have := h'.le; omega, h'.small⟩
  have H1 := hide (sumall_any true (some ⟨w.heap.size, 0, none⟩) 2 2 (w.heap.size + 1) [p, q] _ hR (by simp) (by omega) hsm)
  rw [← allFit_two p q, ← joins_two true p q]
  clear h h' hR hsm
  go_enter Try.func17, Try.ntmps17
  go_wp2_with fail
  refine (unhide H1).mono ?_
  rintro e w1 ⟨A1, c1, rfl, own1, hb1⟩
  clear H1
  go_wp2
  go_ret2
  exact GivesIB.mk _ (own1.low hbel.size) (below_after hbel hb1)

theorem ijoins_any (A : Option Addr) (n c B : Nat) (s : Bool) (zss : List (List Int)) (w : World) (hS : IntsS w B (.slice A n c) zss) (hn : n ≤ 1048576) (hsm : ∀ z ∈ zss, z.length ≤ 1048576 ∧ Small z) :
    Calls Try.prog 28 #[.slice A n c, .bool s] w (GivesIB w (joinsR s zss) (allFit zss)) := by
  have H1 := hide (sumall_any s A n c w.heap.size zss w hS.readsS (Nat.le_refl _) hn hsm)
  clear hS hsm
  go_enter Try.func28, Try.ntmps28
  go_wp2_with fail
  refine (unhide H1).mono ?_
  rintro e w1 ⟨A1, c1, rfl, own1, hb1⟩
  clear H1
  go_wp2
  go_ret2
  exact GivesIB.mk _ own1 hb1

set_option maxHeartbeats 800000 in
theorem sjoins_any (A : Option Addr) (n c B : Nat) (s : Bool) (zss : List (List Int)) (w : World) (hS : IntsS w B (.slice A n c) zss) (hn : n ≤ 1048576) (hsm : ∀ z ∈ zss, z.length ≤ 1048576 ∧ Small z) :
    Calls Try.prog 26 #[.slice A n c, .bool s] w (GivesIB w (joinsR s zss) (allFit zss)) := by
  have hl := hS.len
  have HL := hide hl
  have HSM := hide hsm
  have hI0 := Ints.made0 w w.heap.size (Nat.le_refl _)
  have hbel := (Below.refl w.heap.size w).alloc (Nat.le_refl _) (.cells #[] 3)
  clear hl hsm
  go_enter Try.func26, Try.ntmps26
  go_wp2
  go_loopw [6, 7] (fun v i wr => ∃ k : Nat, k ≤ n ∧ i = .int .i64 k ∧ Below w.heap.size w wr ∧ Ints wr w.heap.size v (joinAll s (zss.take k)) ∧ Hid (∀ z ∈ zss.take k, isP z = true) ∧ tot (zss.take k) ≤ 8) (fun _ i _ => n - (intOf i).toNat)
  case atStart => exact ⟨0, Nat.zero_le _, rfl, hbel, hI0, fun z hz => by simp at hz, by simp [tot]⟩
  case round =>
    obtain ⟨k, hk, rfl, hbw, hI, hP, h8⟩ := hrel
    clear hI0 hbel
    have hlen := joinAll_length s (zss.take k)
    have hisP := joinAll_isP (s := s) _ (allP_yes (unhide hP)) h8
    obtain ⟨out, hout⟩ : ∃ out, out = joinAll s (zss.take k) := ⟨_, rfl⟩
    rw [← hout] at hI hlen hisP
    obtain ⟨A6, c6, rfl⟩ := hI.slice
    by_cases hlt : k < n
    · obtain ⟨ad, A1, c1, z, rfl, hz, hcell, hIz⟩ := (hS.below hbw).at_ hlt
      obtain ⟨hzl, hzs⟩ := unhide HSM z (List.mem_of_getElem? hz)
      have hAz := hIz.arg hzl hIz.cap hzs
      have hAo := hI.argP hisP
      obtain ⟨b, hb⟩ : ∃ b, fit out z = b := ⟨_, rfl⟩
      have H1 := hide (l4fit_any A6 A1 out.length c6 wr.heap.size z.length c1 wr.heap.size out z b hb wr hAo hAz)
      have hts := tot_step hz
      have htt := tot_take zss (k + 1)
      cases b with
      | false =>
        have hno : allFit zss = false := by
          cases hpz : isP z with
          | false => exact allFit_no1 (List.mem_of_getElem? hz) hpz
          | true =>
            refine allFit_no2 ?_
            by_cases h : out.length + z.length ≤ 8
            · rw [fit_yes hisP hpz h] at hb; cases hb
            · omega
        have HNO := hide hno
        rw [joinsR_no hno, hno]
        clear hb hts htt hno hz hI hIz hAz hAo hP hzs hisP hlen hout
        go_wp2_with fail
        refine (unhide H1).mono ?_
        rintro e w1 ⟨rfl, hd⟩
        have hb := hbw.trans (hd.below w.heap.size)
        clear hd H1
        go_wp2
        go_ret2
        exact GivesIB.mk false (Ints.made0 w1 w.heap.size hb.size) (hb.alloc hb.size _)
      | true =>
        obtain ⟨_, hpz, hle⟩ := fit_all hb
        have H2 := hide (fun w' (hb' : Below wr.heap.size wr w') => l4join_any A6 A1 out.length c6 wr.heap.size z.length c1 wr.heap.size s out z w' (hAo.below hb') (hAz.below hb') hb)
        have hnext : Hid (∀ z ∈ zss.take (k + 1), isP z = true) := hide (fun y hy => by
          rw [take_snoc_r hz] at hy
          rcases List.mem_append.1 hy with h | h
          · exact unhide hP y h
          · rw [List.mem_singleton] at h
            subst h
            exact hpz)
        have hje := hide (joinAll_take (s := s) hz)
        have h82 : tot (zss.take (k + 1)) ≤ 8 := by omega
        have HOUT := hide hout
        have hsz := hbw.size
        clear hb hpz hts htt hz hI hIz hAz hAo hP hzs hisP hlen hout
        go_wp2_with fail
        refine (unhide H1).mono ?_
        rintro e w1 ⟨rfl, hd⟩
        have hb1 := hd.below wr.heap.size
        have hcell1 := (hd.cell _).trans hcell
        have H3 := hide (unhide H2 w1 hb1)
        clear hd H1 H2 hcell
        go_wp2_with fail
        refine (unhide H3).mono ?_
        rintro e w2 ⟨A2, c2, rfl, own2, hb2⟩
        have hb3 := below_after hb1 hb2
        have hb4 := below_after hbw hb3
        have hI4 : Ints w2 w.heap.size (.slice A2 (joinL s out z).length c2) (joinAll s (zss.take (k + 1))) := by
          rw [unhide hje, ← unhide HOUT]
          exact own2.low (Nat.le_trans hsz hb1.size)
        clear H3 own2 hb2 hb3 hb1
        go_wp2
        go_roundw
        case rel => exact ⟨k + 1, by omega, by go_num, hb4, hI4, hnext, h82⟩
        case measure => simp [intOf]; omega
    · obtain rfl : n = k := by omega
      have hfull : zss.take n = zss := List.take_of_length_le (by rw [unhide HL]; exact Nat.le_refl _)
      rw [hfull] at hout h8 hP
      have hyes := allFit_yes (unhide hP) h8
      have hE : joinsR s zss = out := by rw [joinsR_yes hyes, hout]
      have HE := hide hE
      have HY := hide hyes
      clear hlen hisP hout h8 hP hyes hfull hE
      go_wp2
      go_ret2
      rw [unhide HE, unhide HY]
      exact GivesIB.mk true hI hbw
end Go.Proofs.Ytjfdjjigamlhfaa
