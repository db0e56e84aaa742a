
/-
  spec.l3All and spec.OrderPerms, by their contracts.
-/
import Derived.Test.YtkjjjnkgkgdfkaaClsS
namespace Go.Proofs.Ytkjjjnkgkgdfkaa
set_option maxRecDepth 100000
open Go.RowKit

theorem tot_app (a b : List (List Int)) : tot (a ++ b) = tot a + tot b := by simp [tot]
theorem tot_put (l : List (List Int)) (p : List Int) : tot (putL l p) ≤ tot l + p.length := by
  unfold putL
  split
  · omega
  · have h := congrArg tot (List.take_append_drop (scanL l p l.length) l)
    rw [tot_app] at h
    rw [tot_app, tot_app]
    have : tot [p] = p.length := by simp [tot]
    omega
theorem tot_foldl : ∀ (l a : List (List Int)), tot (l.foldl putL a) ≤ tot a + tot l
  | [], a => by simp [tot]
  | p :: l, a => by
    have h1 := tot_foldl l (putL a p)
    have h2 := tot_put a p
    have h3 := tot_app [p] l
    have h4 : tot [p] = p.length := by simp [tot]
    rw [List.foldl_cons]
    rw [List.singleton_append] at h3
    omega
theorem ordR_tot (l : List (List Int)) : tot (ordR l) ≤ tot l := by
  cases h : allP l with
  | true =>
    rw [ordR_yes h]
    unfold ordL
    have h1 := tot_foldl (l.take l.length) []
    rw [List.take_length] at h1 ⊢
    simpa [tot] using h1
  | false => rw [ordR_no h]; simp [tot]
theorem l3all_any (A : Option Addr) (n c B : Nat) (zss : List (List Int)) (b : Bool) (hb : allP zss = b) (w : World) (hS : IntsS w B (.slice A n c) zss) (hn : n ≤ 1048576) (hsm : ∀ z ∈ zss, z.length ≤ 1048576 ∧ Small z) :
    Calls Try.prog 78 #[.slice A n c] w fun e w' => e = .returned (.bool b) ∧ Drew w w' := by
  have hl := hS.len
  have HL := hide hl
  have HB := hide hb
  have HSM := hide hsm
  clear hl hb hsm
  go_enter Try.func78, Try.ntmps78
  go_wp2
  go_loopw [3] (fun i wr => ∃ k : Nat, k ≤ n ∧ i = .int .i64 k ∧ Drew w wr ∧ Hid (∀ z ∈ zss.take k, isP z = true)) (fun i _ => n - (intOf i).toNat)
  case atStart => exact ⟨0, Nat.zero_le _, rfl, Drew.refl _, fun z hz => by simp at hz⟩
  case round =>
    obtain ⟨k, hk, rfl, hd, hP⟩ := hrel
    by_cases hlt : k < n
    · obtain ⟨ad, A1, c1, z, rfl, hz, hcell, hI⟩ := (hS.below (hd.below _)).at_ hlt
      obtain ⟨hzl, hzs⟩ := unhide HSM z (List.mem_of_getElem? hz)
      have hA := hI.arg hzl hI.cap hzs
      obtain ⟨b1, hb1⟩ : ∃ b, isP z = b := ⟨_, rfl⟩
      have H1 := hide (sisperm_any A1 z.length c1 wr.heap.size z b1 hb1 wr hA.reads hA.le hA.cap)
      cases b1 with
      | false =>
        obtain rfl : b = false := (unhide HB).symm.trans (allP_no (List.mem_of_getElem? hz) hb1)
        have HD := hide hd
        clear hz hb1 hI hA hP hzs HB hd
        go_wp2_with fail
        refine (unhide H1).mono ?_
        rintro e w2 ⟨rfl, hd⟩
        have hd2 := (unhide HD).trans hd
        clear H1 hd HD
        go_wp2
        go_ret
        exact ⟨rfl, hd2⟩
      | true =>
        have hnext : Hid (∀ z ∈ zss.take (k + 1), isP z = true) := hide (fun y hy => by
          rw [List.take_add_one, hz] at hy
          rcases List.mem_append.1 hy with h | h
          · exact unhide hP y h
          · simp at h
            subst h
            exact hb1)
        have HD := hide hd
        clear hz hb1 hI hA hP hzs hd
        go_wp2_with fail
        refine (unhide H1).mono ?_
        rintro e w2 ⟨rfl, hd⟩
        have hd2 := (unhide HD).trans hd
        clear H1 hd HD
        go_wp2
        go_roundw
        case rel => exact ⟨k + 1, by omega, by go_num, hd2, hnext⟩
        case measure => simp [intOf]; omega
    · obtain rfl : n = k := by omega
      obtain rfl : b = true := (unhide HB).symm.trans (allP_yes fun z hz => unhide hP z (by rw [List.take_of_length_le (by rw [unhide HL]; exact Nat.le_refl _)]; exact hz))
      clear HB hP
      go_wp2
      go_ret
      exact ⟨rfl, hd⟩

set_option maxHeartbeats 800000 in
theorem sord_any (A : Option Addr) (n c B : Nat) (zss : List (List Int)) (w : World) (hS : IntsS w B (.slice A n c) zss) (hn : n ≤ 1048576) (hsm : ∀ z ∈ zss, z.length ≤ 1048576 ∧ Small z) :
    Calls Try.prog 41 #[.slice A n c] w (GivesSS w (ordR zss)) := by
  have hl := hS.len
  have HL := hide hl
  have hst := PutS.start w
  have hbel := (Below.refl w.heap.size w).alloc (Nat.le_refl _) (.cells #[] 24)
  obtain ⟨b, hb⟩ : ∃ b, allP zss = b := ⟨_, rfl⟩
  have H1 := hide (fun w' (hb' : Below w.heap.size w w') => l3all_any A n c B zss b hb w' (hS.below hb') hn hsm)
  clear hl hsm
  cases b with
  | false =>
    have hr := hide (ordR_no hb)
    have hne : ¬ n = 0 := fun h => by
      have h2 := unhide HL
      rw [h] at h2
      obtain rfl := List.eq_nil_of_length_eq_zero h2
      cases hb
    have H2 := hide (unhide H1 _ hbel)
    clear hS hb H1
    go_enter Try.func41, Try.ntmps41
    go_wp2
    go_loopw [3, 4] (fun v i wr => v = .slice (some ⟨w.heap.size, 0, none⟩) 0 0 ∧ i = .int .i64 0 ∧ wr = w.alloc (.cells #[] 24)) (fun _ _ _ => 0)
    case atStart => exact ⟨rfl, rfl, rfl⟩
    case round =>
      obtain ⟨rfl, rfl, hw⟩ := hrel
      have hpos : (0 : Int) < (n : Int) := by omega
      go_wp2_with fail
      refine (unhide H2).mono ?_
      rintro e w2 ⟨rfl, hd⟩
      have hst2 := hst.keepDrew hd
      have hb2 := below_after hbel (hd.below _)
      clear H2 hst hbel hd
      go_wp2
      go_ret
      rw [unhide hr]
      exact GivesSS.mk hst2.1 hb2
  | true =>
    have hall := hide hb
    have hr := hide (show ordR zss = ordL zss n by rw [ordR_yes hb, unhide HL])
    clear hb
    go_enter Try.func41, Try.ntmps41
    go_wp2
    go_loopw [3, 4] (fun v i wr => ∃ k : Nat, k ≤ n ∧ i = .int .i64 k ∧ Below w.heap.size w wr ∧ PutS wr w.heap.size v (ordL zss k)) (fun _ i _ => n - (intOf i).toNat)
    case atStart => exact ⟨0, Nat.zero_le _, rfl, hbel, by rw [ordL_zero]; exact hst⟩
    case round =>
      obtain ⟨k, hk, rfl, hbw, hP⟩ := hrel
      clear hst hbel
      by_cases hlt : k < n
      · have H3 := hide (unhide H1 wr hbw)
        obtain ⟨g, cap, rfl⟩ := hP.2
        go_wp2_with fail
        refine (unhide H3).mono ?_
        rintro e w2 ⟨rfl, hd⟩
        have hb2 := below_after hbw (hd.below _)
        have hP2 := hP.keepDrew hd
        obtain ⟨ad, A1, c1, z, rfl, hz, hcell, hI⟩ := (hS.below hb2).at_ hlt
        have hA := hI.argP (allP_at (unhide hall) (List.mem_of_getElem? hz))
        have hlen : (ordL zss k).length ≤ 1048576 := by have := ordL_len zss k; rw [unhide HL] at this; omega
        have H5 := hide (l3put_any w.heap.size (ordL zss k) g (ordL zss k).length cap A1 z.length c1 w2.heap.size z w2 hP2.1 hA hb2.size (ordL_all (unhide hall) k) hlen)
        rw [← ordL_step hz] at H5
        clear H3 hbw hP hd hP2 hz hI hA hlen
        go_wp2_with fail
        refine (unhide H5).mono ?_
        rintro e w4 ⟨v4, rfl, hS4, hb4, _⟩
        have hb5 := hb2.trans hb4
        clear H5 hb2 hb4
        go_wp2
        go_roundw
        case rel => exact ⟨k + 1, by omega, by go_num, hb5, hS4⟩
        case measure => simp [intOf]; omega
      · obtain rfl : n = k := by omega
        clear H1
        go_wp2
        go_ret
        rw [unhide hr]
        exact GivesSS.mk hP.1 hbw
end Go.Proofs.Ytkjjjnkgkgdfkaa
