
/-
  spec.SymmetryClass and spec.LeastSymmetry, by their contracts.
-/
import Derived.Test.YtkjjjnkgkgdfkaaPut
import Derived.Test.YtkjjjnkgkgdfkaaSymS
namespace Go.Proofs.Ytkjjjnkgkgdfkaa
set_option maxRecDepth 100000
open Go.RowKit

theorem PutS.start (w : World) : PutS (w.alloc (.cells #[] 24)) w.heap.size (.slice (some ⟨w.heap.size, 0, none⟩) 0 0) [] := ⟨IntsS.made0 w w.heap.size (Nat.le_refl _), w.heap.size, 0, rfl⟩
theorem PutS.below {w w' : World} {B : Nat} {v : Value} {zss : List (List Int)} (h : PutS w B v zss) (hb : Below w.heap.size w w') : PutS w' B v zss := ⟨h.1.below hb, h.2⟩
theorem PutS.keepDrew {w w' : World} {B : Nat} {v : Value} {zss : List (List Int)} (h : PutS w B v zss) (hd : Drew w w') : PutS w' B v zss := h.below (hd.below _)
theorem ordL_all {l : List (List Int)} (h : allP l = true) (k : Nat) : ∀ z ∈ ordL l k, isP z = true := fun _ hz => allP_at h (List.mem_of_mem_take (ordL_mem.1 hz))
theorem tot_le8 : ∀ l : List (List Int), (∀ z ∈ l, z.length ≤ 8) → tot l ≤ 8 * l.length
  | [], _ => by simp [tot]
  | z :: l, h => by
    have h1 := h z (by simp)
    have h2 := tot_le8 l fun y hy => h y (by simp [hy])
    simp only [tot, List.length_cons, List.map_cons, List.sum_cons] at h2 ⊢
    omega
theorem clsR_small (p : List Int) : (clsR p).length ≤ 8 ∧ tot (clsR p) ≤ 64 := by
  have h1 := clsR_len p
  have h2 := tot_le8 (clsR p) fun z hz => isP_le (clsR_mem hz)
  omega
set_option maxHeartbeats 800000 in
theorem scls_any (A : Option Addr) (n c B : Nat) (zs : List Int) (w : World) (h : Arg w B A n c zs) :
    Calls Try.prog 39 #[.slice A n c] w (GivesSS w (clsR zs)) := by
  obtain ⟨b, hb⟩ : ∃ b, isP zs = b := ⟨_, rfl⟩
  have H1 := hide (fun w' (hb' : Below w.heap.size w w') => sisperm_any A n c B zs b hb w' (h.below hb').reads h.le h.cap)
  have hst := PutS.start w
  have hbel := (Below.refl w.heap.size w).alloc (Nat.le_refl _) (.cells #[] 24)
  cases b with
  | false =>
    have hr := hide (clsR_no hb)
    have H2 := hide (unhide H1 _ hbel)
    clear h hb H1
    go_enter Try.func39, Try.ntmps39
    go_wp2
    go_loopw [3, 4] (fun v i wr => v = .slice (some ⟨w.heap.size, 0, none⟩) 0 0 ∧ i = .int .i64 0 ∧ wr = w.alloc (.cells #[] 24)) (fun _ _ _ => 0)
    case atStart => exact ⟨rfl, rfl, rfl⟩
    case round =>
      obtain ⟨rfl, rfl, hw⟩ := hrel
      go_wp2_with fail
      refine (unhide H2).mono ?_
      rintro e w2 ⟨rfl, hd⟩
      have hst2 := hst.keepDrew hd
      have hb2 := below_after hbel (hd.below _)
      clear H2 hst hbel hd
      go_wp2
      go_ret
      rw [unhide hr]
      exact GivesSS.mk hst2.1 hb2
  | true =>
    have hall := hide (imgs_all hb 8)
    have hr := hide (show clsR zs = ordL (imgs zs 8) 8 by rw [clsR_yes hb, ordR_yes (imgs_all hb 8), imgs_length])
    have HP := hide hb
    have H2 := hide (fun w' (hb' : Below w.heap.size w w') (k : Nat) (hk : k ≤ 7) => l3sym_any A n c B zs k hk w' (h.below hb') hb)
    clear h hb
    go_enter Try.func39, Try.ntmps39
    go_wp2
    go_loopw [3, 4] (fun v i wr => ∃ k : Nat, k ≤ 8 ∧ i = .int .i64 k ∧ Below w.heap.size w wr ∧ PutS wr w.heap.size v (ordL (imgs zs 8) k)) (fun _ i _ => 8 - (intOf i).toNat)
    case atStart => exact ⟨0, Nat.zero_le _, rfl, hbel, by rw [ordL_zero]; exact hst⟩
    case round =>
      obtain ⟨k, hk, rfl, hbw, hS⟩ := hrel
      clear hst hbel
      by_cases hlt : k < 8
      · have H3 := hide (unhide H1 wr hbw)
        obtain ⟨g, cap, rfl⟩ := hS.2
        go_wp2_with fail
        refine (unhide H3).mono ?_
        rintro e w2 ⟨rfl, hd⟩
        have hb2 := below_after hbw (hd.below _)
        have hS2 := hS.keepDrew hd
        have H4 := hide (unhide H2 w2 hb2 k (by omega))
        clear H3 hbw hS hd
        go_wp2_with fail
        refine (unhide H4).mono ?_
        rintro e w3 ⟨A3, c3, rfl, o3, d3⟩
        have hb3 := below_after hb2 d3
        have hS3 := hS2.below d3
        have hlen : (ordL (imgs zs 8) k).length ≤ 8 := by have := ordL_len (imgs zs 8) k; rw [imgs_length] at this; exact this
        have H5 := hide (l3put_any w.heap.size (ordL (imgs zs 8) k) g (ordL (imgs zs 8) k).length cap A3 _ c3 _ (symL zs k) w3 hS3.1 (o3.argP (symL_isP (unhide HP) k)) hb3.size (ordL_all (unhide hall) k) (by omega))
        rw [← ordL_step (imgs_at hlt)] at H5
        clear H4 hb2 hS2 o3 d3 hS3 hlen
        go_wp2_with fail
        refine (unhide H5).mono ?_
        rintro e w4 ⟨v4, rfl, hS4, hb4, _⟩
        have hb5 := hb3.trans hb4
        clear H5 hb3 hb4
        go_wp2
        go_roundw
        case rel => exact ⟨k + 1, by omega, by go_num, hb5, hS4⟩
        case measure => simp [intOf]; omega
      · obtain rfl : k = 8 := by omega
        clear H1 H2
        go_wp2
        go_ret
        rw [unhide hr]
        exact GivesSS.mk hS.1 hbw

theorem sleast_any (A : Option Addr) (n c B : Nat) (zs : List Int) (w : World) (h : Arg w B A n c zs) :
    Calls Try.prog 45 #[.slice A n c] w (GivesI w (leastR zs)) := by
  have H1 := hide (scls_any A n c B zs w h)
  have hle := clsR_len zs
  obtain ⟨r, hr⟩ : ∃ r, leastR zs = r := ⟨_, rfl⟩
  rw [hr]
  unfold leastR at hr
  generalize clsR zs = l at H1 hle hr
  clear h
  cases l with
  | nil =>
    obtain rfl : [] = r := hr
    go_enter Try.func45, Try.ntmps45
    go_wp2_with fail
    refine (unhide H1).mono ?_
    rintro e w2 ⟨A2, c2, rfl, o2, hb⟩
    clear H1 o2
    go_wp2
    go_ret
    exact GivesI.mk (Ints.made0 w2 w.heap.size hb.size) (hb.alloc hb.size _)
  | cons z l =>
    obtain rfl : z = r := hr
    go_enter Try.func45, Try.ntmps45
    go_wp2_with fail
    refine (unhide H1).mono ?_
    rintro e w2 ⟨A2, c2, rfl, o2, hb⟩
    obtain ⟨ad, A1, c1, z1, rfl, hz, hcell, hI⟩ := o2.at_ (show 0 < (z :: l).length by simp)
    simp at hz
    subst hz
    have hne : ((l.length : Int) + 1 == 0) = false := by simp; omega
    have hcell0 : w2.cell? ad = some (.slice A1 z.length c1) := by simpa [Addr.add] using hcell
    clear H1 o2 hcell
    go_wp2
    go_ret
    exact GivesI.mk hI hb
end Go.Proofs.Ytkjjjnkgkgdfkaa
