/-
  Words and contracts that the laws lean on, bundled: Collect, Has, ClaA, OrdP, ClaB, Split, ClaF, End, LaidU.
-/
import Derived.Test.YtplchjeamooliaaDoorB8
import Derived.Test.YtplchjeamooliaaDoorB6
import Derived.Test.YtplchjeamooliaaDoorB5
import Derived.Test.YtplchjeamooliaaDoorB7
import Derived.Test.YtplchjeamooliaaDoorB2
import Derived.Test.YtplchjeamooliaaDoorB3
import Derived.Test.YtplchjeamooliaaDoorB4
import Derived.Test.YtplchjeamooliaaDoorShelfS
import Derived.Test.YtplchjeamooliaaDoorRows
import Derived.ProofKit
import Derived.OpenShut
import Derived.Carry
import Derived.SliceStrings
import Derived.Test.YtplchjeamooliaaDoorCards
import Derived.Test.YtplchjeamooliaaDoorTie
import Derived.Deep.DeepHandedRow
import Derived.Deep.DeepWitnessRowRef

/-
  slices.AppendSeq, slices.Collect over the iterator of impl.occurrences; impl.OccurrencesOf, impl.CountPattern.
-/

namespace Go.Proofs.YtplchjeamooliaaDoor
set_option maxRecDepth 100000
open Go.RowKit Go.Shelf
attribute [local go_sem] Oper.semAt_some

theorem chR_room_all : ∀ n, n < 9 → ∀ k, k < 9 → (chR n k).length ≤ 256 := by decide +kernel
theorem chR_room {n k : Nat} (hn : n ≤ 8) (hk : k ≤ 8) : (chR n k).length ≤ 256 := chR_room_all n (by omega) k (by omega)
theorem intsS_stored {W : World} {D b : Nat} {v : Value} {zss : List (List Int)} (h : IntsS W D v zss) (hb : b < D) (x : Value) : IntsS (W.setCell ⟨b, 0, none⟩ x) D v zss := h.but (But.setCell W (Nat.le_refl b) (Nat.lt_succ_self b) x) hb
end Go.Proofs.YtplchjeamooliaaDoor


/-
  impl.HasPattern: a loop over the occurrences that ends at the first one.
-/

namespace Go.Proofs.YtplchjeamooliaaDoor
set_option maxRecDepth 100000
open Go.RowKit Go.Shelf
attribute [local go_sem] Oper.semAt_some

set_option maxRecDepth 100000 in
set_option maxHeartbeats 4000000 in
theorem has_yes (A A' : Option Addr) (n c B n' c' B' : Nat) (p q : List Int) (w : World) (h : Arg w B A n c p) (h' : Arg w B' A' n' c' q) (hp : isP p = true) (hq : isP q = true) :
    Calls Tryd.prog 46 #[.slice A n c, .slice A' n' c'] w (GivesB w (decide (0 < (occR p q).length))) := by
  have hn8 : n ≤ 8 := by have := isP_le hp; have := h.len; omega
  have hn8' : n' ≤ 8 := by have := isP_le hq; have := h'.len; omega
  have hBu := h.under
  have hBu' := h'.under
  -- the world behind the result's cell
  have hb0 : Below w.heap.size w (w.alloc (.cells #[.bool false] 4)) := (Below.refl _ w).alloc (Nat.le_refl _) _
  have hc0 : Boxed (w.alloc (.cells #[.bool false] 4)) w.heap.size 4 (.bool false) := Boxed.new w _ _
  have H1 := hide (iisperm_any A n c B p true hp _ (h.below hb0).reads (h.below hb0).under h.le h.small)
  have H2 := hide (show ∀ w1, Below w.heap.size w w1 → _ from fun w1 d1 => iisperm_any A' n' c' B' q true hq w1 (h'.below d1).reads (h'.below d1).under h'.le h'.small)
  have H4 := hide (fun w2 => iocs_made A A' n c n' c' w2)
  obtain ⟨b, hb⟩ : ∃ b, b = w.heap.size := ⟨_, rfl⟩
  have HT := hide (show ∀ w2, Below w.heap.size w w2 → b < w2.heap.size → TellsZ Fence.wide 3 Tryd.prog 73 #[.pointer (some ⟨w2.heap.size, 0, none⟩), .pointer (some ⟨w2.heap.size + 1, 0, none⟩)] 6 (fun x : Value × List Int => #[x.1]) (KnO p q)
      (Keep (fun k => k < w2.heap.size + 10 ∧ k ≠ b ∧ k ≠ w2.heap.size + 2 ∧ k ≠ w2.heap.size + 3)) (fun xs => xs.map (·.2) = occR p q) (AllIn p q) 256 ((w2.alloc (.cells #[.slice A n c] 30)).alloc (.cells #[.slice A' n' c'] 30)) from fun w2 d2 hlt => by
    have d3 : Below w2.heap.size w2 ((w2.alloc (.cells #[.slice A n c] 30)).alloc (.cells #[.slice A' n' c'] 30)) := ((Below.refl _ w2).alloc (Nat.le_refl _) _).alloc (by simp) _
    have b2 := Boxed.new (w2.alloc (.cells #[.slice A n c] 30)) 30 (.slice A' n' c')
    rw [World.size_alloc] at b2
    have hw := d2.size
    exact occ_tell A A' n c B n' c' B' p q hp hq _ w2.heap.size (w2.heap.size + 1) 256 _ (h.below (below_after d2 d3)) (h'.below (below_after d2 d3)) (Boxed.alloc (Boxed.new w2 _ _) _) b2
      ⟨fun k hk => by omega, fun k hk => by omega, by omega, by omega, fun k h1 h2 => by simp at h1 h2; omega⟩ 3 (chR_room hn8 hn8'))
  refine (callsIn_wide (n := 4)).1 ?_
  refine callsIn_of_wp_marks Tryd.func46 rfl trivial ?_ rfl
  simp only [Tryd.ntmps46, List.size_toArray, List.length_cons, List.length_nil, Nat.reduceAdd, Nat.reduceSub, Array.replicate_succ, Array.replicate_zero, List.push_toArray, List.append_toArray, List.nil_append, List.cons_append]
  clear h h' hp hq hBu hBu'
  have HB := hide hb
  clear hb
  gi_wp2_with fail
  refine ⟨trivial, ?_⟩
  refine (callsIn_wide.2 (unhide H1)).mono ?_
  rintro e w1 ⟨rfl, d1⟩
  have d1' := below_after hb0 d1
  have H3 := hide (unhide H2 w1 d1')
  clear H1 H2
  gi_wp2_with fail
  refine ⟨trivial, ?_⟩
  refine (callsIn_wide.2 (unhide H3)).mono ?_
  rintro e w2 ⟨rfl, d2⟩
  have d := below_after d1' d2
  have hc2 : Boxed w2 b 4 (.bool false) := by rw [unhide HB]; exact boxed_later (boxed_later hc0 d1) d2
  clear H3 d1 d2 d1' hc0 hb0
  gi_wp2_with fail
  refine ⟨trivial, ?_⟩
  refine (callsIn_wide.2 (unhide H4 _)).mono ?_
  rintro e w3 ⟨rfl, hw3⟩
  have hblt := hc2.lt
  have hseq := unhide HT w2 d hblt
  have hs3 : w3.heap.size = w2.heap.size + 2 := by rw [hw3]; simp
  have hc3 : Boxed w3 b 4 (.bool false) := by rw [hw3]; exact Boxed.alloc (Boxed.alloc hc2 _) _
  have d3 : Below w.heap.size w w3 := below_after d (by rw [hw3]; exact ((Below.refl _ w2).alloc (Nat.le_refl _) _).alloc (by simp) _)
  have hbw : w.heap.size ≤ b := Nat.le_of_eq (unhide HB).symm
  rw [← hw3] at hseq
  rw [← unhide HB]
  clear H4 HT hw3 hc2
  gi_wp2
  refine range_zone rfl (by decide) (gf := 73) (lb := #[.pointer (some ⟨w2.heap.size, 0, none⟩), .pointer (some ⟨w2.heap.size + 1, 0, none⟩)]) rfl trivial (enters_of Tryd.func73 (by kernel_rfl) rfl)
    hseq (fun h k => h.trans k) (fun W r r' hd => Keep.putObj W (by omega) _) (fun _ => rfl) (fun U V x r r' hdU hdV h => ⟨kn_row _ U V x r r' hdU hdV h.1, h.2⟩)
    (fun pre V => pre = [] ∧ Boxed V b 4 (.bool false) ∧ Below w.heap.size w V ∧ w3.heap.size ≤ V.heap.size)
    (fun c pre V => c = .ret ∧ 0 < (occR p q).length ∧ Boxed V b 4 (.bool true) ∧ Below w.heap.size w V ∧ w3.heap.size ≤ V.heap.size)
    (fun pre U V h hb' => ⟨h.1, Boxed.but h.2.1 hb' (by omega), h.2.2.1.trans (hb'.below (by have := d3.size; omega) (by have := d3.size; have := h.2.2.2; omega)), Nat.le_trans h.2.2.2 hb'.size⟩)
    (fun c pre U V h hb' => ⟨h.1, h.2.1, Boxed.but h.2.2.1 hb' (by omega), h.2.2.2.1.trans (hb'.below (by have := d3.size; omega) (by have := d3.size; have := h.2.2.2.2; omega)), Nat.le_trans h.2.2.2.2 hb'.size⟩)
    ⟨rfl, hc3, d3, Nat.le_refl _⟩
    (fun x => { tmps := #[.slice A n c, .slice A' n' c', undef, undef, .pointer (some ⟨b, 0, none⟩), .slice A n c, .bool true, .bool false, .bool false, .slice A' n' c', .bool true, .bool false, .bool false, .slice A n c, .slice A' n' c',
      .func (.func 73) #[] #[.pointer (some ⟨w2.heap.size, 0, none⟩), .pointer (some ⟨w2.heap.size + 1, 0, none⟩)], x.1], defers := [] }) ?assign ?body ?done ?stop
  case assign =>
    intro l x W K hK
    gi_wp2
    simp only [← Array.foldl_toList, Array.toList_zip, List.zip_cons_cons, List.zip_nil_left, List.foldl_cons, List.foldl_nil]
    exact hK
  case body =>
    rintro l pre ⟨u, zs⟩ U W ⟨rfl, hcU, hBU, hsU⟩ hzU hbU ⟨_, hin⟩ hlen
    have hc := boxed_later hcU hbU
    have hcell := hc.cell
    have hfz := hc.frozen
    have hg := grownBy_setCell' W b (.bool true)
    have hlen0 : 0 < (occR p q).length := List.length_pos_of_mem hin
    have hend : (∀ r, Desk w3.heap.size r W → Desk w3.heap.size r (W.setCell ⟨b, 0, none⟩ (.bool true))) ∧ Keep (fun k => k < w2.heap.size + 10 ∧ k ≠ b ∧ k ≠ w2.heap.size + 2 ∧ k ≠ w2.heap.size + 3) W (W.setCell ⟨b, 0, none⟩ (.bool true)) ∧ Code.ret = .ret ∧ 0 < (occR p q).length ∧ Boxed (W.setCell ⟨b, 0, none⟩ (.bool true)) b 4 (.bool true) ∧ Below w.heap.size w (W.setCell ⟨b, 0, none⟩ (.bool true)) ∧ w3.heap.size ≤ (W.setCell ⟨b, 0, none⟩ (.bool true)).heap.size :=
      ⟨fun r hd => ⟨(hg.block _ hd.lt (by simp; omega)).trans hd.rec_, (hg.block _ (by have := hd.lt; omega) (by simp; omega)).trans hd.marks⟩, Keep.setCell W (by omega) _, rfl, hlen0, Boxed.set _ hc, (hBU.trans (hbU.mono (by omega))).setCell (p := ⟨b, 0, none⟩) hbw _, by have := hg.size; have := hbU.size; omega⟩
    have HEND := hide hend
    clear hc hcU hBU hin hlen hlen0 hg hend hs3
    gi_wp2
    have H := unhide HEND
    exact ⟨H.1, H.2.1, rfl, H.2.2.2⟩
  case done =>
    rintro ys W hS ⟨rfl, hc, hB, hs⟩ hK
    have h0 : decide (0 < (occR p q).length) = false := by rw [← hS]; rfl
    have hcell := hc.cell
    have hfz := hc.frozen
    have hB2 : Below w.heap.size w ((W.setCell ⟨b, 0, none⟩ (.bool false)).putObj w3.heap.size (.deferred none)) := (hB.setCell (p := ⟨b, 0, none⟩) hbw _).trans ((Below.refl _ _).grown (grownBy_putObj' _ _ _) (by have := d3.size; have := (grownBy_setCell' W b (.bool false)).size; omega) (fun k e => by cases e; exact d3.size))
    have H0 := hide h0
    clear d3 h0 hs3
    gi_wp2
    have hK' := (KeepsOthers.setCell W ⟨b, 0, none⟩ (.bool false)).same w3.heap.size _ hK rfl
    refine ⟨by simp, .inl ⟨_, _, rfl, run_takeDeferred hK', ?_⟩⟩
    have hc5 := cell_kept (World.cell?_setCell_same' W ⟨b, 0, none⟩ (.bool false) (by rw [hcell]; rfl)) (grownBy_putObj' _ w3.heap.size (.deferred none)) (fun r e => by cases e; exact ⟨_, hK', rfl⟩)
    refine ⟨.bool false, ?_, by rw [unhide H0], hB2⟩
    simp [results, Tryd.f46, go_sem, hc5]
  case stop =>
    rintro c pre W _ ⟨rfl, hl0, hc, hB, hs⟩ hK
    have h0 : decide (0 < (occR p q).length) = true := decide_eq_true hl0
    have hcell := hc.cell
    have hB2 : Below w.heap.size w (W.putObj w3.heap.size (.deferred none)) := hB.trans ((Below.refl _ _).grown (grownBy_putObj' _ _ _) (by have := d3.size; omega) (fun k e => by cases e; exact d3.size))
    have H0 := hide h0
    clear d3 h0 hs3
    gi_wp2
    refine ⟨by simp, .inl ⟨_, _, rfl, run_takeDeferred hK, ?_⟩⟩
    have hc5 := cell_kept hcell (grownBy_putObj' _ w3.heap.size (.deferred none)) (fun r e => by cases e; exact ⟨_, hK, rfl⟩)
    refine ⟨.bool true, ?_, by rw [unhide H0], hB2⟩
    simp [results, Tryd.f46, go_sem, hc5]
set_option maxHeartbeats 800000 in
theorem ihas_any (A A' : Option Addr) (n c B n' c' B' : Nat) (p q : List Int) (w : World) (h : Arg w B A n c p) (h' : Arg w B' A' n' c' q) :
    Calls Tryd.prog 46 #[.slice A n c, .slice A' n' c'] w (GivesB w (hasR p q)) := by
  obtain ⟨bp, hp⟩ : ∃ b, isP p = b := ⟨_, rfl⟩
  obtain ⟨bq, hq⟩ : ∃ b, isP q = b := ⟨_, rfl⟩
  have hb0 : Below w.heap.size w (w.alloc (.cells #[.bool false] 4)) := (Below.refl _ w).alloc (Nat.le_refl _) _
  have hc0 : Boxed (w.alloc (.cells #[.bool false] 4)) w.heap.size 4 (.bool false) := Boxed.new w _ _
  cases bp with
  | false =>
    have H1 := hide (iisperm_any A n c B p false hp _ (h.below hb0).reads (h.below hb0).under h.le h.small)
    rw [show hasR p q = false from by unfold hasR numOcc; rw [hp]; rfl]
    clear h h' hp hq
    go_enter Tryd.func46, Tryd.ntmps46
    go_wp2_with fail
    refine (unhide H1).mono ?_
    rintro e w1 ⟨rfl, d1⟩
    have hc := boxed_later hc0 d1
    have hcell := hc.cell
    have hfz := hc.frozen
    have hB2 := (below_after hb0 d1).setCell (p := ⟨w.heap.size, 0, none⟩) (Nat.le_refl _) (.bool false)
    have hc5 := World.cell?_setCell_same' w1 ⟨w.heap.size, 0, none⟩ (.bool false) (by rw [hcell]; rfl)
    clear H1 d1 hb0 hc0 hc
    go_wp2
    refine bodyPost_ret (v := .bool false) ?_ rfl ⟨rfl, hB2⟩
    simp [results, Tryd.f46, go_sem, hc5]
  | true =>
    cases bq with
    | false =>
      have H1 := hide (iisperm_any A n c B p true hp _ (h.below hb0).reads (h.below hb0).under h.le h.small)
      have H2 := hide (show ∀ w1, Below w.heap.size w w1 → _ from fun w1 d1 => iisperm_any A' n' c' B' q false hq w1 (h'.below d1).reads (h'.below d1).under h'.le h'.small)
      rw [show hasR p q = false from by unfold hasR numOcc; rw [hp, hq]; rfl]
      clear h h' hp hq
      go_enter Tryd.func46, Tryd.ntmps46
      go_wp2_with fail
      refine (unhide H1).mono ?_
      rintro e w1 ⟨rfl, d1⟩
      have H3 := hide (unhide H2 w1 (below_after hb0 d1))
      clear H1 H2
      go_wp2_with fail
      refine (unhide H3).mono ?_
      rintro e w2 ⟨rfl, d2⟩
      have hc := boxed_later (boxed_later hc0 d1) d2
      have hcell := hc.cell
      have hfz := hc.frozen
      have hB2 := (below_after (below_after hb0 d1) d2).setCell (p := ⟨w.heap.size, 0, none⟩) (Nat.le_refl _) (.bool false)
      have hc5 := World.cell?_setCell_same' w2 ⟨w.heap.size, 0, none⟩ (.bool false) (by rw [hcell]; rfl)
      clear H3 d1 d2 hb0 hc0 hc
      go_wp2
      refine bodyPost_ret (v := .bool false) ?_ rfl ⟨rfl, hB2⟩
      simp [results, Tryd.f46, go_sem, hc5]
    | true =>
      have := has_yes A A' n c B n' c' B' p q w h h' hp hq
      rw [show hasR p q = decide (0 < (occR p q).length) from by unfold hasR numOcc; rw [hp, hq]; simp only [Bool.and_self, if_true, decide_eq_decide]; omega]
      exact this
end Go.Proofs.YtplchjeamooliaaDoor


/-
  impl.permsUpTo, impl.isNoPerm, impl.hasSome, by their contracts.
-/

namespace Go.Proofs.YtplchjeamooliaaDoor
set_option maxRecDepth 100000
open Go.RowKit

set_option maxHeartbeats 800000 in
theorem inop_any (A : Option Addr) (n c B : Nat) (z : List Int) (w : World) (h : Arg w B A n c z) :
    Calls Tryd.prog 33 #[.slice A n c] w (GivesB w (!isP z)) := by
  obtain ⟨b, hb⟩ : ∃ b, isP z = b := ⟨_, rfl⟩
  have H1 := hide (iisperm_any A n c B z b hb w h.reads h.under h.le h.small)
  rw [hb]
  clear h hb
  go_enter Tryd.func33, Tryd.ntmps33
  go_wp2_with fail
  refine (unhide H1).mono ?_
  rintro e w1 ⟨rfl, d1⟩
  clear H1
  cases b with
  | false =>
    go_wp2
    go_ret
    exact ⟨rfl, d1⟩
  | true =>
    go_wp2
    go_ret
    exact ⟨rfl, d1⟩
set_option maxHeartbeats 800000 in
theorem imb1_any (A : Option Addr) (n c B : Nat) (z : List Int) (w : World) (h : Arg w B A n c z) :
    Calls Tryd.prog 32 #[.slice A n c] w (GivesB w (badB z)) := by
  have hl := h.len
  have H1 := hide (inop_any A n c B z w h)
  obtain ⟨b, hb⟩ : ∃ b, isP z = b := ⟨_, rfl⟩
  rw [hb] at H1
  have HR := hide (show badB z = (!b || decide (n = 0)) by unfold badB; rw [hb, hl])
  rw [unhide HR]
  clear h hb hl
  cases b with
  | false =>
    go_enter Tryd.func32, Tryd.ntmps32
    go_wp2_with fail
    refine (unhide H1).mono ?_
    rintro e w1 ⟨rfl, d1⟩
    clear H1
    go_wp2
    go_ret
    exact ⟨rfl, d1⟩
  | true =>
    by_cases h0 : n = 0
    · have HE := hide (show (!true || decide (n = 0)) = true by rw [decide_eq_true h0]; rfl)
      rw [unhide HE]
      subst h0
      go_enter Tryd.func32, Tryd.ntmps32
      go_wp2_with fail
      refine (unhide H1).mono ?_
      rintro e w1 ⟨rfl, d1⟩
      clear H1
      go_wp2
      go_ret
      exact ⟨rfl, d1⟩
    · have HE := hide (show (!true || decide (n = 0)) = false by rw [decide_eq_false h0]; rfl)
      rw [unhide HE]
      have hn0 : ((n : Int) == 0) = false := by rw [beq_eq_false_iff_ne]; omega
      go_enter Tryd.func32, Tryd.ntmps32
      go_wp2_with fail
      refine (unhide H1).mono ?_
      rintro e w1 ⟨rfl, d1⟩
      clear H1
      go_wp2
      go_ret
      exact ⟨rfl, d1⟩
set_option maxHeartbeats 800000 in
theorem ihs1_any (A A' : Option Addr) (n c B n' c' B' bx : Nat) (z p : List Int) (w : World) (h : Arg w B A n c z) (h' : Arg w B' A' n' c' p) (hz : isP z = true) (hp : isP p = true) (hx : w.cell? ⟨bx, 0, none⟩ = some (.slice A' n' c')) :
    Calls Tryd.prog 45 #[.slice A n c, .pointer (some ⟨bx, 0, none⟩)] w (GivesB w (hasO p z)) := by
  have H1 := hide (has_yes A' A n' c' B' n c B p z w h' h hp hz)
  rw [← hasO_occ hp hz] at H1
  clear h h' hz hp
  go_enter Tryd.func45, Tryd.ntmps45
  go_wp2_with fail
  refine (unhide H1).mono ?_
  rintro e w1 ⟨rfl, d1⟩
  clear H1 hx
  go_wp2
  go_ret
  exact ⟨rfl, d1⟩
theorem any_avo (L : List (List Int)) (p : List Int) : L.any (hasO p) = !avo L p := by
  unfold avo
  rw [List.not_all_eq_any_not]
  congr 1
  funext q
  rw [Bool.not_not]
set_option maxHeartbeats 800000 in
theorem ihs_any (A A' : Option Addr) (n c B n' c' B' : Nat) (p : List Int) (zss : List (List Int)) (w : World) (h : Arg w B A n c p) (hS : IntsS w B' (.slice A' n' c') zss) (hp : isP p = true) (hz : ∀ z ∈ zss, isP z = true) (hn : n' ≤ 1048576) :
    Calls Tryd.prog 35 #[.slice A n c, .slice A' n' c'] w (GivesB w (!avo zss p)) := by
  have hb0 : Below w.heap.size w (w.alloc (.cells #[.slice A n c] 30)) := (Below.refl _ w).alloc (Nat.le_refl _) _
  have hc0 : Boxed (w.alloc (.cells #[.slice A n c] 30)) w.heap.size 30 (.slice A n c) := Boxed.new w _ _
  have H1 := hide (conHS_any w.heap.size A' n' c' B' zss (hasO p) (w.alloc (.cells #[.slice A n c] 30)) (hS.below hb0) hn (hide fun w1 d A1 c1 z hzm hI =>
    ihs1_any A1 A z.length c1 _ n c B w.heap.size z p w1 (hI.argP (hz z hzm)) (h.below (below_after hb0 d)) (hz z hzm) hp (Boxed.cell (boxed_later hc0 d))))
  rw [any_avo] at H1
  clear h hS hz hp
  go_enter Tryd.func35, Tryd.ntmps35
  go_wp2_with fail
  refine (unhide H1).mono ?_
  rintro e w1 ⟨rfl, d1⟩
  have d := below_after hb0 d1
  clear H1 d1 hb0 hc0
  go_wp2
  go_ret
  exact ⟨rfl, d⟩
end Go.Proofs.YtplchjeamooliaaDoor


/-
  impl.OrderPerms, impl.SymmetryClass and impl.LeastSymmetry, by their contracts.
-/

namespace Go.Proofs.YtplchjeamooliaaDoor
set_option maxRecDepth 100000
open Go.RowKit

/-- What is in order and has each once is known by what it has. -/
theorem kept_ord {zss : List (List Int)} {xs ys : List Pr} (hall : allP zss = true) (hx : xs.map (·.2) = zss) (hp : ys.Perm xs) (hs : ∀ (i j : Nat) (x y : Pr), i < j → ys[i]? = some x → ys[j]? = some y → befL y.2 x.2 = false) :
    (keepN (·.2) ys ys.length).map (·.2) = ordR zss := by
  obtain ⟨h1, h2⟩ := keepN_sorted (f := fun q : Pr => q.2) hs ys.length (Nat.le_refl _)
  rw [ordR_yes hall]
  refine asc_unique h1 (ordL_asc _ _) fun z => ?_
  rw [h2 z, ordL_mem, List.take_length, List.take_length, ← hx]
  exact (hp.map _).mem_iff

set_option maxHeartbeats 1600000 in
theorem iord_any (A : Option Addr) (n c B : Nat) (zss : List (List Int)) (w : World) (hS : IntsS w B (.slice A n c) zss) (hn : n ≤ 1048576) (hsm : ∀ z ∈ zss, z.length ≤ 1048576 ∧ Small z) :
    Calls Tryd.prog 34 #[.slice A n c] w (GivesSS w (ordR zss)) := by
  obtain ⟨i0, hi, hz0, hz1, hz2⟩ := info_parts rowsInfo1
  have hl := hS.len
  have HL := hide hl
  have HSM := hide hsm
  clear hl hsm
  go_enter Tryd.func34, Tryd.ntmps34
  go_wp2_with (first
    | (at_make; refine wpList_make_full _ rfl (.tmp 7) (.tmp 7) 22 rfl w.heap.size 30 i0 (.slice none 0 0) 1 Tryd.underlying22 hi hz0 hz1 _ _ _ _ n rfl rfl (by first | rfl | omega) (by first | rfl | omega) (by rw [hz2]; omega) (by unfold maxLen; omega) (Nat.le_refl _) ?_; intro w1 hown hg))
  have hF := Filled.start (zss := zss) (unhide HL) (Below.refl w.heap.size w) hown hg
  clear hown hg
  obtain ⟨g, hgw⟩ : ∃ g, g = w.heap.size := ⟨_, rfl⟩
  rw [← hgw] at hF ⊢
  clear hgw
  go_loopw [4, 5, 11] (fun _ _ i wr => ∃ k : Nat, k ≤ n ∧ i = .int .i64 k ∧ Filled w wr g n zss k ∧ Hid (∀ z ∈ zss.take k, isP z = true)) (fun _ _ i _ => n - (intOf i).toNat)
  case atStart => exact ⟨0, Nat.zero_le _, rfl, hF, fun z hz => by simp at hz⟩
  case round =>
    obtain ⟨k, hk, rfl, hF, hP⟩ := hrel
    by_cases hlt : k < n
    · obtain ⟨ad, A1, c1, z, rfl, hz, hcell, hI⟩ := (hS.below hF.below).at_ hlt
      obtain ⟨hzl, hzs⟩ := unhide HSM z (List.mem_of_getElem? hz)
      have hA := hI.arg hzl hI.cap hzs
      obtain ⟨b, hb⟩ : ∃ b, isP z = b := ⟨_, rfl⟩
      have H1 := hide (iisperm_any A1 z.length c1 wr.heap.size z b hb wr hA.reads hA.under hA.le hA.small)
      cases b with
      | false =>
        have hr := hide (ordR_no (allP_no (List.mem_of_getElem? hz) hb))
        have hb0 := hF.below
        clear hz hb hI hA hF hP hzs
        go_wp2_with fail
        refine (unhide H1).mono ?_
        rintro e w2 ⟨rfl, hb⟩
        have hb2 := below_after hb0 hb
        clear H1 hb hb0
        go_wp2
        go_ret
        rw [unhide hr]
        exact GivesSS.mk (IntsS.nil _ _) hb2
      | true =>
        have H2 := hide (fun w' (hb' : Below wr.heap.size wr w') => clone_any A1 z.length c1 wr.heap.size z w' (hA.below hb'))
        have HF := hide hF
        have HZ := hide hz
        have hnext : Hid (∀ z ∈ zss.take (k + 1), isP z = true) := hide (fun y hy => by
          rw [List.take_add_one, hz] at hy
          rcases List.mem_append.1 hy with h | h
          · exact unhide hP y h
          · simp at h
            subst h
            exact hb)
        clear hz hb hI hA hF hP hzs
        go_wp2_with fail
        refine (unhide H1).mono ?_
        rintro e w2 ⟨rfl, hb⟩
        have H3 := hide (unhide H2 w2 hb)
        clear H1 H2
        go_wp2_with fail
        refine (unhide H3).mono ?_
        rintro e w3 ⟨A3, c3, rfl, o3, d3⟩
        have hb3 := below_after hb d3
        obtain ⟨⟨old, hold⟩, hfz⟩ := (unhide HF).old hb3 hlt
        have hF2 := (unhide HF).put (unhide HZ) hb3 (o3.low hb.size)
        clear H3 hb d3 hb3 o3 HF HZ
        go_wp2
        go_roundw
        case rel => exact ⟨k + 1, by omega, by go_num, hF2, hnext⟩
        case measure => simp [intOf]; omega
    · obtain rfl : n = k := by omega
      have hall : allP zss = true := allP_yes fun z hz => unhide hP z (by rw [List.take_of_length_le (by rw [unhide HL]; exact Nat.le_refl _)]; exact hz)
      obtain ⟨hbw, vs, hown, hin⟩ := hF
      rw [← unhide HL, fillS_all] at hin
      obtain ⟨xs, hx1, hx2, hx⟩ := hin.prs
      rw [← hx1] at hown
      have hxP : ∀ q ∈ xs, isP q.2 = true := fun q hq => allP_at hall (by rw [← hx2]; exact List.mem_map_of_mem hq)
      have H1 := hide (sort_any wr w.heap.size g n n xs hown hx hxP hn)
      have HALL := hide hall
      have HX2 := hide hx2
      have HX := hide hx
      have HXP := hide hxP
      have HOWN := hide hown
      clear hP hall hin hx hxP hx1 hx2 hown
      go_wp2_with fail
      refine (unhide H1).mono ?_
      rintro e w2 ⟨rfl, ys, hperm, hsort, hown2, hg2⟩
      have hk2 := KeepI.of_grown (v := .slice (some ⟨g, 0, none⟩) n n) (unhide HOWN) hg2
      have hy : RowPrs w2 w.heap.size ys := ((unhide HX).perm hperm).keepI hk2
      have hyP : ∀ q ∈ ys, isP q.2 = true := fun q hq => unhide HXP q (hperm.subset hq)
      have hbg := ((unhide HOWN).lt g rfl).1
      have hb2 := hbw.grown hg2 hbw.size (fun q hq => by injection hq with hq; omega)
      have H2 := hide (compact_any w2 w.heap.size g n n ys hown2 hy hyP hn (Nat.le_refl _))
      have HORD := hide (kept_ord (unhide HALL) (unhide HX2) hperm hsort)
      have HY := hide hy
      have HOWN2 := hide hown2
      clear H1 hperm hsort hown2 hg2 hk2 hy hyP hbw
      go_wp2_with fail
      refine (unhide H2).mono ?_
      rintro e w3 ⟨rfl, hown3, hg3⟩
      have hk3 := KeepI.of_grown (v := .slice (some ⟨g, 0, none⟩) n n) (unhide HOWN2) hg3
      have hp3 := ((unhide HY).keepI hk3).sub ((keepN_sub (f := fun q : Pr => q.2) ys ys.length).trans (List.take_sublist _ _))
      have hb3 := hb2.grown hg3 hb2.size (fun q hq => by injection hq with hq; omega)
      have hlen : (ordR zss).length = (keepN (·.2) ys ys.length).length := by rw [← unhide HORD, List.length_map]
      have hfin : IntsS w3 w.heap.size (.slice (some ⟨g, 0, none⟩) (keepN (·.2) ys ys.length).length n) (ordR zss) := by
        refine ⟨(keepN (·.2) ys ys.length).map (·.1), by rw [hlen]; exact hown3, ?_⟩
        rw [← unhide HORD]
        exact hp3.inner
      clear H2 hown3 hg3 hk3 hp3 hlen
      go_wp2
      go_ret
      exact GivesSS.mk hfin hb3
end Go.Proofs.YtplchjeamooliaaDoor


/-
  impl.MakeBasis, slices.EqualFunc over rows of rows, impl.IsBasis, impl.InClass, by their contracts.
-/

namespace Go.Proofs.YtplchjeamooliaaDoor
set_option maxRecDepth 100000
open Go.RowKit

set_option maxHeartbeats 1600000 in
theorem imkb_any (A : Option Addr) (n c B : Nat) (zss : List (List Int)) (w : World) (hS : IntsS w B (.slice A n c) zss) (hn : n ≤ 1048576) (hsm : ∀ z ∈ zss, z.length ≤ 1048576 ∧ Small z) :
    Calls Tryd.prog 23 #[.slice A n c] w (GivesSSB w (mkR zss) (mkOK zss)) := by
  have H1 := hide (conMB_any A n c B zss badB w hS hn (hide fun w1 d A1 c1 z hz hI => imb1_any A1 z.length c1 _ z w1 (hI.arg (hsm z hz).1 hI.cap (hsm z hz).2)))
  obtain ⟨b, hb⟩ : ∃ b, zss.any badB = b := ⟨_, rfl⟩
  rw [hb] at H1
  cases b with
  | true =>
    have hno := mkOK_bad hb
    rw [mkR_no hno, hno]
    clear hS hsm hb hno
    go_enter Tryd.func23, Tryd.ntmps23
    go_wp2_with fail
    refine (unhide H1).mono ?_
    rintro e w1 ⟨rfl, d1⟩
    have hI := IntsS.nil w1 w.heap.size
    clear H1
    go_wp2
    go_ret2
    exact GivesSSB.mk false hI d1
  | false =>
    have H2 := hide (fun (w' : World) (d : Below w.heap.size w w') => iord_any A n c B zss w' (hS.below d) hn hsm)
    have HNO := hide (fun (k : Nat) (hk : k ≤ (ordR zss).length) (h : 8 < (mkK (ordR zss) k).length) => mkOK_many hk h)
    have HYES := hide (fun (h : (mkK (ordR zss) (ordR zss).length).length ≤ 8) => (⟨mkOK_good hb h, mkR_yes (mkOK_good hb h)⟩ : mkOK zss = true ∧ mkR zss = mkO zss))
    have HDEF := hide (show mkO zss = mkK (ordR zss) (ordR zss).length from rfl)
    have HPP := hide (fun (j : Nat) (z : List Int) (hz : (ordR zss)[j]? = some z) => ordR_mem (List.mem_of_getElem? hz))
    have HPM := hide (fun (k : Nat) (hk : k ≤ (ordR zss).length) (x : List Int) (hx : x ∈ mkK (ordR zss) k) => ordR_mem (mkK_mem k hk x hx))
    obtain ⟨Z, hZ⟩ : ∃ Z, Z = ordR zss := ⟨_, rfl⟩
    rw [← hZ] at H2 HNO HYES HDEF HPP HPM
    obtain ⟨N, hN⟩ : ∃ N, N = Z.length := ⟨_, rfl⟩
    have hN1 : N ≤ 1048576 := by rw [hN, hZ]; have h1 := ordR_len zss; have h2 := hS.len; omega
    have HN := hide hN
    clear hS hsm hb hZ hN
    go_enter Tryd.func23, Tryd.ntmps23
    go_wp2_with fail
    refine (unhide H1).mono ?_
    rintro e w1 ⟨rfl, d1⟩
    have hst := ownS0 w1 w.heap.size d1.size
    have hbel := d1.alloc d1.size (.cells #[] 30)
    have H3 := hide (unhide H2 _ hbel)
    clear H1 H2 d1
    go_wp2_with fail
    refine (unhide H3).mono ?_
    rintro e w3 ⟨A3, c3, rfl, o3, d3⟩
    have hb3 := below_after hbel d3
    obtain ⟨vs, us0, hsib⟩ := Sib.start hst d3 o3 hbel.size
    obtain ⟨C, hC⟩ : ∃ C, C = (w1.alloc (.cells #[] 30)).heap.size := ⟨_, rfl⟩
    rw [← hC] at hsib
    rw [← unhide HN] at hsib ⊢
    clear hC H3 hst o3 d3 hbel
    go_wp2
    go_loopw [4, 6, 13] (fun ov _ i wr => ∃ (j : Nat) (us : List Value), j ≤ N ∧ i = .int .i64 j ∧ Below w.heap.size w wr ∧ Sib wr w.heap.size C (.slice A3 N c3) vs Z ov us (mkK Z j) j ∧ Hid ((mkK Z j).length ≤ 8)) (fun _ _ i _ => N - (intOf i).toNat)
    case atStart => exact ⟨0, us0, Nat.zero_le _, rfl, hb3, hsib, by exact (by simp [mkK] : (mkK Z 0).length ≤ 8)⟩
    case round =>
      obtain ⟨j, us, hj, rfl, hb, hs, h8⟩ := hrel
      clear hsib hb3
      by_cases hlt : j < N
      · obtain ⟨ad, A6, c6, z, rfl, hz, hvz, hcell, hI⟩ := hs.row rfl hlt
        have hzp := unhide HPP j z hz
        have hso := hs.outS
        obtain ⟨Ao, co, hov⟩ := hso.slice
        subst hov
        have h8' : (mkK Z j).length ≤ 8 := h8
        have H4 := hide (ihs_any A6 Ao z.length c6 _ _ co _ z (mkK Z j) wr (hI.argP hzp) hso hzp (unhide HPM j (by rw [← unhide HN]; omega)) (by omega))
        obtain ⟨b, hbb⟩ : ∃ b, avo (mkK Z j) z = b := ⟨_, rfl⟩
        rw [hbb] at H4
        have HZ := hide (⟨hz, hvz⟩ : _ ∧ _)
        have HS := hide hs
        have HB := hide hb
        have hcl := World.block_lt_of_cell? wr _ hcell
        obtain ⟨lz, hlz⟩ : ∃ l, l = z.length := ⟨_, rfl⟩
        obtain ⟨U, hU⟩ : ∃ U, U = mkK Z j := ⟨_, rfl⟩
        rw [← hU] at h8' H4 HS
        obtain ⟨nu, hnu⟩ : ∃ l, l = U.length := ⟨_, rfl⟩
        rw [← hnu] at h8' H4 HS
        have HNU := hide hnu
        have HU := hide hU
        rw [← hlz] at hcell H4 HZ
        rw [← hU, ← hnu]
        clear hz hvz hzp hI hs hb hso hlz hU hnu h8
        cases b with
        | false =>
          have HE := hide (mkK_no (unhide HZ).1 hbb)
          clear hbb
          go_wp2_with fail
          refine (unhide H4).mono ?_
          rintro e w4 ⟨rfl, d4⟩
          have hb4 := below_after (unhide HB) d4
          have hs4 := ((unhide HS).below d4).skip
          clear H4 HB HS d4 hcell hcl
          rw [unhide HU, ← unhide HE] at hs4
          have H8 := hide (show (mkK Z (j + 1)).length ≤ 8 by rw [unhide HE, ← unhide HU, ← unhide HNU]; exact h8')
          have HS4 := hide hs4
          clear hs4
          go_wp2
          go_roundw
          case rel => exact ⟨j + 1, us, by omega, by go_num, hb4, unhide HS4, H8⟩
          case measure => simp [intOf]; omega
        | true =>
          have HE := hide (mkK_yes (unhide HZ).1 hbb)
          clear hbb
          go_wp2_with fail
          refine (unhide H4).mono ?_
          rintro e w4 ⟨rfl, d4⟩
          have hb4 := below_after (unhide HB) d4
          have hs4 := (unhide HS).below d4
          have hcell4 := (d4.cell hcl).trans hcell
          clear H4 HB HS d4 hcell hcl
          by_cases e8 : nu = 8
          · have hno := hide (unhide HNO (j + 1) (by rw [← unhide HN]; omega) (by rw [unhide HE, List.length_append, ← unhide HU, ← unhide HNU, e8]; simp))
            have hI := IntsS.nil w4 w.heap.size
            have e8' : ((nu : Int) == 8) = true := by rw [e8]; rfl
            clear hs4 hcell4 e8
            go_wp2
            go_ret2
            rw [mkR_no (unhide hno), unhide hno]
            exact GivesSSB.mk false hI hb4
          · have e8' : ((nu : Int) == 8) = false := by rw [beq_eq_false_iff_ne]; omega
            have hul : U.length ≤ 1048576 := by rw [← unhide HNU]; omega
            have H8 := hide (show (mkK Z (j + 1)).length ≤ 8 by rw [unhide HE, List.length_append, ← unhide HU, ← unhide HNU, List.length_singleton]; omega)
            go_wp2_with (first
              | (at_builtin; refine wpList_sift rfl (.tmp 23) (.tmp 25) rfl w.heap.size C w w4 (.slice (some ad) N c3) _ (.slice A6 lz c6) vs us Z U j z rfl rfl rfl hs4 (unhide HZ).2 (unhide HZ).1 hul hb4 (Nat.le_refl _) ?_; intro v5 w5 hs5 hb5))
            rw [unhide HU, ← unhide HE] at hs5
            clear hs4 hb4 hcell4 hul
            go_roundw
            case rel => exact ⟨j + 1, _, by omega, by go_num, hb5, hs5, H8⟩
            case measure => simp [intOf]; omega
      · obtain rfl : N = j := by omega
        have h8' : (mkK Z Z.length).length ≤ 8 := by rw [← unhide HN]; exact h8
        obtain ⟨e1, e2⟩ := unhide HYES h8'
        have hI := hs.outS
        rw [show mkK Z N = mkR zss by rw [e2, unhide HDEF, ← unhide HN]] at hI
        have HI := hide hI
        have HOK := hide e1
        clear hs h8 h8' e1 e2 hI
        go_wp2
        go_ret2
        rw [unhide HOK]
        exact GivesSSB.mk true (unhide HI) hb
theorem rows_ne {X Y : List (List Int)} {k : Nat} {x y : List Int} (hx : X[k]? = some x) (hy : Y[k]? = some y) (h : x ≠ y) : decide (X = Y) = false := by
  rw [decide_eq_false_iff_not]
  rintro rfl
  rw [hx] at hy
  exact h (Option.some.inj hy)
set_option maxHeartbeats 1600000 in
theorem equalF_any (A A' : Option Addr) (n c B n' c' B' : Nat) (X Y : List (List Int)) (w : World) (hX : IntsS w B (.slice A n c) X) (hY : IntsS w B' (.slice A' n' c') Y) (hn : n ≤ 1048576) (hsx : ∀ z ∈ X, z.length ≤ 1048576 ∧ Small z) (hsy : ∀ z ∈ Y, z.length ≤ 1048576 ∧ Small z) :
    Calls Tryd.prog 24 #[.slice A n c, .slice A' n' c', .func (.func 25) #[] #[]] w (GivesB w (decide (X = Y))) := by
  have hlx := hX.len
  have hly := hY.len
  by_cases hnn : n = n'
  · subst hnn
    have HA := hide (⟨hX, hY, hsx, hsy⟩ : IntsS w B (.slice A n c) X ∧ IntsS w B' (.slice A' n c') Y ∧ (∀ z ∈ X, z.length ≤ 1048576 ∧ Small z) ∧ ∀ z ∈ Y, z.length ≤ 1048576 ∧ Small z)
    have HL := hide (⟨hlx, hly⟩ : X.length = n ∧ Y.length = n)
    have hb0 := Below.refl w.heap.size w
    clear hX hY hsx hsy hlx hly
    go_enter Tryd.func24, Tryd.ntmps24
    go_wp2
    go_loopw [7, 8, 9, 17] (fun _ _ _ i wr => ∃ k : Nat, k ≤ n ∧ i = .int .i64 k ∧ Below w.heap.size w wr ∧ Hid (X.take k = Y.take k)) (fun _ _ _ i _ => n - (intOf i).toNat)
    case atStart => exact ⟨0, Nat.zero_le _, rfl, hb0, by exact (rfl : X.take 0 = Y.take 0)⟩
    case round =>
      obtain ⟨k, hk, rfl, hb, ht⟩ := hrel
      clear hb0
      by_cases hlt : k < n
      · obtain ⟨ad, A1, c1, x, rfl, hx, hcx, hIx⟩ := ((unhide HA).1.below hb).at_ hlt
        obtain ⟨ad2, A2, c2, y, rfl, hy, hcy, hIy⟩ := ((unhide HA).2.1.below hb).at_ hlt
        have sx := (unhide HA).2.2.1 x (List.mem_of_getElem? hx)
        have sy := (unhide HA).2.2.2 y (List.mem_of_getElem? hy)
        obtain ⟨b, hbb⟩ : ∃ b, decide (x = y) = b := ⟨_, rfl⟩
        have H1 := hide (eqsl_any A1 A2 _ c1 _ _ c2 _ x y b hbb wr (hIx.arg sx.1 hIx.cap sx.2) (hIy.arg sy.1 hIy.cap sy.2))
        have HXY := hide (⟨hx, hy, hbb⟩ : X[k]? = some x ∧ Y[k]? = some y ∧ decide (x = y) = b)
        obtain ⟨lx, hlx⟩ : ∃ l, l = x.length := ⟨_, rfl⟩
        obtain ⟨ly, hly⟩ : ∃ l, l = y.length := ⟨_, rfl⟩
        rw [← hlx] at hcx H1
        rw [← hly] at hcy H1
        clear hx hy hIx hIy sx sy hbb hlx hly
        cases b with
        | true =>
          have hst := hide (show X.take (k + 1) = Y.take (k + 1) by rw [List.take_add_one, List.take_add_one, unhide ht, (unhide HXY).1, (unhide HXY).2.1, of_decide_eq_true (unhide HXY).2.2])
          go_wp2_with fail
          refine (unhide H1).mono ?_
          rintro e w2 ⟨rfl, d2⟩
          have hb2 := hb.trans (d2.below _)
          clear H1 d2 hb hcx hcy ht
          go_wp2
          go_roundw
          case rel => exact ⟨k + 1, by omega, by go_num, hb2, hst⟩
          case measure => simp [intOf]; omega
        | false =>
          have HF := hide (rows_ne (unhide HXY).1 (unhide HXY).2.1 (of_decide_eq_false (unhide HXY).2.2))
          go_wp2_with fail
          refine (unhide H1).mono ?_
          rintro e w2 ⟨rfl, d2⟩
          have hb2 := hb.trans (d2.below _)
          clear H1 d2 hb hcx hcy ht
          go_wp2
          go_ret
          exact ⟨ret_bool (unhide HF).symm, hb2⟩
      · obtain rfl : n = k := by omega
        have HT := hide (show decide (X = Y) = true by
          have h := unhide ht
          rw [List.take_of_length_le (by rw [(unhide HL).1]; exact Nat.le_refl _), List.take_of_length_le (by rw [(unhide HL).2]; exact Nat.le_refl _)] at h
          exact decide_eq_true h)
        clear ht
        go_wp2
        go_ret
        exact ⟨ret_bool (unhide HT).symm, hb⟩
  · have hne : decide (X = Y) = false := by
      rw [decide_eq_false_iff_not]
      rintro rfl
      omega
    rw [hne]
    have hb0 := Below.refl w.heap.size w
    have hnb : ((n : Int) == (n' : Int)) = false := by rw [beq_eq_false_iff_ne]; omega
    clear hX hY hlx hly hne
    go_enter Tryd.func24, Tryd.ntmps24
    go_wp2
    go_ret
    exact ⟨rfl, hb0⟩
theorem mkR_rows (zss : List (List Int)) : (mkR zss).length ≤ 8 ∧ tot (mkR zss) ≤ 64 ∧ ∀ z ∈ mkR zss, isP z = true := by
  cases h : mkOK zss with
  | false => rw [mkR_no h]; simp [tot]
  | true =>
    have hb : basis (mkO zss) = true := by unfold mkOK at h; rw [Bool.and_eq_true] at h; exact h.2
    rw [mkR_yes h]
    have h1 := basis_le hb
    have h2 := fun z hz => (basis_isP hb z hz).1
    exact ⟨h1, by have := tot_room 8 (mkO zss) (fun z hz => isP_le (h2 z hz)); omega, h2⟩
set_option maxHeartbeats 1600000 in
theorem ibas2_any (A : Option Addr) (n c B : Nat) (zss : List (List Int)) (w : World) (hS : IntsS w B (.slice A n c) zss) (hn : n ≤ 1048576) (hsm : ∀ z ∈ zss, z.length ≤ 1048576 ∧ Small z) :
    Calls Tryd.prog 14 #[.slice A n c] w (GivesB w (basis zss)) := by
  have H1 := hide (imkb_any A n c B zss w hS hn hsm)
  have hR := mkR_rows zss
  rw [basis_made]
  obtain ⟨b, hb⟩ : ∃ b, mkOK zss = b := ⟨_, rfl⟩
  rw [hb] at H1 ⊢
  cases b with
  | false =>
    clear hS hsm hb hR
    go_enter Tryd.func14, Tryd.ntmps14
    go_wp2_with fail
    refine (unhide H1).mono ?_
    rintro e w1 ⟨A1, c1, rfl, o1, d1⟩
    clear H1 o1
    go_wp2
    go_ret
    exact ⟨rfl, d1⟩
  | true =>
    have HH := hide (fun (w1 : World) (d : Below w.heap.size w w1) (A1 : Option Addr) (c1 : Nat) (o1 : IntsS w1 w.heap.size (.slice A1 (mkR zss).length c1) (mkR zss)) => equalF_any A A1 n c B _ c1 _ zss (mkR zss) w1 (hS.below d) o1 hn hsm (fun z hz => ⟨by have := isP_le (hR.2.2 z hz); omega, isP_small (hR.2.2 z hz)⟩))
    obtain ⟨bb, hbb⟩ : ∃ bb, bb = (true && decide (zss = mkR zss)) := ⟨_, rfl⟩
    rw [← hbb]
    rw [Bool.true_and] at hbb
    simp only [← hbb] at HH
    clear hS hsm hb hR hbb
    go_enter Tryd.func14, Tryd.ntmps14
    go_wp2_with fail
    refine (unhide H1).mono ?_
    rintro e w1 ⟨A1, c1, rfl, o1, d1⟩
    have H2 := hide (unhide HH w1 d1 A1 c1 o1)
    clear H1 HH o1
    go_wp2_with fail
    refine (unhide H2).mono ?_
    rintro e w2 ⟨rfl, d2⟩
    have hb2 := below_after d1 d2
    clear H2 d1 d2
    go_wp2
    go_ret
    exact ⟨rfl, hb2⟩
theorem ibas_any (A : Option Addr) (n c B : Nat) (zss : List (List Int)) (w : World) (hS : IntsS w B (.slice A n c) zss) (hn : n ≤ 1048576) (hsm : ∀ z ∈ zss, z.length ≤ 1048576 ∧ Small z) :
    Calls Tryd.prog 14 #[.slice A n c] w (GivesB w (basis zss)) := ibas2_any A n c B zss w hS hn hsm
end Go.Proofs.YtplchjeamooliaaDoor


/-
  impl.SplitByte, by its contract (the given side: SplitG).
-/

namespace Go.Proofs.YtplchjeamooliaaDoor
set_option maxRecDepth 100000
open Go.RowKit

theorem isplit_any (s : ByteArray) (hs : s.size ≤ 1048576) (b : Int) (m : Int) (w : World) (hm : w.cell? ⟨0, 0, none⟩ = some (.int .i64 m)) :
    Calls Tryd.prog 12 #[.string s, .int .u8 b] w (GivesStrs w (pieces s (byteOf b))) := by
  have hcv := cv_one (P := Tryd.prog) Tryd.underlying38 Tryd.underlying5 Tryd.underlying9 w b
  have H := hide (Any.strings_Split { Tryd.laysM146 with } Tryd.laysM146.i9 s ⟨#[byteOf b]⟩ m (w.alloc (.cells #[.int .u8 b] 5)) (by omega) (by
    rw [World.cell?_alloc_lt]
    · exact hm
    · exact World.block_lt_of_cell? w _ hm) (Nat.le_refl 1))
  rw [splitB_pieces] at H
  clear hm
  go_enter Tryd.func12, Tryd.ntmps12
  go_wp2_with fail
  refine (unhide H).mono ?_
  rintro e w' ⟨rfl, rfl⟩
  clear H hcv
  go_wp2
  go_ret
  have hl := pieces_length s (byteOf b)
  refine ⟨_, rfl, ?_, ?_⟩
  · refine ⟨by simp, .inr ⟨w.heap.size + 1, Lib.countB s ⟨#[byteOf b]⟩ + 1, ((pieces s (byteOf b)).map Value.string).toArray, ?_, by omega, ?_, by omega, ?_, ?_, ?_⟩⟩
    · rw [hl]; simp
    · have h := heap_alloc_new (w.alloc (.cells #[.int .u8 b] 5)) (.cells ((pieces s (byteOf b)).map Value.string).toArray 9)
      rw [show w.heap.size + 1 = (w.alloc (.cells #[.int .u8 b] 5)).heap.size by simp]
      exact h
    · have := pieces_le s (byteOf b); unfold maxLen; omega
    · simp [hl]
    · rw [hl, Nat.mul_one]; exact List.take_of_length_le (by rw [List.length_map, hl]; exact Nat.le_refl _)
  · exact ((Below.refl _ _).alloc (Nat.le_refl _) _).alloc (by simp) _

end Go.Proofs.YtplchjeamooliaaDoor


/-
  impl.ParseBasis, by its contract (where the variable MaxLen stands).
-/

namespace Go.Proofs.YtplchjeamooliaaDoor
set_option maxRecDepth 100000
open Go.RowKit

theorem tail_len (c : UInt8) : ∀ r : List (List UInt8), r.length ≤ (Lib.joinTail [c] r).length
  | [] => Nat.zero_le _
  | x :: r => by
    have ih := tail_len c r
    unfold Lib.joinTail at ih ⊢
    simp only [List.map_cons, List.flatten_cons, List.length_append, List.length_cons, List.length_nil]
    omega
theorem ppOK_some {s : ByteArray} (h : ppOK s = true) : 1 ≤ s.size := by
  unfold ppOK at h
  simp only [Bool.or_eq_true, Bool.and_eq_true, decide_eq_true_eq] at h
  rcases h with h | h
  · rw [h]; decide
  · omega
/-- No more parts than bytes, where none is empty. -/
theorem pieces_few {s : ByteArray} {c : UInt8} (h : (pieces s c).all ppOK = true) : (pieces s c).length ≤ s.size := by
  have hj := congrArg List.length (join_pieces s c)
  rw [size_list'] at hj
  cases hp : pieces s c with
  | nil => exact Nat.zero_le _
  | cons x r =>
    rw [hp] at hj h
    rw [List.map_cons, Lib.join_cons, List.length_append] at hj
    have h1 := tail_len c (r.map (·.data.toList))
    have h2 := ppOK_some (List.all_eq_true.1 h x (by simp))
    have h3 := size_list' x
    rw [List.length_map] at h1
    rw [List.length_cons]
    omega
set_option maxHeartbeats 1600000 in
theorem ipb_any (s : ByteArray) (hs : s.size ≤ 1048576) (m : Int) (w : World) (hm : w.cell? ⟨0, 0, none⟩ = some (.int .i64 m)) :
    Calls Tryd.prog 5 #[.string s] w (GivesSSB w (pbR s) (pbOK s)) := by
  by_cases h0 : s.size = 0
  · rw [pbR_none h0, pbOK_none h0]
    have he := empty_list h0
    have hI := IntsS.nil w w.heap.size
    have hb := Below.refl w.heap.size w
    clear hs h0 hm
    go_enter Tryd.func5, Tryd.ntmps5
    go_wp2
    go_ret2
    exact GivesSSB.mk true hI hb
  · have he := nonempty_list h0
    have H1 := hide (isplit_any s hs 32 m w hm)
    have HP := hide (⟨pieces_le s (byteOf 32), fun p (hp : p ∈ pieces s (byteOf 32)) => (pieces_parts hp).2⟩ : (pieces s (byteOf 32)).length ≤ s.size + 1 ∧ ∀ p ∈ pieces s (byteOf 32), p.size ≤ s.size)
    obtain ⟨P, hP⟩ : ∃ P, P = pieces s (byteOf 32) := ⟨_, rfl⟩
    have HNO := hide (fun (h : (P.all ppOK && basis (P.map ppR)) = false) => pb_no h0 hP h)
    have HFEW := hide (fun (h : P.all ppOK = true) => (show P.length ≤ s.size by rw [hP] at h ⊢; exact pieces_few h))
    have HYES := hide (fun (h : (P.all ppOK && basis (P.map ppR)) = true) => pb_yes h0 hP h)
    rw [← hP] at H1 HP
    obtain ⟨N, hN⟩ : ∃ N, N = P.length := ⟨_, rfl⟩
    rw [← hN] at HP
    have hN1 : N ≤ 1048577 := by have := (unhide HP).1; omega
    have HN := hide hN
    have HZ := hide hs
    clear h0 hP hs hm
    go_enter Tryd.func5, Tryd.ntmps5
    go_wp2_with fail
    refine (unhide H1).mono ?_
    rintro e w2 ⟨v2, rfl, o2, d2⟩
    rw [← hN] at o2
    obtain ⟨A2, c2, rfl, _⟩ := Reads.of_own o2
    have hI2 := IntsS.nil w2 w.heap.size
    obtain ⟨B2, hB2⟩ : ∃ b, b = w.heap.size := ⟨_, rfl⟩
    have o3 := o2
    rw [← hB2] at o3
    clear H1 hN hB2 o2
    go_wp2
    go_loopw [4, 6, 7, 8, 14] (fun ov _ _ _ kv wr => ∃ k : Nat, k ≤ N ∧ kv = .int .i64 k ∧ Below w.heap.size w wr ∧ IntsS wr w.heap.size ov ((P.take k).map ppR) ∧ wr.ownsRow B2 9 1 (.slice A2 N c2) N (P.map Value.string) ∧ Hid ((P.take k).all ppOK = true)) (fun _ _ _ _ kv _ => N - (intOf kv).toNat)
    case atStart => exact ⟨0, Nat.zero_le _, rfl, d2, hI2, o3, by exact (by simp : (P.take 0).all ppOK = true)⟩
    case round =>
      obtain ⟨k, hk, rfl, hb, hI, ho, hall⟩ := hrel
      clear d2 hI2 o3
      by_cases hlt : k < N
      · obtain ⟨ad, u, rfl, _, hu, hc⟩ := (Reads.of_own_at ho).at_ hlt
        obtain ⟨p, hp, rfl⟩ := strs_at hu
        have hps : p.size ≤ 1048576 := by have h1 := (unhide HP).2 p (List.mem_of_getElem? hp); have h2 := unhide HZ; omega
        obtain ⟨b, hbb⟩ : ∃ b, ppOK p = b := ⟨_, rfl⟩
        have H3 := hide (ipp_any p hps b hbb wr)
        have HPP := hide (⟨hp, hbb⟩ : P[k]? = some p ∧ ppOK p = b)
        have hml : ((P.take k).map ppR).length = k := by rw [List.length_map, List.length_take, ← unhide HN]; omega
        have hsz := hb.size
        clear hu hp hps hbb
        go_wp2_with fail
        refine (unhide H3).mono ?_
        rintro e w3 ⟨A3, c3, rfl, o3, d3⟩
        have hb3 := below_after hb d3
        clear H3
        cases b with
        | false =>
          obtain ⟨e1, e2⟩ := unhide HNO (by rw [all_no (unhide HPP).1 (unhide HPP).2]; rfl)
          have hst3 := IntsS.nil w3 w.heap.size
          clear hI ho hb hml d3 o3 hc
          go_wp2
          go_ret2
          rw [e1, e2]; exact GivesSSB.mk false hst3 hb3
        | true =>
          have ho3 := own_below ho d3
          have HA := hide (all_take (unhide HPP).1 (unhide HPP).2 (unhide hall))
          have HM := hide (map_takeX (unhide HPP).1)
          have hlen : ((P.take k).map ppR).length ≤ 1048576 := by rw [hml]; omega
          clear ho hc hml
          go_wp2_with (first
            | (at_builtin; refine wpList_push_row_keep rfl (.tmp 25) (.tmp 27) rfl w.heap.size w wr w3 _ _ ((P.take k).map ppR) (ppR p) rfl rfl rfl hI d3 o3 hlen hb3 hsz ?_; intro v4 w4 hI4 hb4 hk4))
          have ho4 := own_keepStr ho3 hk4
          rw [← unhide HM] at hI4
          clear hI hb ho3 hk4 hb3 o3 d3 hlen
          go_wp2
          go_roundw
          case rel => exact ⟨k + 1, by omega, by go_num, hb4, hI4, ho4, HA⟩
          case measure => simp [intOf]; omega
      · obtain rfl : k = N := by omega
        have ht : P.take k = P := List.take_of_length_le (by rw [← unhide HN]; exact Nat.le_refl _)
        rw [ht] at hI hall
        obtain ⟨Ao, co, rfl⟩ := hI.slice
        have hml : (P.map ppR).length = k := by rw [List.length_map, ← unhide HN]
        rw [hml] at hI ⊢
        obtain ⟨b, hbb⟩ : ∃ b, basis (P.map ppR) = b := ⟨_, rfl⟩
        have hk1 : k ≤ 1048576 := by have h1 := unhide HFEW (unhide hall); have h2 := unhide HZ; rw [← unhide HN] at h1; omega
        have H5 := hide (by have h5 := ibas_any Ao k co w.heap.size (P.map ppR) wr hI hk1 (fun z hz => by obtain ⟨q, _, rfl⟩ := List.mem_map.1 hz; exact ⟨Nat.le_trans (ppR_le q) (by omega), ppR_smallX q⟩); rw [hbb] at h5; exact h5)
        have hE : (P.all ppOK && basis (P.map ppR)) = b := by rw [unhide hall, hbb]; rfl
        have HE := hide hE
        clear hml ht hE hbb ho
        go_wp2_with fail
        refine (unhide H5).mono ?_
        rintro e w6 ⟨rfl, d6⟩
        have hb6 := below_after hb d6
        have hI6 := hI.below d6
        clear H5 hI hb d6
        cases b with
        | false =>
          obtain ⟨e1, e2⟩ := unhide HNO (unhide HE)
          have hst3 := IntsS.nil w6 w.heap.size
          go_wp2
          go_ret2
          rw [e1, e2]; exact GivesSSB.mk false hst3 hb6
        | true =>
          obtain ⟨e1, e2⟩ := unhide HYES (unhide HE)
          go_wp2
          go_ret2
          rw [e1, e2]; exact GivesSSB.mk true hI6 hb6
end Go.Proofs.YtplchjeamooliaaDoor


/-
  THE LAST STEP OF A LAW: the walk's answer 'true' and 'nothing below the call's own blocks has turned' give the row's post. One lemma for all laws.
-/

namespace Go.Proofs.YtplchjeamooliaaDoor
set_option maxRecDepth 100000
open Go.ChangeShapes Go.WideShapes Go.ChangeAt Go.RowKit

theorem trodAll_below {H : Type} {enc : TypeId × Value → H} {P : Program} (hl : laidOutB P = true) {W W' : World} (hb : Below W.heap.size W W') :
    ∀ (ts : List TypeId) (vs : List Value) (ds : List (DataW H)) (ps : List MemPlace), (∀ t ∈ ts, P.readableRec t = true ∧ t < P.types.size) → (∀ x ∈ ps, x.block < W.heap.size) →
      DataW.TrodAll enc P W 0 (fun _ => true) true ts vs ds ps → DataW.TrodAll enc P W' 0 (fun b => decide (b < W.heap.size)) true ts vs ds ps
  | [], vs, ds, ps, _, _, h => by
    obtain ⟨rfl, rfl, rfl⟩ := trodAll_nil h
    exact trodAll_mk0
  | t :: ts, vs, ds, ps, ht, hp, h => by
    obtain ⟨v, vs1, d, ds1, a, b, rfl, rfl, rfl, h1, h2⟩ := trodAll_cons h
    exact ⟨a, b, Below.trod hl (ht t (by simp)).1 (ht t (by simp)).2 h1 hb (fun x hx => hp x (by simp [hx])),
      trodAll_below hl hb ts vs1 ds1 b (fun t' h' => ht t' (by simp [h'])) (fun x hx => hp x (by simp [hx])) h2, rfl⟩

theorem law_end {H : Type} {enc : TypeId × Value → H} {P : Program} {f : Func} {s : ChangeSpec} {W W' : World} {args : Array Value} {ds gs : List (DataW H)} {before : List MemPlace} {tb : TypeId}
    (hl : laidOutB P = true) (hts : ∀ t ∈ f.params.toList, P.readableRec t = true ∧ t < P.types.size) (hb4 : P.underlying tb = some .bool) (hrt : f.resultTypes = #[tb]) (hv : s.vars = [])
    (hW : DataW.Whole enc P f.params.toList s.vars false W args.toList ds gs before)
    (hfn : s.fn H (ds ++ gs) = { results := [.lit (.bool true)], args := ds }) (hbel : Below W.heap.size W W') :
    s.post enc P f false true false false W args (.bool true) W' := by
  have hlt : ∀ x ∈ before, x.block < W.heap.size := fun x hx => by simpa using hW.lt x hx
  have hW' := hW
  obtain ⟨p, q, hA, hV, rfl, _, _⟩ := hW
  rw [hv] at hV
  obtain ⟨rfl, rfl⟩ := trodVars_none hV
  have hargs := trodAll_below hl hbel _ _ _ _ hts (fun x hx => hlt x (by simp [hx])) hA
  refine ⟨ds, [], _, [] ++ [], p, [], hW', ?_, ?_, ?_, hbel.frame _, fun h => by cases h⟩
  · rw [hfn, hrt]; exact trodAll_mk1 (shut_bool hb4 _)
  · rw [hfn]; exact hargs
  · rw [hfn, hv]; rfl

theorem lt_of_row {W : World} {a : Addr} {m j : Nat} (hlt : ∀ x ∈ MemPlace.row a m, x.block < W.heap.size) (hj : j < m) : a.block < W.heap.size :=
  hlt (.cell a.block (a.off + j)) (MemPlace.mem_row.2 ⟨j, hj, rfl⟩)

/-- An argument []string, as 'Reads'. -/
theorem open_strs_reads {H : Type} {enc : TypeId × Value → H} {P : Program} {w : World} {r : Reach} {b0 t e : TypeId} {v : Value} {d : DataW H} {ps : List MemPlace} (ht : P.underlying t = some (.slice e)) (he : P.underlying e = some .string) (hc : P.cellsOf e = 1)
    (hval : Value.okWide P w r b0 t v) (h : DataW.Trod enc P w 0 (fun _ => true) true t v d ps) (hlt : ∀ x ∈ ps, x.block < w.heap.size) :
    ∃ (A : Option Addr) (n c : Nat) (ss : List ByteArray), v = .slice A n c ∧ Reads w w.heap.size A n (ss.map Value.string) ∧ n ≤ maxLen ∧ ∀ s ∈ ss, s.size ≤ maxLen := by
  obtain ⟨a0, len, cap, rfl⟩ := okWide_slice ht hval
  obtain ⟨fuel, hf⟩ := h
  rcases open_strings ht he hc hf with ⟨hcs, hx⟩ | ⟨a, len', cap', ss, hcs, _, hl, hm, hz, hx, hcell, hws⟩
  · simp [Value.cells] at hcs
    obtain ⟨rfl, rfl, rfl⟩ := hcs
    exact ⟨none, 0, 0, [], rfl, Reads.none_, Nat.zero_le _, by simp⟩
  · simp [Value.cells] at hcs
    obtain ⟨rfl, rfl, rfl⟩ := hcs
    simp only [Prod.mk.injEq] at hx
    obtain ⟨rfl, rfl⟩ := hx
    simp only [if_true] at hz
    refine ⟨some a, len, cap, ss.take len, rfl, ⟨by simp; omega, fun hn => ⟨a, rfl, lt_of_row (j := 0) hlt (by omega), fun j u hu => ?_⟩⟩, by omega, fun s hs => hws s (List.mem_of_mem_take hs)⟩
    rw [List.getElem?_map, List.getElem?_take] at hu
    by_cases hj : j < len
    · rw [if_pos hj] at hu
      rw [hcell j (by omega), ← hu, List.getD_eq_getElem?_getD]
      have : ss[j]? = some ss[j] := List.getElem?_eq_getElem (by omega)
      rw [this]; rfl
    · rw [if_neg hj] at hu; cases hu

/-- An argument of integers, as 'Reads'. -/
theorem open_ints_reads {H : Type} {enc : TypeId × Value → H} {P : Program} {w : World} {r : Reach} {b0 t e : TypeId} {ik : IntKind} {v : Value} {d : DataW H} {ps : List MemPlace} (ht : P.underlying t = some (.slice e)) (he : P.underlying e = some (.int ik)) (hc : P.cellsOf e = 1)
    (hval : Value.okWide P w r b0 t v) (h : DataW.Trod enc P w 0 (fun _ => true) true t v d ps) (hlt : ∀ x ∈ ps, x.block < w.heap.size) :
    ∃ (A : Option Addr) (n c : Nat) (zs : List Int), v = .slice A n c ∧ Reads w w.heap.size A n (zs.map (Value.int ik)) ∧ n ≤ maxLen ∧ ∀ z ∈ zs, (Lit.int ik z).wf = true := by
  obtain ⟨a0, len, cap, rfl⟩ := okWide_slice ht hval
  obtain ⟨fuel, hf⟩ := h
  rcases open_ints ht he hc hf with ⟨hcs, hx⟩ | ⟨a, len', cap', zs, hcs, _, hl, hm, hz, hx, hcell, hws⟩
  · simp [Value.cells] at hcs
    obtain ⟨rfl, rfl, rfl⟩ := hcs
    exact ⟨none, 0, 0, [], rfl, Reads.none_, Nat.zero_le _, by simp⟩
  · simp [Value.cells] at hcs
    obtain ⟨rfl, rfl, rfl⟩ := hcs
    simp only [Prod.mk.injEq] at hx
    obtain ⟨rfl, rfl⟩ := hx
    simp only [if_true] at hz
    refine ⟨some a, len, cap, zs.take len, rfl, ⟨by simp; omega, fun hn => ⟨a, rfl, lt_of_row (j := 0) hlt (by omega), fun j u hu => ?_⟩⟩, by omega, fun s hs => hws s (List.mem_of_mem_take hs)⟩
    rw [List.getElem?_map, List.getElem?_take] at hu
    by_cases hj : j < len
    · rw [if_pos hj] at hu
      rw [hcell j (by omega), ← hu, List.getD_eq_getElem?_getD]
      have : zs[j]? = some zs[j] := List.getElem?_eq_getElem (by omega)
      rw [this]; rfl
    · rw [if_neg hj] at hu; cases hu
theorem bytes_of_wf : ∀ (zs : List Int), (∀ z ∈ zs, (Lit.int .u8 z).wf = true) → ∃ bs : List UInt8, zs.map (Value.int .u8) = u8s bs
  | [], _ => ⟨[], rfl⟩
  | z :: r, h => by
    obtain ⟨bs, hb⟩ := bytes_of_wf r (fun y hy => h y (by simp [hy]))
    have hz : 0 ≤ z ∧ z ≤ 255 := by simpa [Lit.wf, IntKind.min, IntKind.max, IntKind.signed, IntKind.bits] using h z (by simp)
    refine ⟨UInt8.ofNat z.toNat :: bs, ?_⟩
    have e : ((UInt8.ofNat z.toNat).toNat : Int) = z := by rw [UInt8.toNat_ofNat']; omega
    simp only [u8s, List.map_cons, e]
    rw [hb]; rfl
theorem open_bytes_reads {H : Type} {enc : TypeId × Value → H} {P : Program} {w : World} {r : Reach} {b0 t e : TypeId} {v : Value} {d : DataW H} {ps : List MemPlace} (ht : P.underlying t = some (.slice e)) (he : P.underlying e = some (.int .u8)) (hc : P.cellsOf e = 1)
    (hval : Value.okWide P w r b0 t v) (h : DataW.Trod enc P w 0 (fun _ => true) true t v d ps) (hlt : ∀ x ∈ ps, x.block < w.heap.size) :
    ∃ (A : Option Addr) (n c : Nat) (bs : List UInt8), v = .slice A n c ∧ Reads w w.heap.size A n (u8s bs) ∧ n ≤ maxLen := by
  obtain ⟨A, n, c, zs, rfl, hr, hn, hw⟩ := open_ints_reads ht he hc hval h hlt
  obtain ⟨bs, hb⟩ := bytes_of_wf zs hw
  exact ⟨A, n, c, bs, rfl, by rw [← hb]; exact hr, hn⟩
theorem cellsByte : Tryd.prog.cellsOf 5 = 1 := by kernel_rfl

theorem laidOut : laidOutB Tryd.prog = true := by kernel_rfl
theorem own : ownKnob Tryd.prog.godebug = none := by kernel_rfl
end Go.Proofs.YtplchjeamooliaaDoor


/-
  One world in which the tables of unicode/utf8 are laid (for the witness), where the row lists no table of strconv.
-/

namespace Go.Proofs.YtplchjeamooliaaDoor
set_option maxRecDepth 100000
open Go.ChangeShapes Go.WideShapes Go.ChangeAt Go.RowKit

def onCells (cs : Array Value) : Obj → Obj
  | .cells _ t frozen => .cells cs t frozen
  | o => o
/-- A datum as cells, one after the other. -/
noncomputable def flat1 : DataW Unit → List Value
  | .lit (.int k z) => [.int k z]
  | _ => []
noncomputable def flat2 : DataW Unit → List Value
  | .lit (.int k z) => [.int k z]
  | .agg xs => xs.flatMap flat1
  | _ => []
noncomputable def flat : DataW Unit → List Value
  | .agg xs => xs.flatMap flat2
  | _ => []
noncomputable def laidWorldS (os : Os) : World :=
  { World.holding Tryd.prog os ⟨#[], #[], []⟩ with heap := ((World.holding Tryd.prog os ⟨#[], #[], []⟩).heap.modify 2 (onCells (flat Rows.laid_unicode_utf8_acceptRanges).toArray)).modify 1 (onCells (flat Rows.laid_unicode_utf8_first).toArray) }
end Go.Proofs.YtplchjeamooliaaDoor
