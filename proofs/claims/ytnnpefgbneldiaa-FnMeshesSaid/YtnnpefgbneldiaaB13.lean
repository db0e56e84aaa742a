/-
  Words and contracts that the laws lean on, bundled: CntM, MeshS, MeshT, MeshC, Jots, MofI, MofS, PutN, InvMS.
-/
import Derived.Test.YtnnpefgbneldiaaB12
import Derived.Test.YtnnpefgbneldiaaB10
import Derived.Test.YtnnpefgbneldiaaB2
import Derived.Test.YtnnpefgbneldiaaB3
import Derived.Test.YtnnpefgbneldiaaB6
import Derived.Test.YtnnpefgbneldiaaB7
import Derived.BigQuiet
import Derived.Test.YtnnpefgbneldiaaB9
import Derived.Laws.BitsLemmas
import Derived.Laws.Bits64b
import Derived.Deep.RegionLaw
import Derived.Test.YtnnpefgbneldiaaB11

/-
  impl.CountMesh: a loop over the shaded occurrences that counts them.
-/

namespace Go.Proofs.Ytnnpefgbneldiaa
set_option maxRecDepth 100000
open Go.RowKit Go.Shelf
attribute [local go_sem] Oper.semAt_some

theorem chR_room_all9 : ∀ n, n < 9 → ∀ k, k < 9 → (chR n k).length ≤ 256 := by decide +kernel
theorem chR_room9 {n k : Nat} (hn : n ≤ 8) (hk : k ≤ 8) : (chR n k).length ≤ 256 := chR_room_all9 n (by omega) k (by omega)
theorem mesh_two {q : List Int} {S : List (List Int)} (h : meshOK q S = true) : ∀ z ∈ S, z.length = 2 := fun z hz => by
  obtain ⟨k, hk⟩ := List.getElem?_of_mem hz
  have := boxesK_box (meshOK_iff.1 h).2.2 (List.getElem?_eq_some_iff.1 hk).1
  rw [getD_of hk] at this
  unfold boxOK at this
  simp only [Bool.and_eq_true, decide_eq_true_eq] at this
  exact this.1.1
theorem keep_two' {B : Nat} {wr w : World} {p q : Addr} {v u : Value} (h : wr.cell? p = some v) (h' : wr.cell? q = some u) (hp : p.block < B) (hq : q.block < B) (hb : Below B wr w) : w.cell? p = some v ∧ w.cell? q = some u ∧ Below B wr w := ⟨(hb.cell hp).trans h, (hb.cell hq).trans h', hb⟩
set_option maxRecDepth 100000 in
set_option maxHeartbeats 4000000 in
theorem cntm_yes (A A' P : Option Addr) (n c B n' c' B' m d : Nat) (p q : List Int) (S : List (List Int)) (w : World) (h : Arg w B A n c p) (h' : Arg w B' A' n' c' q) (h2 : AtS w P m S) (hm : m ≤ 1048576) (hp : isP p = true) (hok : meshOK q S = true) :
    Calls Try.prog 41 #[.slice A n c, .agg #[.slice A' n' c', .slice P m d]] w (GivesN w ((meshR p q S).length : Nat)) := by
  obtain ⟨hq, _, _⟩ := meshOK_iff.1 hok
  have hn8 : n ≤ 8 := by have := isP_le hp; have := h.len; omega
  have hn8' : n' ≤ 8 := by have := isP_le hq; have := h'.len; omega
  have hBu := h.under
  have hBu' := h'.under
  obtain ⟨w0, hw0⟩ : ∃ w0, w0 = w.alloc (.cells #[.slice A' n' c', .slice P m d] 47) := ⟨_, rfl⟩
  have b0 : Below w.heap.size w w0 := by rw [hw0]; exact (Below.refl _ w).alloc (Nat.le_refl _) _
  have g0 : Whole w0 w.heap.size 47 #[.slice A' n' c', .slice P m d] := by rw [hw0]; exact Whole.new _ _ _
  have H1 := hide (iisperm_any A n c B p true hp w0 (h.below b0).reads (h.below b0).under h.le h.small)
  have H2 := hide (show ∀ w1, Below w.heap.size w w1 → _ from fun w1 d1 => imesh_any A' P n' c' B' m d q S w1 (h'.below d1) (h2.below d1) hm)
  have H3 := hide (show ∀ w2, Below w.heap.size w w2 → _ from fun w2 d2 => ishading_any P m d S w2 (h2.below d2) hm (mesh_two hok))
  have H4 := hide (fun g w2 => ishd_made A A' n c n' c' g w2)
  rw [hok] at H2
  have HT := hide (show ∀ w6, Below w.heap.size w w6 → ∀ bc g, w.heap.size < bc → bc < g → Boxes w6 g m S → TellsZ Fence.wide 3 Try.prog 99 #[.pointer (some ⟨w6.heap.size, 0, none⟩), .pointer (some ⟨w6.heap.size + 1, 0, none⟩), .pointer (some ⟨w6.heap.size + 2, 0, none⟩)] 11 (fun x : Value × List Int => #[x.1]) (KnH p q S)
      (Keep (fun k => k < w6.heap.size + 16 ∧ k ≠ bc ∧ k ≠ w6.heap.size + 3 ∧ k ≠ w6.heap.size + 4)) (fun xs => xs.map (·.2) = meshR p q S) (AllH p q S) 256 (((w6.alloc (.cells #[.slice A n c] 24)).alloc (.cells #[.slice A' n' c'] 24)).alloc (.cells #[.map (some g)] 78)) from fun w6 d6 bc g hbc hg hB => by
    have d7 : Below w6.heap.size w6 (((w6.alloc (.cells #[.slice A n c] 24)).alloc (.cells #[.slice A' n' c'] 24)).alloc (.cells #[.map (some g)] 78)) := (((Below.refl _ w6).alloc (Nat.le_refl _) _).alloc (by simp) _).alloc (by simp; omega) _
    have b2 := Boxed.new (w6.alloc (.cells #[.slice A n c] 24)) 24 (.slice A' n' c')
    have b3 := Boxed.new ((w6.alloc (.cells #[.slice A n c] 24)).alloc (.cells #[.slice A' n' c'] 24)) 78 (.map (some g))
    simp only [World.size_alloc] at b2 b3
    have hgl := hB.lt
    have hw := d6.size
    exact shd_tell A A' n c B n' c' B' p q S hp hq _ w6.heap.size (w6.heap.size + 1) (w6.heap.size + 2) g m 256 _ (h.below (below_after d6 d7)) (h'.below (below_after d6 d7)) (Boxed.alloc (Boxed.alloc (Boxed.new w6 _ _) _) _) (Boxed.alloc b2 _) b3 (hB.later d7)
      ⟨fun k hk => by omega, fun k hk => by omega, by omega, by omega, by omega, by omega, fun k h1 h2 => by simp at h1 h2; omega⟩ 3 (chR_room9 hn8 hn8'))
  refine (callsIn_wide (n := 4)).1 ?_
  refine callsIn_of_wp_marks Try.func41 rfl trivial ?_ rfl
  simp only [Try.ntmps41, List.size_toArray, List.length_cons, List.length_nil, Nat.reduceAdd, Nat.reduceSub, Array.replicate_succ, Array.replicate_zero, List.push_toArray, List.append_toArray, List.nil_append, List.cons_append]
  have HW0 := hide hw0
  clear h h' h2 hp hq hok hBu hBu' hw0
  gi_wp2_with fail
  rw [← unhide HW0]
  refine ⟨trivial, ?_⟩
  refine (callsIn_wide.2 (unhide H1)).mono ?_
  rintro e w1 ⟨rfl, d1⟩
  have d1' := below_after b0 d1
  have g1 := g0.below d1 g0.lt
  have x0 := g1.cell 0
  have x1 := g1.cell 1
  simp only [List.getElem?_toArray, List.getElem?_cons_zero, List.getElem?_cons_succ] at x0 x1
  have HX := hide (unhide H2 w1 d1')
  clear H1 H2 g0 b0 d1 HW0
  gi_wp2_with fail
  refine ⟨trivial, ?_⟩
  refine (callsIn_wide.2 (unhide HX)).mono ?_
  rintro e w2 ⟨rfl, d2⟩
  have d2' := below_after d1' d2
  have g2 := g1.below d2 g1.lt
  obtain ⟨bc, hbc⟩ : ∃ b, b = w2.heap.size := ⟨_, rfl⟩
  have hbcw : w.heap.size < bc := by have := g2.lt; omega
  obtain ⟨w3, hw3⟩ : ∃ w3, w3 = w2.alloc (.cells #[.int .i64 0] 3) := ⟨_, rfl⟩
  have hs3 : w3.heap.size = bc + 1 := by rw [hw3]; simp [hbc]
  have b23 : Below w2.heap.size w2 w3 := by rw [hw3]; exact (Below.refl _ w2).alloc (Nat.le_refl _) _
  have d3 := below_after d2' b23
  have g3 := g2.below b23 g2.lt
  have cc3 : Boxed w3 bc 3 (.int .i64 0) := by rw [hw3, hbc]; exact Boxed.new w2 _ _
  have z0 := g3.cell 0
  have z1 := g3.cell 1
  simp only [List.getElem?_toArray, List.getElem?_cons_zero, List.getElem?_cons_succ] at z0 z1
  have l0 : w.heap.size < w3.heap.size := by omega
  have hbd := Below.refl w3.heap.size w3
  have HW3 := hide hw3
  have HG := hide (⟨d3, cc3, hs3, hbc⟩ : Below w.heap.size w w3 ∧ Boxed w3 bc 3 (.int .i64 0) ∧ w3.heap.size = bc + 1 ∧ bc = w2.heap.size)
  have H3' := hide (unhide H3 w3.drew d3.drew)
  clear HX d1' g1 x0 x1 d2 d2' g2 b23 d3 g3 cc3 hs3 hw3 hbc H3
  gi_wp2
  rw [← (unhide HG).2.2.2, ← unhide HW3]
  refine wpIn_wide.2 ?_
  go_region_held3 (fun w' => w'.cell? ⟨w.heap.size, 0, none⟩ = some (.slice A' n' c') ∧ w'.cell? ⟨w.heap.size, 1, none⟩ = some (.slice P m d) ∧ Below w3.heap.size w3 w') ((refine keep_two' z0 z1 l0 l0 ?_; first | assumption | (apply Below.drew; assumption)))
    (first
      | (go_at_call 75; refine (unhide H3').mono ?_; rintro e w6 ⟨rfl, hB6, hb6⟩; have hb6' : Below w3.heap.size w3 w6 := below_after (hbd.drew) hb6)
      | (go_at_call 74; refine (unhide H4 _ _).mono ?_; rintro e w7 ⟨rfl, hw7⟩; have hb7 : Below w3.heap.size w3 w7 := below_after hb6' (by rw [hw7]; exact (((Below.refl _ w6).alloc (Nat.le_refl _) _).alloc (by simp) _).alloc (by simp; omega) _); have HW7 := hide hw7; clear hw7))
  obtain ⟨d3, cc3, hs3, hbc2⟩ := unhide HG
  have hseq := unhide HT w6 (below_after d3 hb6') bc w3.heap.size hbcw (by omega) hB6
  rw [← unhide HW7] at hseq
  have hs7 : w7.heap.size = w6.heap.size + 3 := by rw [unhide HW7]; simp
  have cc7 : Boxed w7 bc 3 (.int .i64 0) := boxed_later cc3 hb7
  have d7 : Below w.heap.size w w7 := below_after d3 hb7
  have hs6 : bc < w6.heap.size := by have := hb6'.size; omega
  clear HG H3' H4 HT HW3 HW7 d3 cc3 hB6 hb6 hb6' hb7 hbd z0 z1 l0 hbc2
  gi_wp2
  refine range_zone rfl (by decide) (gf := 99) (lb := #[.pointer (some ⟨w6.heap.size, 0, none⟩), .pointer (some ⟨w6.heap.size + 1, 0, none⟩), .pointer (some ⟨w6.heap.size + 2, 0, none⟩)]) rfl trivial (enters_of Try.func99 (by kernel_rfl) rfl)
    hseq (fun h k => h.trans k) (fun W r r' hd => Keep.putObj W (by omega) _) (fun _ => rfl) (fun U V x r r' hdU hdV h => ⟨kn_row _ U V x r r' hdU hdV h.1, h.2⟩)
    (fun pre V => Boxed V bc 3 (.int .i64 (pre.length : Nat)) ∧ Below w.heap.size w V ∧ w6.heap.size + 3 ≤ V.heap.size)
    (fun _ _ _ => False)
    (fun pre U V h hb' => ⟨Boxed.but h.1 hb' (by omega), h.2.1.trans (hb'.below (by omega) (by have := h.2.2; omega)), Nat.le_trans h.2.2 hb'.size⟩)
    (fun _ _ _ _ h _ => h)
    ⟨cc7, d7, by omega⟩
    (fun x => { tmps := #[.slice A n c, .agg #[.slice A' n' c', .slice P m d], undef, .pointer (some ⟨w.heap.size, 0, none⟩), .int .i64 0, .pointer (some ⟨bc, 0, none⟩), .slice A n c, .bool true, .bool false, .bool false, .agg #[.slice A' n' c', .slice P m d], .bool true, .bool false, .bool false,
      .slice A n c, .pointer (some ⟨w.heap.size, 0, none⟩), .slice A' n' c', .pointer (some ⟨w.heap.size, 1, none⟩), .slice P m d, .map (some w3.heap.size),
      .func (.func 99) #[] #[.pointer (some ⟨w6.heap.size, 0, none⟩), .pointer (some ⟨w6.heap.size + 1, 0, none⟩), .pointer (some ⟨w6.heap.size + 2, 0, none⟩)], x.1, undef, undef, undef], defers := [] }) ?assign ?body ?done ?stop
  case assign =>
    intro l x W K hK
    gi_wp2
    simp only [← Array.foldl_toList, Array.toList_zip, List.zip_cons_cons, List.zip_nil_left, List.foldl_cons, List.foldl_nil]
    exact hK
  case body =>
    rintro l pre ⟨u, zs⟩ U W ⟨hcU, hBU, hsU⟩ hzU hbU _ hlen
    dsimp only
    have hc := boxed_later hcU hbU
    have hBW := below_after hBU hbU
    have hsW := Nat.le_trans hsU hbU.size
    have hcell := hc.cell
    have hfz := hc.frozen
    have hg := grownBy_setCell' W bc (.int .i64 ((pre.length : Nat) + 1))
    have hg1 := hg.size
    have hend : (∀ r, Desk w7.heap.size r W → Desk w7.heap.size r (W.setCell ⟨bc, 0, none⟩ (.int .i64 ((pre.length : Nat) + 1)))) ∧ Keep (fun k => k < w6.heap.size + 16 ∧ k ≠ bc ∧ k ≠ w6.heap.size + 3 ∧ k ≠ w6.heap.size + 4) W (W.setCell ⟨bc, 0, none⟩ (.int .i64 ((pre.length : Nat) + 1))) ∧
        Boxed (W.setCell ⟨bc, 0, none⟩ (.int .i64 ((pre.length : Nat) + 1))) bc 3 (.int .i64 ((pre ++ [((u : Value), zs)]).length : Nat)) ∧ Below w.heap.size w (W.setCell ⟨bc, 0, none⟩ (.int .i64 ((pre.length : Nat) + 1))) ∧ w6.heap.size + 3 ≤ (W.setCell ⟨bc, 0, none⟩ (.int .i64 ((pre.length : Nat) + 1))).heap.size :=
      ⟨fun r hd => ⟨(hg.block _ hd.lt (by simp; omega)).trans hd.rec_, (hg.block _ (by have := hd.lt; omega) (by simp; omega)).trans hd.marks⟩,
       Keep.setCell W (by omega) _, by have h1 := Boxed.set (.int .i64 ((pre.length : Nat) + 1)) hc; rw [List.length_append]; exact h1, hBW.setCell (p := ⟨bc, 0, none⟩) (by show w.heap.size ≤ bc; omega) _, by omega⟩
    have hwr : IntKind.i64.wrap ((pre.length : Nat) + 1) = ((pre.length : Nat) : Int) + 1 := by rw [IntKind.wrap_i64]; omega
    have HEND := hide hend
    clear hend hc hBW hsW hcU hBU hsU hg hg1 hseq d7 cc7 hs7 hs3
    gi_wp2
    exact unhide HEND
  case done =>
    rintro ys W hS ⟨hc, hB, hs⟩ hK
    have hcell := hc.cell
    rw [show ys.length = (meshR p q S).length from by rw [← hS, List.length_map]] at hcell
    have hBP : Below w.heap.size w (W.putObj w7.heap.size (.deferred none)) := hB.trans ((Below.refl _ W).grown (grownBy_putObj' W _ _) (by omega) (fun k e => by cases e; omega))
    clear hc hs7 hseq d7 cc7 hB hs3
    gi_wp2
    refine ⟨by simp, .inl ⟨_, _, rfl, run_takeDeferred hK, ?_⟩⟩
    refine ⟨_, results_tmp rfl _ _ _, ?_⟩
    exact ⟨rfl, hBP⟩
  case stop =>
    rintro c pre W _ h _
    exact h.elim
set_option maxHeartbeats 800000 in
theorem icntm_any (A A' P : Option Addr) (n c B n' c' B' m d : Nat) (p q : List Int) (S : List (List Int)) (w : World) (h : Arg w B A n c p) (h' : Arg w B' A' n' c' q) (h2 : AtS w P m S) (hm : m ≤ 1048576) :
    Calls Try.prog 41 #[.slice A n c, .agg #[.slice A' n' c', .slice P m d]] w (GivesN w (numMesh p q S)) := by
  obtain ⟨bp, hp⟩ : ∃ b, isP p = b := ⟨_, rfl⟩
  obtain ⟨bn, hok⟩ : ∃ b, meshOK q S = b := ⟨_, rfl⟩
  cases bp with
  | false =>
    obtain ⟨w0, hw0⟩ : ∃ w0, w0 = w.alloc (.cells #[.slice A' n' c', .slice P m d] 47) := ⟨_, rfl⟩
    have b0 : Below w.heap.size w w0 := by rw [hw0]; exact (Below.refl _ w).alloc (Nat.le_refl _) _
    have H1 := hide (iisperm_any A n c B p false hp w0 (h.below b0).reads (h.below b0).under h.le h.small)
    rw [numMesh_no (.inl hp)]
    have HW0 := hide hw0
    clear h h' h2 hp hok hw0
    go_enter Try.func41, Try.ntmps41
    go_wp2_with fail
    rw [← unhide HW0]
    refine (unhide H1).mono ?_
    rintro e w1 ⟨rfl, d1⟩
    have d := below_after b0 d1
    clear H1 HW0 b0 d1
    go_wp2
    go_ret
    exact ⟨rfl, d⟩
  | true =>
    cases bn with
    | true =>
      rw [numMesh_yes hp hok]
      exact cntm_yes A A' P n c B n' c' B' m d p q S w h h' h2 hm hp hok
    | false =>
      obtain ⟨w0, hw0⟩ : ∃ w0, w0 = w.alloc (.cells #[.slice A' n' c', .slice P m d] 47) := ⟨_, rfl⟩
      have b0 : Below w.heap.size w w0 := by rw [hw0]; exact (Below.refl _ w).alloc (Nat.le_refl _) _
      have g0 : Whole w0 w.heap.size 47 #[.slice A' n' c', .slice P m d] := by rw [hw0]; exact Whole.new _ _ _
      have H1 := hide (iisperm_any A n c B p true hp w0 (h.below b0).reads (h.below b0).under h.le h.small)
      have H2 := hide (show ∀ w1, Below w.heap.size w w1 → _ from fun w1 d1 => imesh_any A' P n' c' B' m d q S w1 (h'.below d1) (h2.below d1) hm)
      rw [hok] at H2
      rw [numMesh_no (.inr hok)]
      have HW0 := hide hw0
      clear h h' h2 hp hok hw0
      go_enter Try.func41, Try.ntmps41
      go_wp2_with fail
      rw [← unhide HW0]
      refine (unhide H1).mono ?_
      rintro e w1 ⟨rfl, d1⟩
      have d1' := below_after b0 d1
      have g1 := g0.below d1 g0.lt
      have x0 := g1.cell 0
      have x1 := g1.cell 1
      simp only [List.getElem?_toArray, List.getElem?_cons_zero, List.getElem?_cons_succ] at x0 x1
      have HX := hide (unhide H2 w1 d1')
      clear H1 H2 HW0 b0 d1 g0 g1
      go_wp2_with fail
      refine (unhide HX).mono ?_
      rintro e w2 ⟨rfl, d2⟩
      have d := below_after d1' d2
      clear HX d1' d2
      go_wp2
      go_ret
      exact ⟨rfl, d⟩
end Go.Proofs.Ytnnpefgbneldiaa


/-
  spec.l9Box, spec.l9Fits, spec.l9Count, by their contracts.
-/

namespace Go.Proofs.Ytnnpefgbneldiaa
set_option maxRecDepth 100000
open Go.RowKit

theorem cnt_step {l : List Int} {k : Nat} {z v : Int} (h : l[k]? = some z) : ((cnt (l.take k) v : Nat) : Int) + bitI (decide (z < v)) = (cnt (l.take (k + 1)) v : Nat) := by
  rw [take_snoc_i h, cnt_snoc]
  by_cases e : z < v
  · rw [decide_eq_true e, if_pos e]; simp [bitI]
  · rw [decide_eq_false e, if_neg e]; simp [bitI]
theorem Ints.lit (w : World) (B : Nat) (hB : B ≤ w.heap.size) (l : List Int) (hl : l.length ≤ 1048576) : Ints (w.alloc (.cells (arr l) 3)) B (.slice (some ⟨w.heap.size, 0, none⟩) l.length l.length) l :=
  Ints.of_own (by
    have := World.ownsRow_lit (base := B) (e := 3) (size := 1) w (arr l) l.length hB (by unfold maxLen; omega) (by rw [arr_size]; omega)
    rwa [show (arr l).toList = i64s l from rfl] at this)
theorem bit_range (b : Bool) : 0 ≤ bitI b ∧ bitI b ≤ 1 := by cases b <;> simp [bitI]
set_option maxHeartbeats 800000 in
theorem l9box_any (A A' : Option Addr) (n c B m d B' : Nat) (p pl : List Int) (i : Nat) (w : World) (h : Arg w B A n c p) (h' : Arg w B' A' m d pl) (hok : PlOK n pl) (hi : i < n) (hn8 : n ≤ 8) :
    Calls Try.prog 126 #[.slice A n c, .slice A' m d, .int .i64 ((i : Int) + 1)] w (GivesI w (boxAt p pl i)) := by
  have hl := h.len
  have hl' := h'.len
  have hr := h.reads
  have hr' := h'.reads
  have hm := h'.le
  obtain ⟨ad0, u0, rfl, _, hu0, hc0⟩ := hr.at_ hi
  obtain ⟨v, hv, rfl⟩ := i64_at hu0
  have ev : at0 p i = v := at0_of hv
  have HB1 := hide (fun (x : Int) w' => bit_any (decide (x < (i : Int) + 1)) w')
  have HB2 := hide (fun (x : Int) w' => bit_any (decide (x < v)) w')
  have HPL := hide (fun k x (hx : pl[k]? = some x) => hok.1 x (List.mem_of_getElem? hx))
  have HS := hide (fun k x (hx : p[k]? = some x) => h.small x (List.mem_of_getElem? hx))
  have hvs := h.small v (List.mem_of_getElem? hv)
  have HL := hide (⟨hl, hl'⟩ : p.length = n ∧ pl.length = m)
  have HE := hide ev
  obtain ⟨NP, hNP⟩ : ∃ NP, NP = nums p pl := ⟨_, rfl⟩
  have HNP := hide hNP
  have hml : m ≤ 1048576 := hm
  clear h h' hok hl hl' hu0 hv ev hNP
  go_enter Try.func126, Try.ntmps126
  go_wp2
  go_loopw [7, 8, 9] (fun x y k wr => ∃ j : Nat, j ≤ m ∧ k = .int .i64 j ∧ x = .int .i64 (cnt (pl.take j) ((i : Int) + 1) : Nat) ∧ y = .int .i64 (cnt (NP.take j) v : Nat) ∧ Drew w wr) (fun _ _ k _ => m - (intOf k).toNat)
  case atStart => exact ⟨0, Nat.zero_le _, rfl, rfl, rfl, Drew.refl _⟩
  case round =>
    obtain ⟨j, hj, rfl, rfl, rfl, hd⟩ := hrel
    have c1 : cnt (pl.take j) ((i : Int) + 1) ≤ j := Nat.le_trans (cnt_le _ _) (List.length_take_le _ _)
    have c2 : cnt (NP.take j) v ≤ j := Nat.le_trans (cnt_le _ _) (List.length_take_le _ _)
    by_cases hlt : j < m
    · obtain ⟨ad, u, rfl, _, hu, hc⟩ := (hr'.ofDrew hd).at_ hlt
      obtain ⟨z, hz, rfl⟩ := i64_at hu
      have hzr := unhide HPL j z hz
      obtain ⟨ad1, u1, hA1, _, hu1, hc1⟩ := (hr.ofDrew hd).at_ (show z.toNat - 1 < n by omega)
      obtain rfl : ad0 = ad1 := by injection hA1
      obtain ⟨y, hy, rfl⟩ := i64_at hu1
      have hys := unhide HS _ y hy
      have hnp : NP[j]? = some y := by
        rw [unhide HNP, show (nums p pl)[j]? = some (at0 (nums p pl) j) from at0_some (by rw [nums_length]; have := (unhide HL).2; omega), nums_at0 (by have := (unhide HL).2; omega), show at0 pl j = z from at0_of hz, at0_of hy]
      have s1 := cnt_step (v := (i : Int) + 1) hz
      have s2 := cnt_step (v := v) hnp
      have r1 := bit_range (decide (z < (i : Int) + 1))
      have r2 := bit_range (decide (y < v))
      have H1 := hide (unhide HB1 z)
      have H2 := hide (unhide HB2 y)
      obtain ⟨b1, hb1⟩ : ∃ b, b = bitI (decide (z < (i : Int) + 1)) := ⟨_, rfl⟩
      obtain ⟨b2, hb2⟩ : ∃ b, b = bitI (decide (y < v)) := ⟨_, rfl⟩
      rw [← hb1] at s1 r1 H1
      rw [← hb2] at s2 r2 H2
      have hw1 : IntKind.i64.wrap (z - 1) = z - 1 := by rw [IntKind.wrap_i64]; omega
      have hi2 : (z - 1).toNat = z.toNat - 1 := by omega
      have hbd1 : 0 ≤ z - 1 := by omega
      have hbd2 : z - 1 < (n : Int) := by omega
      have hw3 : IntKind.i64.wrap ((i : Int) + 1 - 1) = (i : Int) := by rw [IntKind.wrap_i64]; omega
      have hw4 : IntKind.i64.wrap (i : Int) = (i : Int) := by rw [IntKind.wrap_i64]; omega
      have hbd3 : (0 : Int) ≤ (i : Int) := by omega
      have hbd4 : (i : Int) < (n : Int) := by omega
      have hc0' := (hd.cell (ad0.add i)).trans hc0
      have hwa : IntKind.i64.wrap ((cnt (pl.take j) ((i : Int) + 1) : Nat) + b1) = ((cnt (pl.take j) ((i : Int) + 1) : Nat) : Int) + b1 := by rw [IntKind.wrap_i64]; omega
      have hwb : IntKind.i64.wrap ((cnt (NP.take j) v : Nat) + b2) = ((cnt (NP.take j) v : Nat) : Int) + b2 := by rw [IntKind.wrap_i64]; omega
      have S1 := hide s1
      have S2 := hide s2
      have HD := hide hd
      clear s1 s2 hb1 hb2 hu hu1 hz hy hnp hd hr hr' hzr hA1
      go_wp2_with fail
      refine (unhide H1 _).mono ?_
      rintro e w1 ⟨rfl, hw⟩
      subst hw
      clear H1
      go_wp2
      go_quiet ((go_at_call 58; exact Calls.quiet_of_same (unhide H2 _)))
      go_wp2
      go_roundw
      case rel => exact ⟨j + 1, by omega, by go_num, by rw [unhide S1], by rw [unhide S2], (unhide HD).more _⟩
      case measure => simp [intOf]; omega
    · obtain rfl : j = m := by omega
      have e1 : pl.take j = pl := List.take_of_length_le (Nat.le_of_eq (unhide HL).2)
      have e2 : NP.take j = NP := List.take_of_length_le (by rw [unhide HNP, nums_length]; exact Nat.le_of_eq (unhide HL).2)
      rw [e1, e2]
      rw [e1] at c1
      rw [e2] at c2
      have s1 : ((cnt pl ((i : Int) + 1) : Nat) : Int) = (cnt pl ((i : Int) + 1) : Nat) := rfl
      have HD := hide hd
      clear hd hr hr'
      go_wp2
      go_ret
      have hd := unhide HD
      have hI := Ints.lit wr w.heap.size (Nat.le_of_eq hd.size.symm) [(cnt pl ((i : Int) + 1) : Int), (cnt NP v : Int)] (by simp)
      have e3 : boxAt p pl i = [(cnt pl ((i : Int) + 1) : Int), (cnt NP v : Int)] := by
        unfold boxAt
        rw [unhide HE, unhide HNP]
      rw [e3]
      exact GivesI.mk hI ((hd.below _).alloc (Nat.le_of_eq hd.size.symm) _)
set_option maxHeartbeats 800000 in
theorem l9fits_any (A A' A2 : Option Addr) (n c B m d B' k2 c2 : Nat) (p pl : List Int) (S : List (List Int)) (w : World) (h : Arg w B A n c p) (h' : Arg w B' A' m d pl) (hS : AtS w A2 k2 S) (hk2 : k2 ≤ 1048576) (hok : PlOK n pl) (hn8 : n ≤ 8) :
    Calls Try.prog 107 #[.slice A n c, .slice A' m d, .slice A2 k2 c2] w (GivesB w (fitsM p pl S)) := by
  have hl := h.len
  have H1 := hide (fun (i : Nat) (b : Bool) (hb : decide ((i : Int) + 1 ∈ pl) = b) (w1 : World) (hb1 : Below w.heap.size w w1) => l2has_any A' m d B' pl ((i : Int) + 1) b hb w1 (h'.below hb1).reads (Nat.le_trans h'.le (by decide)))
  have H2 := hide (fun (i : Nat) (hi : i < n) (w1 : World) (hb1 : Below w.heap.size w w1) => l9box_any A A' n c B m d B' p pl i w1 (h.below hb1) (h'.below hb1) hok hi hn8)
  have HX := hide (fun (i : Nat) (hi : i < n) => show Small (boxAt p pl i) from by
    have c1 : cnt pl ((i : Int) + 1) ≤ pl.length := cnt_le _ _
    have c2 : cnt (nums p pl) (at0 p i) ≤ pl.length := Nat.le_trans (cnt_le _ _) (by rw [nums_length]; exact Nat.le_refl _)
    have := h'.le
    have := h'.len
    intro z hz
    unfold boxAt at hz
    simp only [List.mem_cons, List.not_mem_nil, or_false] at hz
    rcases hz with rfl | rfl <;> omega)
  obtain ⟨b, hb⟩ : ∃ b, fitsM p pl S = b := ⟨_, rfl⟩
  rw [hb]
  have HB := hide hb
  have HL := hide hl
  have HS := hide hS
  clear h h' hok hb hl hS
  go_enter Try.func107, Try.ntmps107
  go_wp2
  go_loopw [7, 8, 9] (fun a _ _ wr => ∃ i : Nat, i ≤ n ∧ a = .int .i64 ((i : Int) + 1) ∧ Below w.heap.size w wr ∧ Hid (∀ j, j < i → ¬ (j : Int) + 1 ∈ pl → ¬ boxAt p pl j ∈ S)) (fun a _ _ _ => n + 1 - (intOf a).toNat)
  case atStart => exact ⟨0, Nat.zero_le _, rfl, Below.refl _ _, fun j hj => absurd hj (Nat.not_lt_zero _)⟩
  case round =>
    obtain ⟨i, hi, rfl, hbr, hs⟩ := hrel
    by_cases hlt : i < n
    · by_cases hm : (i : Int) + 1 ∈ pl
      · have H3 := hide (unhide H1 i true (decide_eq_true hm) _ hbr)
        have hnext : Hid (∀ j, j < i + 1 → ¬ (j : Int) + 1 ∈ pl → ¬ boxAt p pl j ∈ S) := hide (fun j hj hj2 => by
          by_cases e : j = i
          · subst e; exact absurd hm hj2
          · exact unhide hs j (by omega) hj2)
        have HBR := hide hbr
        clear hm hs hbr
        go_wp2_with fail
        refine (unhide H3).mono ?_
        rintro e w1 ⟨rfl, hw⟩
        subst hw
        clear H3
        go_wp2
        go_roundw
        case rel => exact ⟨i + 1, by omega, by go_num, unhide HBR, hnext⟩
        case measure => simp [intOf]; omega
      · have H3 := hide (unhide H1 i false (decide_eq_false hm) _ hbr)
        have H4 := hide (unhide H2 i hlt _ hbr)
        have HM := hide hm
        clear hm
        go_wp2_with fail
        refine (unhide H3).mono ?_
        rintro e w1 ⟨rfl, hw⟩
        subst hw
        clear H3
        go_wp2_with fail
        refine (unhide H4).mono ?_
        rintro e w2 ⟨Ab, cb, rfl, hI, hb2⟩
        have hb2w := below_after hbr hb2
        have HA := hide (fun (wi : World) (hbi : Below w2.heap.size w2 wi) => (hI.arg (by show (2 : Nat) ≤ _; decide) hI.cap (unhide HX i hlt)).below hbi)
        clear H4 hI hb2 hbr
        go_wp2
        go_loopw [9] (fun k wi => ∃ j : Nat, j ≤ k2 ∧ k = .int .i64 j ∧ Below w2.heap.size w2 wi ∧ Hid (¬ boxAt p pl i ∈ S.take j)) (fun k _ => k2 - (intOf k).toNat)
        case atStart => exact ⟨0, Nat.zero_le _, rfl, Below.refl _ _, by show ¬ boxAt p pl i ∈ S.take 0; simp⟩
        case round =>
          obtain ⟨j, hj, rfl, hbi, hsi⟩ := hrel
          by_cases hlt2 : j < k2
          · obtain ⟨ad, Az, cz, z, rfl, hz, hc, hZ⟩ := (unhide HS).2 _ (below_after hb2w hbi) j hlt2
            by_cases hzb : z = boxAt p pl i
            · have H5 := hide (l2same_any Az Ab z.length cz _ _ cb _ z (boxAt p pl i) true (decide_eq_true hzb) _ hZ (unhide HA _ hbi))
              obtain rfl : b = false := by
                refine (unhide HB).symm.trans ?_
                cases hf : fitsM p pl S with
                | false => rfl
                | true => exact absurd (hzb ▸ List.mem_of_getElem? hz) (fitsM_iff.1 hf i (by rw [unhide HL]; exact hlt) (unhide HM))
              clear hz hZ hzb HA HS HX H1 H2
              go_wp2_with fail
              refine (unhide H5).mono ?_
              rintro e w3 ⟨rfl, d3⟩
              have hb3 := below_after (below_after hb2w hbi) (d3.below _)
              clear H5 d3
              go_wp2
              go_ret
              exact ⟨rfl, hb3⟩
            · have H5 := hide (l2same_any Az Ab z.length cz _ _ cb _ z (boxAt p pl i) false (decide_eq_false hzb) _ hZ (unhide HA _ hbi))
              have hnext : Hid (¬ boxAt p pl i ∈ S.take (j + 1)) := hide (by
                rw [List.take_add_one, hz, Option.toList_some]
                intro hh
                rcases List.mem_append.1 hh with hh | hh
                · exact unhide hsi hh
                · exact hzb (List.mem_singleton.1 hh).symm)
              clear hz hZ hzb hsi
              go_wp2_with fail
              refine (unhide H5).mono ?_
              rintro e w3 ⟨rfl, d3⟩
              have HB3 := hide (below_after hbi (d3.below _))
              clear H5 d3
              go_wp2
              go_roundw
              case rel => exact ⟨j + 1, by omega, by go_num, unhide HB3, hnext⟩
              case measure => simp [intOf]; omega
          · obtain rfl : j = k2 := by omega
            have hnext : Hid (∀ j, j < i + 1 → ¬ (j : Int) + 1 ∈ pl → ¬ boxAt p pl j ∈ S) := hide (fun j' hj' hj2 => by
              by_cases e : j' = i
              · subst e
                have := unhide hsi
                rwa [List.take_of_length_le (Nat.le_of_eq (unhide HS).1)] at this
              · exact unhide hs j' (by omega) hj2)
            have HB3 := hide (below_after hb2w hbi)
            clear hs hsi hbi HA
            go_wp2
            go_roundw
            case rel => exact ⟨i + 1, by omega, by go_num, unhide HB3, hnext⟩
            case measure => simp [intOf]; omega
    · obtain rfl : i = n := by omega
      obtain rfl : b = true := (unhide HB).symm.trans (fitsM_iff.2 fun j hj => unhide hs j (by rw [unhide HL] at hj; exact hj))
      clear HB hs H1 H2 HX
      go_wp2
      go_ret
      exact ⟨rfl, hbr⟩
theorem keep_ab {B : Nat} {wr w' : World} {a b : Addr} {u v : Value} (h1 : wr.cell? a = some u) (h2 : wr.cell? b = some v) (ha : a.block < B) (hb : b.block < B) (h : Below B wr w') : w'.cell? a = some u ∧ w'.cell? b = some v ∧ Below B wr w' := ⟨(h.cell ha).trans h1, (h.cell hb).trans h2, h⟩
theorem filter_take {L : List (List Int)} {F : List Int → Bool} {k : Nat} {z : List Int} (hz : L[k]? = some z) : ((((L.take (k + 1)).filter F).length : Nat) : Int) = (((L.take k).filter F).length : Int) + bitI (F z) := by
  rw [List.take_add_one, hz, Option.toList_some, List.filter_append, List.length_append]
  cases h : F z with
  | true => rw [List.filter_cons_of_pos h]; simp [bitI]
  | false => rw [List.filter_cons_of_neg (by simp [h])]; simp [bitI]
set_option maxHeartbeats 1600000 in
theorem l9count_any (A A' A2 : Option Addr) (n c B n' c' B' k2 c2 : Nat) (p q : List Int) (S : List (List Int)) (w : World) (h : Arg w B A n c p) (h' : Arg w B' A' n' c' q) (hS : AtS w A2 k2 S) (hk2 : k2 ≤ 1048576) (hp : isP p = true) (hq : isP q = true) :
    Calls Try.prog 85 #[.slice A n c, .agg #[.slice A' n' c', .slice A2 k2 c2]] w (GivesN w ((meshR p q S).length : Nat)) := by
  obtain ⟨w0, hw0⟩ : ∃ w0, w0 = w.alloc (.cells #[.slice A' n' c', .slice A2 k2 c2] 47) := ⟨_, rfl⟩
  have b0 : Below w.heap.size w w0 := by rw [hw0]; exact (Below.refl _ w).alloc (Nat.le_refl _) _
  have g0 : Whole w0 w.heap.size 47 #[.slice A' n' c', .slice A2 k2 c2] := by rw [hw0]; exact Whole.new _ _ _
  have hn8 : n ≤ 8 := by have := isP_le hp; have := h.len; omega
  unfold meshR
  have hsz := occ_size p q hp
  rw [occR_yes hp hq] at hsz ⊢
  have hs0 : w0.heap.size = w.heap.size + 1 := by rw [hw0, World.size_alloc]
  have H3 := hide (l7find_any q.length A A' n c B n' c' B' w0.heap.size p q (some ⟨w0.heap.size, 0, none⟩) 0 0 [] (.slice (some ⟨w0.heap.size + 1, 0, none⟩) 0 0) [] []
        ((w0.alloc (.cells #[] 3)).alloc (.cells #[] 24)) ((h.below b0).below (((Below.refl _ w0).alloc (Nat.le_refl _) _).alloc (by simp) _)) ((h'.below b0).below (((Below.refl _ w0).alloc (Nat.le_refl _) _).alloc (by simp) _)) (Nat.le_trans h.under b0.size) (Nat.le_trans h'.under b0.size) (by simp; omega) hp hq (by simp) (PlOK.nil _)
        ((Ints.made0 w0 w0.heap.size (Nat.le_refl _)).below ((Below.refl _ _).alloc (Nat.le_refl _) _)) (by have := ownS0 (w0.alloc (.cells #[] 3)) w0.heap.size (by simp); rw [World.size_alloc] at this; exact this) (Inner.nil _ _) (fun x hx => by cases hx) (by simp only [List.length_nil]; omega))
  have HF := hide (show ∀ (w4 : World) (A4 : Option Addr) (c4 B4 : Nat) (z : List Int), z ∈ extL p q q.length [] → Below w.heap.size w w4 → Ints w4 B4 (.slice A4 z.length c4) z → Calls Try.prog 107 #[.slice A n c, .slice A4 z.length c4, .slice A2 k2 c2] w4 (GivesB w4 (fitsM p z S)) from fun w4 A4 c4 B4 z hz hb4 hI => by
    have ho := isOcc_iff.1 (mem_occ.1 (by rw [occR_yes hp hq]; exact hz))
    have hq8 := isP_le hq
    have hzl := ho.2.2.1
    have hp8 := isP_le hp
    exact l9fits_any A A4 A2 n c B z.length c4 _ k2 c2 p z S w4 (h.below hb4) (hI.arg (by omega) hI.cap (fun x hx => by have := ho.2.2.2.1.1 x hx; omega)) (hS.below hb4) hk2 (by rw [← h.len]; exact ho.2.2.2.1) hn8)
  have q0 := g0.cell 0
  simp only [List.getElem?_toArray, List.getElem?_cons_zero] at q0
  obtain ⟨L, hL⟩ : ∃ L, L = extL p q q.length [] := ⟨_, rfl⟩
  rw [← hL] at H3 HF hsz ⊢
  rw [hs0] at H3
  have HW := hide hw0
  rw [hw0] at H3 q0
  clear h h' hp hq hS hL hs0 hw0 hn8
  go_enter Try.func85, Try.ntmps85
  go_wp2_with fail
  refine (unhide H3).mono ?_
  rw [← unhide HW]
  rintro e w3 ⟨v, us, rfl, o3, i3, _, hb3, _⟩
  have hs1 : w.heap.size + 1 = w0.heap.size := by rw [unhide HW, World.size_alloc]
  rw [hs1] at o3 i3 hb3
  have hS3 : IntsS w3 w0.heap.size v L := ⟨us, by simpa using o3, by simpa using i3⟩
  have hx := ((((Below.refl _ w0).alloc (Nat.le_refl _) (.cells #[] 3)).alloc (by simp) (.cells #[] 24))).trans hb3
  have hb := below_after b0 hx
  have g3 := g0.below hx g0.lt
  have q1 := g3.cell 1
  have q2 := g3.lt
  simp only [List.getElem?_toArray, List.getElem?_cons_zero, List.getElem?_cons_succ] at q1
  clear H3 o3 i3 hb3 hx g0 g3 b0 q0 hs1 HW
  obtain ⟨A3, c3, rfl⟩ := hS3.slice
  go_wp2
  go_loopw [5, 7] (fun s i wr => ∃ k : Nat, k ≤ L.length ∧ i = .int .i64 k ∧ s = .int .i64 ((((L.take k).filter fun pl => fitsM p pl S).length : Nat) : Int) ∧ Below w3.heap.size w3 wr) (fun _ i _ => L.length - (intOf i).toNat)
  case atStart => exact ⟨0, Nat.zero_le _, rfl, rfl, Below.refl _ _⟩
  case round =>
    obtain ⟨k, hk, rfl, rfl, hd⟩ := hrel
    by_cases hlt : k < L.length
    · have hb4 := below_after hb hd
      obtain ⟨ad, A4, c4, z, rfl, hz, hcell, hI⟩ := (hS3.below hd).at_ hlt
      have hstep : ((((L.take (k + 1)).filter fun pl => fitsM p pl S).length : Nat) : Int) = (((L.take k).filter fun pl => fitsM p pl S).length : Nat) + bitI (fitsM p z S) := filter_take (F := fun pl => fitsM p pl S) hz
      have q1' := (hd.cell (p := ⟨w.heap.size, 1, none⟩) q2).trans q1
      have hbd := Below.refl wr.heap.size wr
      have HFZ := hide (show ∀ w', Below wr.heap.size wr w' → _ from fun w' d' => unhide HF w' A4 c4 _ z (List.mem_of_getElem? hz) (below_after hb4 d') (hI.below d'))
      obtain ⟨bz, hbz⟩ : ∃ b, fitsM p z S = b := ⟨_, rfl⟩
      rw [hbz] at HFZ hstep
      have hle : ((L.take k).filter fun pl => fitsM p pl S).length ≤ k := by
        have h1 := List.length_filter_le (fun pl => fitsM p pl S) (L.take k)
        rw [List.length_take] at h1; omega
      obtain ⟨s0, hs0⟩ : ∃ s0, s0 = ((L.take k).filter fun pl => fitsM p pl S).length := ⟨_, rfl⟩
      rw [← hs0] at hstep hle ⊢
      have hwr : IntKind.i64.wrap ((s0 : Int) + bitI bz) = (s0 : Int) + bitI bz := by rw [IntKind.wrap_i64]; cases bz <;> simp [bitI] <;> omega
      have HST := hide hstep
      have HDD := hide hd
      have hl1 : (ad.add k).block < wr.heap.size := World.block_lt_of_cell? _ _ hcell
      have hl2 : w.heap.size < wr.heap.size := Nat.lt_of_lt_of_le q2 hd.size
      clear hz hb4 hd hI hbz hstep hs0 HF
      go_wp2
      go_region_held3 (fun w' => w'.cell? (ad.add k) = some (.slice A4 z.length c4) ∧ w'.cell? ⟨w.heap.size, 1, none⟩ = some (.slice A2 k2 c2) ∧ Below wr.heap.size wr w') ((refine keep_ab hcell q1' hl1 hl2 ?_; first | assumption | (apply Below.drew; assumption)))
        (first
          | (go_at_call 107; refine (unhide HFZ _ (by first | assumption | (apply Below.drew; assumption))).mono ?_; rintro e w5 ⟨rfl, hb5⟩; have hb6 : Below wr.heap.size wr w5 := (hbd.drew).trans hb5)
          | (go_at_call 58; refine (bit_any bz _).mono ?_; rintro e w7 ⟨rfl, hw7⟩; subst hw7))
      have HD := hide (below_after (unhide HDD) hb6)
      clear hb5 hb6 hbd HFZ HDD
      go_wp2
      go_roundw
      case rel => exact ⟨k + 1, by omega, by go_num, by rw [unhide HST], unhide HD⟩
      case measure => simp [intOf]; omega
    · obtain rfl : L.length = k := by omega
      have hb4 := below_after hb hd
      rw [List.take_length]
      clear hd hb
      go_wp2
      go_ret
      exact ⟨rfl, hb4⟩
end Go.Proofs.Ytnnpefgbneldiaa


/-
  spec.IsMesh by its contract.
-/

namespace Go.Proofs.Ytnnpefgbneldiaa
set_option maxRecDepth 100000
open Go.RowKit
theorem boxesK_no {n k m : Nat} {S : List (List Int)} (h : boxesK n S (k + 1) = false) (hk : k < m) : boxesK n S m = false := by
  cases e : boxesK n S m with
  | false => rfl
  | true => rw [boxesK_down e hk] at h; cases h
theorem mesh_false {q : List Int} {S : List (List Int)} (h : boxesK q.length S S.length = false) : meshOK q S = false := by unfold meshOK; rw [h, Bool.and_false]
theorem box_two {n : Nat} {x y : Int} : boxOK n [x, y] = (decide (0 ≤ x ∧ x ≤ (n : Int)) && decide (0 ≤ y ∧ y ≤ (n : Int))) := by
  unfold boxOK
  rw [show at0 [x, y] 0 = x from rfl, show at0 [x, y] 1 = y from rfl]
  simp
theorem box_long {n : Nat} {z : List Int} (h : ¬ z.length = 2) : boxOK n z = false := by unfold boxOK; rw [decide_eq_false h]; rfl
set_option maxHeartbeats 16000000 in
theorem smesh_any (A P : Option Addr) (n c B m d : Nat) (q : List Int) (S : List (List Int)) (w : World) (h : Arg w B A n c q) (hS : AtS w P m S) (hm : m ≤ 1048576) :
    Calls Try.prog 50 #[.agg #[.slice A n c, .slice P m d]] w (GivesB w (meshOK q S)) := by
  have hl := h.len
  have hn := h.le
  obtain ⟨w0, hw0⟩ : ∃ w0, w0 = w.alloc (.cells #[.slice A n c, .slice P m d] 47) := ⟨_, rfl⟩
  have b0 : Below w.heap.size w w0 := by rw [hw0]; exact (Below.refl _ w).alloc (Nat.le_refl _) _
  have g0 : Whole w0 w.heap.size 47 #[.slice A n c, .slice P m d] := by rw [hw0]; exact Whole.new _ _ _
  have q0 := g0.cell 0
  have q1 := g0.cell 1
  simp only [List.getElem?_toArray, List.getElem?_cons_zero, List.getElem?_cons_succ] at q0 q1
  obtain ⟨b, hb⟩ : ∃ b, meshOK q S = b := ⟨_, rfl⟩
  obtain ⟨bp, hbp⟩ : ∃ b, isP q = b := ⟨_, rfl⟩
  rw [hb]
  have HB := hide hb
  have HBP := hide hbp
  have HA := hide (fun wr (hd : Drew w0 wr) => sisperm_any A n c B q bp hbp wr (h.below (below_after b0 (hd.below _))).reads h.le h.cap)
  have HL := hide hl
  have HS := hide (hS.below b0)
  have HW := hide hw0
  clear h hl hb hbp g0 hw0 hS
  go_enter Try.func50, Try.ntmps50
  go_wp2
  rw [← unhide HW]
  clear HW
  go_loopw [3, 4] (fun i _ wr => ∃ k : Nat, k ≤ m ∧ i = .int .i64 k ∧ Drew w0 wr ∧ Hid (boxesK q.length S k = true)) (fun i _ _ => m - (intOf i).toNat)
  case atStart => exact ⟨0, Nat.zero_le _, rfl, Drew.refl _, rfl⟩
  case round =>
    obtain ⟨k, hk, rfl, hd, hs⟩ := hrel
    have c0 := (hd.cell ⟨w.heap.size, 0, none⟩).trans q0
    have c1 := (hd.cell ⟨w.heap.size, 1, none⟩).trans q1
    by_cases hlt : k < m
    · obtain ⟨ad, A', c', z, rfl, hz, hcell, hI⟩ := (unhide HS).2 wr (hd.below _) k hlt
      have HD := hide hd
      have HZ := hide hz
      have HI := hide hI
      have hzl := hI.le
      clear q0 q1 hd hz hI
      go_wp2
      by_cases e2 : z.length = 2
      · obtain ⟨x, y, hxy, ad2, hA2, hcx, hcy⟩ : ∃ x y, z = [x, y] ∧ ∃ ad2, A' = some ad2 ∧ wr.cell? (ad2.add 0) = some (.int .i64 x) ∧ wr.cell? (ad2.add 1) = some (.int .i64 y) := by
          match z, e2 with
          | [x, y], _ =>
            obtain ⟨ad2, u, hA, _, hu, hx⟩ := (unhide HI).reads.at_ (show 0 < [x, y].length by simp)
            obtain ⟨ad3, u3, hA3, _, hu3, hx3⟩ := (unhide HI).reads.at_ (show 1 < [x, y].length by simp)
            obtain rfl : ad2 = ad3 := by rw [hA] at hA3; injection hA3
            refine ⟨x, y, rfl, ad2, hA, ?_, ?_⟩
            · rw [hx]; exact hu.symm
            · rw [hx3]; exact hu3.symm
        subst hA2
        obtain ⟨b1, hb1⟩ : ∃ b, decide (0 ≤ x ∧ x ≤ (n : Int)) = b := ⟨_, rfl⟩
        obtain ⟨b2, hb2⟩ : ∃ b, decide (0 ≤ y ∧ y ≤ (n : Int)) = b := ⟨_, rfl⟩
        have HI1 := hide hb1
        have HI2 := hide hb2
        have hbox : boxOK q.length z = (b1 && b2) := by rw [hxy, box_two, unhide HL, hb1, hb2]
        have hK : boxesK q.length S (k + 1) = ((b1 && b2) && (decide (k = 0) || befL (S.getD (k - 1) []) z)) := by
          rw [boxesK, unhide hs, getD_of (unhide HZ), hbox, Bool.true_and]
        have hkm : k < S.length := by have := (unhide HS).1; omega
        have hcx0 : wr.cell? ad2 = some (.int .i64 x) := by rw [show ad2 = ad2.add 0 by unfold Addr.add; split <;> simp_all]; exact hcx
        have hcy0 : wr.cell? ⟨ad2.block, ad2.off + 1, none⟩ = some (.int .i64 y) := by rw [← show ad2.add 1 = ⟨ad2.block, ad2.off + 1, none⟩ by unfold Addr.add; rw [if_neg (by omega)]]; exact hcy
        rw [e2]
        cases b1 with
        | false =>
          obtain rfl : b = false := (unhide HB).symm.trans (mesh_false (boxesK_no (k := k) (by rw [hK]; rfl) hkm))
          clear HB hs hK hkm hbox hb1 hb2 HS HZ HI
          go_quiet (first | (go_at_call 69; exact Calls.quiet_of_same (l1in_any _ _ _ _ (by first | exact unhide HI1 | exact unhide HI2) _)) | (go_at_call 88; exact Calls.quiet_of (unhide HBF _ ⟨_, rfl⟩)))
          go_wp2
          go_ret
          exact ⟨rfl, below_after b0 (((unhide HD).more _).below _)⟩
        | true =>
          cases b2 with
          | false =>
            obtain rfl : b = false := (unhide HB).symm.trans (mesh_false (boxesK_no (k := k) (by rw [hK]; rfl) hkm))
            clear HB hs hK hkm hbox hb1 hb2 HS HZ HI
            go_quiet (first | (go_at_call 69; exact Calls.quiet_of_same (l1in_any _ _ _ _ (by first | exact unhide HI1 | exact unhide HI2) _)) | (go_at_call 88; exact Calls.quiet_of (unhide HBF _ ⟨_, rfl⟩)))
            go_wp2
            go_ret
            exact ⟨rfl, below_after b0 (((unhide HD).more _).below _)⟩
          | true =>
            by_cases h0 : k = 0
            · subst h0
              have hnext : Hid (boxesK q.length S (0 + 1) = true) := hide (by rw [hK]; rfl)
              clear hs hK hkm hbox hb1 hb2 HZ HI
              go_quiet (first | (go_at_call 69; exact Calls.quiet_of_same (l1in_any _ _ _ _ (by first | exact unhide HI1 | exact unhide HI2) _)) | (go_at_call 88; exact Calls.quiet_of (unhide HBF _ ⟨_, rfl⟩)))
              go_wp2
              go_roundw
              case rel => exact ⟨1, by omega, by go_num, (unhide HD).more _, hnext⟩
              case measure => simp [intOf]; omega
            · obtain ⟨k2, rfl⟩ : ∃ k2, k = k2 + 1 := ⟨k - 1, by omega⟩
              obtain ⟨ad5, A5, c5, z5, hA5, hz5, hc5, hI5⟩ := (unhide HS).2 wr ((unhide HD).below _) k2 (by omega)
              obtain rfl : ad = ad5 := by injection hA5
              obtain ⟨bf, hbf⟩ : ∃ bf, befL z5 z = bf := ⟨_, rfl⟩
              rw [show k2 + 1 - 1 = k2 from rfl, getD_of hz5, hbf, decide_eq_false h0, Bool.false_or, Bool.and_self, Bool.true_and] at hK
              have HBF := hide (fun w' (d' : Drew wr w') => l2bef_any A5 (some ad2) z5.length c5 _ z.length c' _ z5 z bf hbf w' (hI5.below (d'.below _)) ((unhide HI).below (d'.below _)))
              rw [e2] at HBF
              have hgt : (0 : Int) < (k2 : Int) + 1 := by omega
              have hwk : IntKind.i64.wrap ((k2 : Int) + 1 - 1) = (k2 : Int) := by rw [IntKind.wrap_i64]; omega
              have hwk' : IntKind.i64.wrap (k2 : Int) = (k2 : Int) := by rw [IntKind.wrap_i64]; omega
              have hb3 : (k2 : Int) < (m : Int) := by omega
              have hb4 : (0 : Int) ≤ (k2 : Int) := by omega
              cases bf with
              | false =>
                obtain rfl : b = false := (unhide HB).symm.trans (mesh_false (boxesK_no hK hkm))
                clear HB hs hK hkm hbox hb1 hb2 HS HZ HI hz5 hI5 h0 hbf
                go_quiet (first | (go_at_call 69; exact Calls.quiet_of_same (l1in_any _ _ _ _ (by first | exact unhide HI1 | exact unhide HI2) _)) | (go_at_call 88; exact Calls.quiet_of (unhide HBF _ ⟨_, rfl⟩)))
                go_wp2
                go_ret
                exact ⟨rfl, below_after b0 (((unhide HD).more _).below _)⟩
              | true =>
                have hnext : Hid (boxesK q.length S (k2 + 1 + 1) = true) := hide hK
                clear hs hK hkm hbox hb1 hb2 HZ HI hz5 hI5 h0 hbf
                go_quiet (first | (go_at_call 69; exact Calls.quiet_of_same (l1in_any _ _ _ _ (by first | exact unhide HI1 | exact unhide HI2) _)) | (go_at_call 88; exact Calls.quiet_of (unhide HBF _ ⟨_, rfl⟩)))
                go_wp2
                go_roundw
                case rel => exact ⟨k2 + 1 + 1, by omega, by go_num, (unhide HD).more _, hnext⟩
                case measure => simp [intOf]; omega
      · obtain rfl : b = false := (unhide HB).symm.trans (mesh_false (boxesK_no (k := k) (by rw [boxesK, getD_of (unhide HZ), box_long e2, Bool.and_false, Bool.false_and]) (by have := (unhide HS).1; omega)))
        have e3 : ¬ (z.length : Int) = 2 := by omega
        have e4 : ((z.length : Int) != 2) = true := by simpa using e3
        clear HB hs
        go_quiet (fail)
        go_wp2
        go_ret
        exact ⟨rfl, below_after b0 (((unhide HD).more _).below _)⟩
    · obtain rfl : m = k := by omega
      have hK : meshOK q S = (bp && decide (n ≤ 4)) := by
        unfold meshOK
        rw [unhide HBP, (unhide HS).1, unhide hs, Bool.and_true, unhide HL]
      have H1 := hide (unhide HA wr hd)
      have hbw := below_after b0 (hd.below _)
      clear HA HBP hs HS q0 q1
      cases bp with
      | false =>
        obtain rfl : b = false := (unhide HB).symm.trans hK
        clear HB hK
        go_wp2_with fail
        refine (unhide H1).mono ?_
        rintro e w2 ⟨rfl, d2⟩
        have hb2 := below_after hbw (d2.below _)
        clear H1 d2 hbw hd
        go_wp2
        go_ret
        exact ⟨rfl, hb2⟩
      | true =>
        go_wp2_with fail
        refine (unhide H1).mono ?_
        rintro e w2 ⟨rfl, d2⟩
        have hb2 := below_after hbw (d2.below _)
        have c2 := (d2.cell ⟨w.heap.size, 0, none⟩).trans c0
        clear H1 d2 hbw hd
        by_cases h4 : n ≤ 4
        · obtain rfl : b = true := (unhide HB).symm.trans (by rw [hK, decide_eq_true h4]; rfl)
          have h5 : (n : Int) ≤ 4 := by omega
          clear HB hK
          go_wp2
          go_ret
          exact ⟨rfl, hb2⟩
        · obtain rfl : b = false := (unhide HB).symm.trans (by rw [hK, decide_eq_false h4]; rfl)
          have h5 : ¬ (n : Int) ≤ 4 := by omega
          clear HB hK
          go_wp2
          go_ret
          exact ⟨by first | rfl | (show Ending.returned (.bool (decide ((n : Int) ≤ 4))) = _; rw [decide_eq_false (by omega)]), hb2⟩
end Go.Proofs.Ytnnpefgbneldiaa


/-
  spec.CountMesh by its contract.
-/

namespace Go.Proofs.Ytnnpefgbneldiaa
set_option maxRecDepth 100000
open Go.RowKit
set_option maxHeartbeats 1600000 in
theorem scntm_any (A A' P : Option Addr) (n c B n' c' B' m d : Nat) (p q : List Int) (S : List (List Int)) (w : World) (h : Arg w B A n c p) (h' : Arg w B' A' n' c' q) (hS : AtS w P m S) (hm : m ≤ 1048576) :
    Calls Try.prog 47 #[.slice A n c, .agg #[.slice A' n' c', .slice P m d]] w (GivesN w (numMesh p q S)) := by
  obtain ⟨w0, hw0⟩ : ∃ w0, w0 = w.alloc (.cells #[.slice A' n' c', .slice P m d] 47) := ⟨_, rfl⟩
  have b0 : Below w.heap.size w w0 := by rw [hw0]; exact (Below.refl _ w).alloc (Nat.le_refl _) _
  have g0 : Whole w0 w.heap.size 47 #[.slice A' n' c', .slice P m d] := by rw [hw0]; exact Whole.new _ _ _
  obtain ⟨bp, hbp⟩ : ∃ b, isP p = b := ⟨_, rfl⟩
  have H1 := hide (show Calls Try.prog 51 #[.slice A n c] (w.alloc (.cells #[.slice A' n' c', .slice P m d] 47)) (fun e w' => e = .returned (.bool bp) ∧ Drew w0 w') from by
    rw [← hw0]; exact sisperm_any A n c B p bp hbp w0 (h.below b0).reads h.le h.cap)
  cases bp with
  | false =>
    rw [numMesh_no (.inl hbp)]
    clear h h' hS hbp hw0 g0
    go_enter Try.func47, Try.ntmps47
    go_wp2_with fail
    refine (unhide H1).mono ?_
    rintro e w1 ⟨rfl, hd⟩
    have hb1 := below_after b0 (hd.below _)
    clear H1 hd b0
    go_wp2
    go_ret
    exact ⟨rfl, hb1⟩
  | true =>
    obtain ⟨bn, hbn⟩ : ∃ b, meshOK q S = b := ⟨_, rfl⟩
    have H2 := hide (show ∀ w1, Drew w0 w1 → Calls Try.prog 50 #[.agg #[.slice A' n' c', .slice P m d]] w1 (GivesB w1 bn) from fun w1 hd => by
      rw [← hbn]; exact smesh_any A' P n' c' B' m d q S w1 (h'.below (below_after b0 (hd.below _))) (hS.below (below_after b0 (hd.below _))) hm)
    cases bn with
    | false =>
      rw [numMesh_no (.inr hbn)]
      clear h h' hS hbp hw0 hbn
      go_enter Try.func47, Try.ntmps47
      go_wp2_with fail
      refine (unhide H1).mono ?_
      rintro e w1 ⟨rfl, hd⟩
      have g1 := g0.below (hd.below (w.heap.size + 1)) (by omega)
      have q0 := g1.cell 0
      have q1 := g1.cell 1
      have q2 := g1.lt
      simp only [List.getElem?_toArray, List.getElem?_cons_zero, List.getElem?_cons_succ] at q0 q1
      have H3 := hide (unhide H2 w1 hd)
      have hb1 := below_after b0 (hd.below _)
      clear H1 H2 hd b0 g0 g1
      go_wp2_with fail
      refine (unhide H3).mono ?_
      rintro e w2 ⟨rfl, d2⟩
      have hb2 := below_after hb1 d2
      clear H3 d2 hb1 q0 q1 q2
      go_wp2
      go_ret
      exact ⟨rfl, hb2⟩
    | true =>
      have hq := (meshOK_iff.1 hbn).1
      rw [numMesh_yes hbp hbn]
      have HO := hide (fun w2 (d2 : Below w.heap.size w w2) => l9count_any A A' P n c B n' c' B' m d p q S w2 (h.below d2) (h'.below d2) (hS.below d2) hm hbp hq)
      clear h h' hS hbp hw0 hbn hq
      go_enter Try.func47, Try.ntmps47
      go_wp2_with fail
      refine (unhide H1).mono ?_
      rintro e w1 ⟨rfl, hd⟩
      have g1 := g0.below (hd.below (w.heap.size + 1)) (by omega)
      have q0 := g1.cell 0
      have q1 := g1.cell 1
      have q2 := g1.lt
      simp only [List.getElem?_toArray, List.getElem?_cons_zero, List.getElem?_cons_succ] at q0 q1
      have H3 := hide (unhide H2 w1 hd)
      have hb1 := below_after b0 (hd.below _)
      clear H1 H2 hd b0 g0
      go_wp2_with fail
      refine (unhide H3).mono ?_
      rintro e w2 ⟨rfl, d2⟩
      have g2 := g1.below d2 q2
      have hb2 := below_after hb1 d2
      clear H3 d2 hb1 q0 q1 q2 g1
      have q0 := g2.cell 0
      have q1 := g2.cell 1
      have q2 := g2.lt
      simp only [List.getElem?_toArray, List.getElem?_cons_zero, List.getElem?_cons_succ] at q0 q1
      have H4 := hide (unhide HO w2 hb2)
      clear HO g2
      go_wp2_with fail
      refine (unhide H4).mono ?_
      rintro e w3 ⟨rfl, d3⟩
      have hb3 := below_after hb2 d3
      clear H4 d3 hb2 q0 q1 q2
      go_wp2
      go_ret
      exact ⟨rfl, hb3⟩
end Go.Proofs.Ytnnpefgbneldiaa


/-
  impl.joints (a bit for each joined number): jointsOf, has, fit; impl.IsNear, by their contracts.
-/

namespace Go.Proofs.Ytnnpefgbneldiaa
set_option maxRecDepth 100000
open Go.RowKit

/-- A bit for each number. -/
def jB (J : List Int) : Nat := J.foldl (fun a j => a ||| 2 ^ j.toNat) 0
theorem jB_nil : jB [] = 0 := rfl
theorem jB_snoc (J : List Int) (x : Int) : jB (J ++ [x]) = jB J ||| 2 ^ x.toNat := by unfold jB; rw [List.foldl_append]; rfl
theorem jB_step {J : List Int} {k : Nat} {x : Int} (hx : J[k]? = some x) : jB (J.take (k + 1)) = jB (J.take k) ||| 2 ^ x.toNat := by rw [take_snoc_i hx, jB_snoc]
theorem jB_lt_aux : ∀ (J : List Int) (a : Nat), a < 512 → (∀ x ∈ J, 0 ≤ x ∧ x ≤ 8) → J.foldl (fun a j => a ||| 2 ^ j.toNat) a < 512
  | [], a, ha, _ => ha
  | x :: J, a, ha, h => by
    rw [List.foldl_cons]
    refine jB_lt_aux J _ ?_ fun y hy => h y (List.mem_cons_of_mem _ hy)
    have hx := h x (List.mem_cons_self ..)
    have h2 : 2 ^ x.toNat < 2 ^ 9 := Nat.pow_lt_pow_right (by decide) (by omega)
    exact Nat.or_lt_two_pow (n := 9) ha h2
theorem jB_lt {J : List Int} (h : ∀ x ∈ J, 0 ≤ x ∧ x ≤ 8) : jB J < 512 := jB_lt_aux J 0 (by decide) h
theorem jB_test_aux (i : Nat) : ∀ (J : List Int) (a : Nat), (∀ x ∈ J, 0 ≤ x) → (J.foldl (fun a j => a ||| 2 ^ j.toNat) a).testBit i = (a.testBit i || decide ((i : Int) ∈ J))
  | [], a, _ => by simp
  | x :: J, a, h => by
    have hx := h x (List.mem_cons_self ..)
    rw [List.foldl_cons, jB_test_aux i J _ fun y hy => h y (List.mem_cons_of_mem _ hy), Nat.testBit_or, Nat.testBit_two_pow, Bool.or_assoc]
    congr 1
    by_cases e : x.toNat = i
    · have e2 : (i : Int) = x := by omega
      simp [e, e2]
    · have e2 : ¬ (i : Int) = x := by omega
      simp [e, e2]
theorem jB_test {J : List Int} (h : ∀ x ∈ J, 0 ≤ x) (i : Nat) : (jB J).testBit i = decide ((i : Int) ∈ J) := by
  unfold jB; rw [jB_test_aux i J 0 h]; simp
theorem bit_testU (s k : Nat) (hs : s < 512) : (bits .and .u64 ((s : Int) / 2 ^ k) 1 == 1) = s.testBit k := by
  have h0 : (s : Int) / 2 ^ k = ((s / 2 ^ k : Nat) : Int) := by push_cast; rfl
  have hle : s / 2 ^ k ≤ s := Nat.div_le_self _ _
  have h1 : bits .and .u64 ((s / 2 ^ k : Nat) : Int) 1 = ((s / 2 ^ k % 2 : Nat) : Int) := by
    have := bits_mask .u64 63 (by decide) (fun n h0 h1 => by rw [IntKind.wrap_u64]; omega) 1 (by decide) ((s / 2 ^ k : Nat) : Int) (Int.natCast_nonneg _) (Int.lt_of_le_of_lt (Int.ofNat_le.2 hle) (by omega))
    simpa using this
  rw [h0, h1, Nat.testBit_eq_decide_div_mod_eq]
  by_cases h : s / 2 ^ k % 2 = 1
  · rw [h]; rfl
  · have h2 : s / 2 ^ k % 2 = 0 := by omega
    rw [h2]; rfl
set_option maxHeartbeats 1600000 in
theorem inear_any (A P : Option Addr) (n c B m d B' : Nat) (q J : List Int) (w : World) (h : Arg w B A n c q) (h' : Arg w B' P m d J) :
    Calls Try.prog 77 #[.agg #[.slice A n c, .slice P m d]] w (GivesB w (nearOK q J)) := by
  have hl := h.len
  have hl' := h'.len
  have hm := h'.le
  have hn := h.le
  obtain ⟨w0, hw0⟩ : ∃ w0, w0 = w.alloc (.cells #[.slice A n c, .slice P m d] 52) := ⟨_, rfl⟩
  have b0 : Below w.heap.size w w0 := by rw [hw0]; exact (Below.refl _ w).alloc (Nat.le_refl _) _
  have g0 : Whole w0 w.heap.size 52 #[.slice A n c, .slice P m d] := by rw [hw0]; exact Whole.new _ _ _
  have hr' := (h'.below b0).reads
  obtain ⟨bp, hbp⟩ : ∃ b, isP q = b := ⟨_, rfl⟩
  have q0 := g0.cell 0
  simp only [List.getElem?_toArray, List.getElem?_cons_zero] at q0
  have H1 := hide (iisperm_any A n c B q bp hbp w0 (h.below b0).reads (h.below b0).under h.le h.small)
  cases bp with
  | false =>
    rw [show nearOK q J = false from by unfold nearOK; rw [hbp]; rfl]
    have HW := hide hw0
    clear h h' hl hl' hbp g0 hr'
    rw [hw0] at q0
    clear hw0
    go_enter Try.func77, Try.ntmps77
    go_wp2_with fail
    rw [← unhide HW]
    refine (unhide H1).mono ?_
    rintro e w1 ⟨rfl, d1⟩
    have d2 := below_after b0 d1
    clear H1 HW d1 b0
    go_wp2
    go_ret
    exact ⟨rfl, d2⟩
  | true =>
    obtain ⟨b, hb⟩ : ∃ b, nearOK q J = b := ⟨_, rfl⟩
    rw [hb]
    have HB := hide hb
    have HBP := hide hbp
    have HL := hide (⟨hl, hl'⟩ : q.length = n ∧ J.length = m)
    have HJS := hide (fun k x (hx : J[k]? = some x) => h'.small x (List.mem_of_getElem? hx))
    have HW := hide hw0
    have HU := hide (⟨h'.under, b0.size⟩ : B' ≤ w.heap.size ∧ w.heap.size ≤ w0.heap.size)
    have G0 := hide g0
    clear h h' hl hl' hbp g0 hb
    rw [hw0] at q0
    clear hw0
    go_enter Try.func77, Try.ntmps77
    go_wp2_with fail
    rw [← unhide HW]
    refine (unhide H1).mono ?_
    rintro e w1 ⟨rfl, d1⟩
    have d2 := below_after b0 d1
    have g1 := (unhide G0).below d1 (by have := (unhide G0).lt; omega)
    have c0' := g1.cell 0
    have c1' := g1.cell 1
    simp only [List.getElem?_toArray, List.getElem?_cons_zero, List.getElem?_cons_succ] at c0' c1'
    have hr1 := hr'.below (d1.mono (by have := unhide HU; omega))
    clear H1 HW d1 b0 q0 hr' G0 g1
    go_wp2
    go_loopw [3, 13] (fun l i wr => ∃ k : Nat, k ≤ m ∧ i = .int .i64 k ∧ l = .int .i64 (lastP (J.take k) : Nat) ∧ Drew w1 wr ∧ Hid (PlOK (q.length - 1) (J.take k))) (fun _ i _ => m - (intOf i).toNat)
    case atStart => exact ⟨0, Nat.zero_le _, rfl, by rw [List.take_zero, lastP_nil]; rfl, Drew.refl _, hide (PlOK.nil _)⟩
    case round =>
      obtain ⟨k, hk, rfl, rfl, hd, hs⟩ := hrel
      have c0 := (hd.cell ⟨w.heap.size, 0, none⟩).trans c0'
      have c1 := (hd.cell ⟨w.heap.size, 1, none⟩).trans c1'
      by_cases hlt : k < m
      · obtain ⟨ad, u, rfl, _, hu, hc⟩ := (hr1.ofDrew hd).at_ hlt
        obtain ⟨x, hx, rfl⟩ := i64_at hu
        have HD := hide hd
        have hstep := plok_step (n := q.length - 1) hx
        have hlq := (unhide HL).1
        have hlast := take_last hx
        obtain ⟨l, hl⟩ : ∃ l, lastP (J.take k) = l := ⟨_, rfl⟩
        rw [hl] at hstep ⊢
        by_cases hno : x ≤ (l : Int)
        · obtain rfl : b = false := (unhide HB).symm.trans (near_false (plok_no (k := k + 1) fun h2 => by
            have h3 := (hstep.1 h2).2.1
            omega))
          clear hx hu hs hr1 hd HB hstep c0' c1' hlq hlast hl
          go_wp2
          go_ret
          exact ⟨rfl, d2.trans ((unhide HD).below _)⟩
        · by_cases hge : (n : Int) ≤ x
          · obtain rfl : b = false := (unhide HB).symm.trans (near_false (plok_no (k := k + 1) fun h2 => by
              have h3 := (hstep.1 h2).2.2
              omega))
            clear hx hu hs hr1 hd HB hstep c0' c1' hlq hlast hl
            go_wp2
            go_ret
            exact ⟨rfl, d2.trans ((unhide HD).below _)⟩
          · have hnext := hide (hstep.2 ⟨unhide hs, by omega, by omega⟩)
            have hx' : x = ((x.toNat : Nat) : Int) := by omega
            have HX := hide (show Value.int .i64 x = .int .i64 (lastP (J.take (k + 1)) : Nat) by rw [hlast, ← hx'])
            clear hx hu hs hr1 hd hstep c0' c1' hlq hlast hl hx'
            go_wp2
            go_roundw
            case rel => exact ⟨k + 1, by omega, by go_num, unhide HX, unhide HD, hnext⟩
            case measure => simp [intOf]; omega
      · obtain rfl : m = k := by omega
        obtain rfl : true = b := (near_true (unhide HBP) (by have h := unhide hs; rwa [List.take_of_length_le (by rw [(unhide HL).2]; exact Nat.le_refl _)] at h)).symm.trans (unhide HB)
        clear HB hs hr1
        go_wp2
        go_ret
        exact ⟨rfl, d2.trans (hd.below _)⟩
end Go.Proofs.Ytnnpefgbneldiaa


/-
  impl.MeshOf by its contract.
-/

namespace Go.Proofs.Ytnnpefgbneldiaa
set_option maxRecDepth 100000
open Go.RowKit
set_option maxHeartbeats 4000000 in
theorem imof_any (A P : Option Addr) (n c B m d B' : Nat) (q J : List Int) (w : World) (h : Arg w B A n c q) (h' : Arg w B' P m d J) :
    Calls Try.prog 43 #[.agg #[.slice A n c, .slice P m d]] w (GivesXB w (mofQ q J) (mofS q J) (mofOK q J)) := by
  have hl := h.len
  have hl' := h'.len
  obtain ⟨w0, hw0⟩ : ∃ w0, w0 = (w.alloc (.cells #[.slice A n c, .slice P m d] 52)).alloc (.cells #[.slice none 0 0, .slice none 0 0] 47) := ⟨_, rfl⟩
  have b0 : Below w.heap.size w w0 := by rw [hw0]; exact ((Below.refl _ w).alloc (Nat.le_refl _) _).alloc (by simp) _
  have hs0 : w0.heap.size = w.heap.size + 2 := by rw [hw0]; simp
  have gx : Whole w0 w.heap.size 52 #[.slice A n c, .slice P m d] := by rw [hw0]; exact (Whole.new _ _ _).alloc _
  have gr : Whole w0 (w.heap.size + 1) 47 #[.slice none 0 0, .slice none 0 0] := by
    rw [hw0]
    have := Whole.new (w.alloc (.cells #[.slice A n c, .slice P m d] 52)) 47 #[.slice none 0 0, .slice none 0 0]
    rwa [World.size_alloc] at this
  have x0 := gx.cell 0
  have x1 := gx.cell 1
  simp only [List.getElem?_toArray, List.getElem?_cons_zero, List.getElem?_cons_succ] at x0 x1
  obtain ⟨b, hok⟩ : ∃ b, nearOK q J = b := ⟨_, rfl⟩
  have H1 := hide (inear_any A P n c B m d B' q J w0 (h.below b0) (h'.below b0))
  rw [hok] at H1
  have HW := hide hw0
  have HL := hide hl
  have HL' := hide hl'
  have HA := hide h
  have HA' := hide h'
  rw [hw0] at x0 x1
  clear h h' hl hl' hw0
  have hno : ∀ (w1 : World), Below w0.heap.size w0 w1 → Hid (Whole w1 (w.heap.size + 1) 47 #[.slice none 0 0, .slice none 0 0] ∧ Below w.heap.size w w1) := fun w1 d1 => hide ⟨gr.below d1 gr.lt, below_after b0 d1⟩
  cases b with
  | false =>
    obtain ⟨e1, e2, e3⟩ := mof_no (q := q) (J := J) (.inl hok)
    rw [e1, e2, e3]
    clear hok e1 e2 e3
    go_enter Try.func43, Try.ntmps43
    go_wp2_with fail
    rw [← unhide HW]
    refine (unhide H1).mono ?_
    rintro e w1 ⟨rfl, d1⟩
    have HN := hno w1 d1
    obtain ⟨gr1, hb1⟩ := unhide HN
    have r0 := gr1.cell 0
    have r1 := gr1.cell 1
    have g0 := gr1.frozen 0
    have g1 := gr1.frozen 1
    have hltr := gr1.lt
    simp only [List.getElem?_toArray, List.getElem?_cons_zero, List.getElem?_cons_succ] at r0 r1
    clear H1 HW x0 x1 gx gr hno b0 d1 gr1 hb1
    go_wp2
    obtain ⟨gr1, hb1⟩ := unhide HN
    have hWe := (gr1.put 0 (.slice none 0 0)).put 1 (.slice none 0 0)
    refine bodyPost_ret (v := .tuple #[.agg #[.slice none 0 0, .slice none 0 0], .bool false]) (results_mesh Try.results43 _ _ (w.heap.size + 1) 47 _ (0, 0) _ rfl hWe Try.underlying47 rfl meshInfo') rfl ?_
    exact meshB_end false (mesh_nil w1 (w.heap.size + 2)) (by omega) (by omega) hb1
  | true =>
    obtain ⟨hq, hJ⟩ := nearOK_iff.1 hok
    by_cases h4 : q.length ≤ 4
    · obtain ⟨e1, e2, e3⟩ := mof_yes hok h4
      rw [e1, e2, e3]
      have hn4 : n ≤ 4 := by have := unhide HL; omega
      have hm8 : m ≤ 8 := by have := near_short hJ; have := unhide HL'; omega
      have hng : ¬ (4 : Int) < (n : Int) := by omega
      have hwn : IntKind.i64.wrap ((n : Int) + 1) = (n : Int) + 1 := by rw [IntKind.wrap_i64]; omega
      have hbase : w0.heap.size ≤ w0.heap.size := Nat.le_refl _
      have lx := gx.lt
      have H9 := hide (fun w' (hb : Below w.heap.size w w') => clone_any A n c B q w' ((unhide HA).below hb))
      have HG := hide gr
      clear hok e1 e2 e3 hq hJ hno gr
      go_enter Try.func43, Try.ntmps43
      go_wp2_with fail
      rw [← unhide HW] at x0 x1 ⊢
      refine (unhide H1).mono ?_
      rintro e w1 ⟨rfl, d1⟩
      have hb1 := below_after b0 d1
      have z0 := (d1.cell (p := ⟨w.heap.size, 0, none⟩) lx).trans x0
      have z1 := (d1.cell (p := ⟨w.heap.size, 1, none⟩) lx).trans x1
      clear H1 HW gx
      go_wp2
      go_loopw [4, 21] (fun v i wr => ∃ k : Nat, k ≤ m ∧ i = .int .i64 k ∧ Below w0.heap.size w0 wr ∧ IntsS wr w0.heap.size v (colS q.length (J.take k))) (fun _ i _ => m - (intOf i).toNat)
      case atStart => exact ⟨0, Nat.zero_le _, rfl, d1, IntsS.nil _ _⟩
      case round =>
        obtain ⟨k, hk, rfl, hd, hI⟩ := hrel
        have y0 := (hd.cell (p := ⟨w.heap.size, 0, none⟩) lx).trans x0
        have y1 := (hd.cell (p := ⟨w.heap.size, 1, none⟩) lx).trans x1
        have hbw := below_after b0 hd
        obtain ⟨A4, c4, rfl⟩ := hI.slice
        by_cases hlt : k < m
        · obtain ⟨ad, u, rfl, _, hu, hc⟩ := (((unhide HA').below hbw).reads).at_ hlt
          obtain ⟨j, hj, rfl⟩ := i64_at hu
          have HJ := hide (colS_step (n := q.length) hj)
          have hl1 : (colS q.length (J.take k)).length ≤ 40 := by
            rw [colS_length, List.length_take]
            have h1 : min k J.length ≤ 8 := by omega
            have h2 : q.length + 1 ≤ 5 := by omega
            exact Nat.mul_le_mul h1 h2
          have HI := hide hI
          clear hu hj hI
          go_wp2
          go_loopw [4, 29] (fun v i wr => ∃ r : Nat, r ≤ n + 1 ∧ i = .int .i64 r ∧ Below w0.heap.size w0 wr ∧ IntsS wr w0.heap.size v (colS q.length (J.take k) ++ colI j r)) (fun _ i _ => n + 1 - (intOf i).toNat)
          case atStart => exact ⟨0, Nat.zero_le _, rfl, hd, by rw [show colI j 0 = [] from rfl, List.append_nil]; exact unhide HI⟩
          case round =>
            obtain ⟨r, hr, rfl, hd2, hI2⟩ := hrel
            by_cases hlr : r < n + 1
            · have hbel2 := (Below.refl _ wr).alloc (Nat.le_refl _) (.cells #[.int .i64 j, .int .i64 r] 3)
              have hu := Ints.two2 wr _ j r (Nat.le_refl _)
              have hb6 := below_after hd2 hbel2
              have hln : (colS q.length (J.take k) ++ colI j r).length ≤ 1048576 := by rw [List.length_append, colI_length]; omega
              have hsz := hd2.size
              have hlr' : (r : Int) < (n : Int) + 1 := by omega
              go_wp2_with (first
                | (at_builtin; refine wpList_push_row rfl (.tmp 32) (.tmp 36) rfl w0.heap.size w0 _ _ _ _ _ _ rfl ?c1 ?c2 hI2 hbel2 hu hln hb6 hsz ?_))
              case c1 => simp; rfl
              case c2 => simp
              intro v5 w5 hI5 hb5
              have hI7 : Hid (IntsS w5 w0.heap.size v5 (colS q.length (J.take k) ++ colI j (r + 1))) := hide (by rw [colI_step, hs0]; exact hI5)
              have hb5' : Hid (Below w0.heap.size w0 w5) := hide (by rw [hs0]; exact hb5)
              clear hI5 hb5 hI2 hbel2 hu hb6 hln
              go_wp2
              go_roundw
              case rel => exact ⟨r + 1, by omega, by go_num, unhide hb5', unhide hI7⟩
              case measure => simp [intOf]; omega
            · obtain rfl : r = n + 1 := by omega
              have hI7 : Hid (IntsS wr w0.heap.size u4 (colS q.length (J.take (k + 1)))) := hide (by rw [unhide HJ, unhide HL]; rw [unhide HL] at hI2; exact hI2)
              have hlr' : ¬ ((n : Int) + 1 < (n : Int) + 1) := by omega
              clear hI2 HI
              go_wp2
              go_roundw
              case rel => exact ⟨k + 1, by omega, by go_num, hd2, unhide hI7⟩
              case measure => simp [intOf]; omega
        · obtain rfl : m = k := by omega
          have eT : J.take m = J := by rw [← unhide HL', List.take_length]
          rw [eT] at hI ⊢
          have hX := unhide H9 wr hbw
          have HX := hide hX
          have gr1 := (unhide HG).below hd (unhide HG).lt
          have HR := hide (And.intro gr1 (And.intro hI (And.intro hbw hd.size)))
          clear hI hX gr1 H9
          go_wp2_with fail
          refine (unhide HX).mono ?_
          rintro e w5 ⟨A5, c5, rfl, o5, d5⟩
          obtain ⟨gr1, hI, hbw, hsw⟩ := unhide HR
          have gr2 := gr1.below d5 gr1.lt
          have hIn := InfAt.of_new hI hsw d5 o5
          have hb5 := below_after hbw d5
          have r0 := gr2.cell 0
          have r1 := gr2.cell 1
          have g0 := gr2.frozen 0
          have g1 := gr2.frozen 1
          have hltr := gr2.lt
          simp only [List.getElem?_toArray, List.getElem?_cons_zero, List.getElem?_cons_succ] at r0 r1
          have HN := hide (And.intro gr2 (And.intro hIn hb5))
          clear HX HR gr1 hI hsw d5 o5 gr2 hIn hb5 x0 x1 z0 z1 y0 y1 hd
          go_wp2
          obtain ⟨gr2, hIn, hb5⟩ := unhide HN
          have hWe := (gr2.put 0 (.slice A5 q.length c5)).put 1 (.slice A4 (colS q.length J).length c4)
          refine bodyPost_ret (v := .tuple #[.agg #[.slice A5 q.length c5, .slice A4 (colS q.length J).length c4], .bool true]) (results_mesh Try.results43 _ _ (w.heap.size + 1) 47 _ (0, 0) _ rfl hWe Try.underlying47 rfl meshInfo') rfl ?_
          exact meshB_end true hIn (by omega) (by omega) hb5
    · obtain ⟨e1, e2, e3⟩ := mof_no (q := q) (J := J) (.inr h4)
      rw [e1, e2, e3]
      have hng : (4 : Int) < (n : Int) := by have := unhide HL; omega
      clear hok e1 e2 e3 hq hJ
      go_enter Try.func43, Try.ntmps43
      go_wp2_with fail
      rw [← unhide HW] at x0 x1 ⊢
      refine (unhide H1).mono ?_
      rintro e w1 ⟨rfl, d1⟩
      have HN := hno w1 d1
      obtain ⟨gr1, hb1⟩ := unhide HN
      have y0 := (d1.cell (p := ⟨w.heap.size, 0, none⟩) gx.lt).trans x0
      have r0 := gr1.cell 0
      have r1 := gr1.cell 1
      have g0 := gr1.frozen 0
      have g1 := gr1.frozen 1
      have hltr := gr1.lt
      simp only [List.getElem?_toArray, List.getElem?_cons_zero, List.getElem?_cons_succ] at r0 r1
      clear H1 HW x0 x1 gx gr hno b0 d1 gr1 hb1
      go_wp2
      obtain ⟨gr1, hb1⟩ := unhide HN
      have hWe := (gr1.put 0 (.slice none 0 0)).put 1 (.slice none 0 0)
      refine bodyPost_ret (v := .tuple #[.agg #[.slice none 0 0, .slice none 0 0], .bool false]) (results_mesh Try.results43 _ _ (w.heap.size + 1) 47 _ (0, 0) _ rfl hWe Try.underlying47 rfl meshInfo') rfl ?_
      exact meshB_end false (mesh_nil w1 (w.heap.size + 2)) (by omega) (by omega) hb1
end Go.Proofs.Ytnnpefgbneldiaa


/-
  spec.MeshOf by its contract.
-/

namespace Go.Proofs.Ytnnpefgbneldiaa
set_option maxRecDepth 100000
open Go.RowKit
set_option maxHeartbeats 4000000 in
theorem smof_any (A P : Option Addr) (n c B m d B' : Nat) (q J : List Int) (w : World) (h : Arg w B A n c q) (h' : Arg w B' P m d J) :
    Calls Try.prog 44 #[.agg #[.slice A n c, .slice P m d]] w (GivesXB w (mofQ q J) (mofS q J) (mofOK q J)) := by
  have hl := h.len
  have hl' := h'.len
  obtain ⟨w0, hw0⟩ : ∃ w0, w0 = (w.alloc (.cells #[.slice A n c, .slice P m d] 52)).alloc (.cells #[.slice none 0 0, .slice none 0 0] 47) := ⟨_, rfl⟩
  have b0 : Below w.heap.size w w0 := by rw [hw0]; exact ((Below.refl _ w).alloc (Nat.le_refl _) _).alloc (by simp) _
  have hs0 : w0.heap.size = w.heap.size + 2 := by rw [hw0]; simp
  have gx : Whole w0 w.heap.size 52 #[.slice A n c, .slice P m d] := by rw [hw0]; exact (Whole.new _ _ _).alloc _
  have gr : Whole w0 (w.heap.size + 1) 47 #[.slice none 0 0, .slice none 0 0] := by
    rw [hw0]
    have := Whole.new (w.alloc (.cells #[.slice A n c, .slice P m d] 52)) 47 #[.slice none 0 0, .slice none 0 0]
    rwa [World.size_alloc] at this
  have x0 := gx.cell 0
  have x1 := gx.cell 1
  simp only [List.getElem?_toArray, List.getElem?_cons_zero, List.getElem?_cons_succ] at x0 x1
  obtain ⟨b, hok⟩ : ∃ b, nearOK q J = b := ⟨_, rfl⟩
  have H1 := hide (snear_any A P n c B m d B' q J w0 (h.below b0) (h'.below b0))
  rw [hok] at H1
  have HW := hide hw0
  have HL := hide hl
  have HL' := hide hl'
  have HA := hide h
  have HA' := hide h'
  rw [hw0] at x0 x1
  clear h h' hl hl' hw0
  have hno : ∀ (w1 : World), Below w0.heap.size w0 w1 → Hid (Whole w1 (w.heap.size + 1) 47 #[.slice none 0 0, .slice none 0 0] ∧ Below w.heap.size w w1) := fun w1 d1 => hide ⟨gr.below d1 gr.lt, below_after b0 d1⟩
  cases b with
  | false =>
    obtain ⟨e1, e2, e3⟩ := mof_no (q := q) (J := J) (.inl hok)
    rw [e1, e2, e3]
    clear hok e1 e2 e3
    go_enter Try.func44, Try.ntmps44
    go_wp2_with fail
    rw [← unhide HW]
    refine (unhide H1).mono ?_
    rintro e w1 ⟨rfl, d1⟩
    have HN := hno w1 d1
    obtain ⟨gr1, hb1⟩ := unhide HN
    have r0 := gr1.cell 0
    have r1 := gr1.cell 1
    have g0 := gr1.frozen 0
    have g1 := gr1.frozen 1
    have hltr := gr1.lt
    simp only [List.getElem?_toArray, List.getElem?_cons_zero, List.getElem?_cons_succ] at r0 r1
    clear H1 HW x0 x1 gx gr hno b0 d1 gr1 hb1
    go_wp2
    obtain ⟨gr1, hb1⟩ := unhide HN
    have hWe := (gr1.put 0 (.slice none 0 0)).put 1 (.slice none 0 0)
    refine bodyPost_ret (v := .tuple #[.agg #[.slice none 0 0, .slice none 0 0], .bool false]) (results_mesh Try.results44 _ _ (w.heap.size + 1) 47 _ (0, 0) _ rfl hWe Try.underlying47 rfl meshInfo') rfl ?_
    exact meshB_end false (mesh_nil w1 (w.heap.size + 2)) (by omega) (by omega) hb1
  | true =>
    obtain ⟨hq, hJ⟩ := nearOK_iff.1 hok
    by_cases h4 : q.length ≤ 4
    · obtain ⟨e1, e2, e3⟩ := mof_yes hok h4
      rw [e1, e2, e3]
      have hn4 : n ≤ 4 := by have := unhide HL; omega
      have hm8 : m ≤ 8 := by have := near_short hJ; have := unhide HL'; omega
      have hng : ¬ (4 : Int) < (n : Int) := by omega
      have lx := gx.lt
      have HG := hide (And.intro gx gr)
      clear hok e1 e2 e3 hq hJ hno gr gx
      go_enter Try.func44, Try.ntmps44
      go_wp2_with fail
      rw [← unhide HW] at x0 x1 ⊢
      refine (unhide H1).mono ?_
      rintro e w1 ⟨rfl, d1⟩
      have hb1 := below_after b0 d1
      have z0 := (d1.cell (p := ⟨w.heap.size, 0, none⟩) lx).trans x0
      have gx1 := (unhide HG).1.below d1 (unhide HG).1.lt
      have gr1 := (unhide HG).2.below d1 (unhide HG).2.lt
      have hb1e : Below w1.heap.size w1 (w1.alloc (.cells #[] 3)) := (Below.refl _ w1).alloc (Nat.le_refl _) _
      have hown0 := own0 w1 w1.heap.size (Nat.le_refl _)
      have hAe := ((unhide HA).below hb1).below hb1e
      have hze : w1.heap.size ≤ (w1.alloc (.cells #[] 3)).heap.size := hb1e.size
      have hs1 : w.heap.size + 2 ≤ w1.heap.size := by have := d1.size; omega
      have lz : w.heap.size < w1.heap.size := by omega
      have HS1 := hide hs1
      have HW1 := hide (And.intro gx1 (And.intro gr1 hb1))
      clear H1 HW HG x0 x1 lx b0 d1 gx1 gr1 hs1
      go_wp2_with (first
        | (at_builtin; refine wpList_append_arg rfl (.tmp 17) (.tmp 19) rfl w1.heap.size B 0 n c w1 _ A [] q rfl rfl hown0 hAe (by omega) hb1e hze ?_; intro v' w2 hown2 hb2 hg2; have hI2 := Ints.of_own hown2; rw [List.nil_append] at hI2; obtain ⟨A2, c2, rfl⟩ := hI2.slice; have hN := Whole.new w2 47 #[.slice none 0 0, .slice none 0 0]; have r0 := hN.cell 0; have r1 := hN.cell 1; have f0 := hN.frozen 0; have f1 := hN.frozen 1; have hlt2 := hN.lt; simp only [List.getElem?_toArray, List.getElem?_cons_zero, List.getElem?_cons_succ] at r0 r1; clear hown2 hg2))
      obtain ⟨gx1, gr1, hb1⟩ := unhide HW1
      have hs1 := unhide HS1
      have hz2' := hb2.size
      obtain ⟨g, hg⟩ : ∃ g, g = w2.heap.size := ⟨_, rfl⟩
      obtain ⟨w5, hw5⟩ : ∃ w5, w5 = w2.alloc (.cells #[.slice A2 q.length c2, .slice none 0 0] 47) := ⟨_, rfl⟩
      have hb25 : Below w2.heap.size w2 w5 := by rw [hw5]; exact (Below.refl _ w2).alloc (Nat.le_refl _) _
      have hG5 : Whole w5 g 47 #[.slice A2 q.length c2, .slice none 0 0] := by rw [hw5, hg]; exact Whole.new _ _ _
      have hX5 := (gx1.below hb2 gx1.lt).below hb25 (by have := gx1.lt; omega)
      have hR5 := (gr1.below hb2 gr1.lt).below hb25 (by have := gr1.lt; omega)
      have hU5 : Until g (.slice A2 q.length c2) := by rw [hg]; exact hI2.until_
      have hP5 : Ints w5 (w.heap.size + 2) (.slice A2 q.length c2) q := (hI2.below hb25).low (by omega)
      have hB5 : Below w.heap.size w w5 := below_after (below_after hb1 hb2) hb25
      have hg1 : w.heap.size + 2 ≤ g := by omega
      have hM : MofAt w g q.length A2 c2 q 52 #[.slice A n c, .slice P m d] (colS q.length (J.take 0)) none 0 w5 := ⟨hG5, Fresh.nil_ _ _ _, hX5, hR5, hP5, hB5⟩
      rw [← hw5, ← hg]
      clear hw5 hb25 gx1 gr1 hb1 hb1e hown0 hAe hze HS1 HW1 hb2 hI2 hN r0 r1 f0 f1 hlt2 hz2' hg hs1 hG5 hX5 hR5 hP5 hB5 z0 lz
      go_loopw [5] (fun i wr => ∃ (k : Nat) (Aj : Option Addr) (cj : Nat), k ≤ m ∧ i = .int .i64 k ∧ MofAt w g q.length A2 c2 q 52 #[.slice A n c, .slice P m d] (colS q.length (J.take k)) Aj cj wr) (fun i _ => m - (intOf i).toNat)
      case atStart => exact ⟨0, none, 0, Nat.zero_le _, rfl, hM⟩
      case round =>
        obtain ⟨k, Aj, cj, hk, rfl, hM⟩ := hrel
        have y0 := hM.hX.cell 0
        have y1 := hM.hX.cell 1
        simp only [List.getElem?_toArray, List.getElem?_cons_zero, List.getElem?_cons_succ] at y0 y1
        by_cases hlt : k < m
        · obtain ⟨j, hj⟩ : ∃ j, J[k]? = some j := ⟨_, List.getElem?_eq_getElem (by have := unhide HL'; omega)⟩
          have HJ := hide hj
          have HJS := hide (colS_step (n := q.length) hj)
          have hl1 : (colS q.length (J.take k)).length ≤ 40 := by
            rw [colS_length, List.length_take]
            have h1 : min k J.length ≤ 8 := by omega
            have h2 : q.length + 1 ≤ 5 := by omega
            exact Nat.mul_le_mul h1 h2
          have HM := hide hM
          clear hj hM
          go_wp2
          go_loopw [6] (fun i wr => ∃ (r : Nat) (Aj : Option Addr) (cj : Nat), r ≤ n + 1 ∧ i = .int .i64 r ∧ MofAt w g q.length A2 c2 q 52 #[.slice A n c, .slice P m d] (colS q.length (J.take k) ++ colI j r) Aj cj wr) (fun i _ => n + 1 - (intOf i).toNat)
          case atStart => exact ⟨0, Aj, cj, Nat.zero_le _, rfl, by rw [show colI j 0 = [] from rfl, List.append_nil]; exact unhide HM⟩
          case round =>
            obtain ⟨r, Ai, ci, hr, rfl, hM⟩ := hrel
            have x0 := hM.hX.cell 0
            have x1 := hM.hX.cell 1
            simp only [List.getElem?_toArray, List.getElem?_cons_zero, List.getElem?_cons_succ] at x0 x1
            clear y0 y1
            by_cases hlr : r < n + 1
            · have hle : (r : Int) ≤ (n : Int) := by omega
              obtain ⟨ad, u, rfl, _, hu, hc⟩ := (((unhide HA').below hM.hB).reads).at_ hlt
              obtain ⟨x, hx, rfl⟩ := i64_at hu
              obtain rfl : j = x := by have := (unhide HJ).symm.trans hx; injection this
              obtain ⟨zss, hz⟩ : ∃ zss, zss = colS q.length (J.take k) ++ colI j r := ⟨_, rfl⟩
              obtain ⟨yss, hy⟩ : ∃ yss, yss = zss ++ [[j, (r : Int)]] := ⟨_, rfl⟩
              have hyc : yss = colS q.length (J.take k) ++ colI j (r + 1) := by rw [hy, hz, colI_step, List.append_assoc]
              have hzl : zss.length ≤ 1048576 := by rw [hz, List.length_append, colI_length]; omega
              rw [← hz] at hM
              have q0 := hM.hG.cell 0
              have q1 := hM.hG.cell 1
              have f1 := hM.hG.frozen 1
              have hltg := hM.hG.lt
              simp only [List.getElem?_toArray, List.getElem?_cons_zero, List.getElem?_cons_succ] at q0 q1
              have q1e : wr.drew.cell? ⟨g, 1, none⟩ = some (.slice Ai zss.length ci) := q1
              have q1d : ∀ o, (wr.drew.alloc o).cell? ⟨g, 1, none⟩ = some (.slice Ai zss.length ci) := fun o => (((Below.refl wr.heap.size wr).drew.alloc (Nat.le_refl _) o).cell (p := ⟨g, 1, none⟩) hltg).trans q1
              have q1c : ∀ o o', ((wr.drew.alloc o).alloc o').cell? ⟨g, 1, none⟩ = some (.slice Ai zss.length ci) := fun o o' => ((((Below.refl wr.heap.size wr).drew.alloc (Nat.le_refl _) o).alloc (by simp) o').cell (p := ⟨g, 1, none⟩) hltg).trans q1
              have hb4 : Below wr.heap.size wr (wr.drew.alloc (.cells #[.int .i64 j, .int .i64 r] 3)) := (Below.refl wr.heap.size wr).drew.alloc (Nat.le_refl _) _
              have hu4 : Ints (wr.drew.alloc (.cells #[.int .i64 j, .int .i64 r] 3)) wr.heap.size (.slice (some ⟨wr.heap.size, 0, none⟩) 2 2) [j, (r : Int)] := Ints.two2 wr.drew wr.heap.size j r (Nat.le_refl _)
              have HMM := hide hM
              have HY := hide (And.intro hy hyc)
              have hUn : Until wr.heap.size (.slice A2 q.length c2) := fun i hi => Nat.lt_trans (hU5 i hi) hltg
              clear hu hx hz hy hyc HM HJS
              go_wp2
              go_region_law
                (first
                  | (refine step_push_beside (by rfl) (.tmp 37) (.tmp 45) (by rfl) (g + 1) wr (wr.drew.alloc (.cells #[.int .i64 j, .int .i64 r] 3)) _ _ (.slice A2 q.length c2) zss [j, (r : Int)] (by rfl) (by rw [World.size_alloc]; rfl) (by first | exact .inl rfl | exact .inr rfl) (unhide HMM).hF hb4 hu4 hUn hzl hltg ?_; intro v' w' hF' hb' hk'; rw [← (unhide HY).1] at hF'; obtain ⟨A', c', rfl⟩ := hF'.shape; have r1' := ((unhide HMM).hG.below hb' (Nat.lt_succ_self g)).cell 1; have f1' := ((unhide HMM).hG.below hb' (Nat.lt_succ_self g)).frozen 1; have l1' := ((unhide HMM).hG.below hb' (Nat.lt_succ_self g)).lt; simp only [List.getElem?_toArray, List.getElem?_cons_zero, List.getElem?_cons_succ] at r1'; have HF' := hide hF'; clear hF'))
              all_goals
                have hM' := (unhide HMM).next hU5 hg1 hb' (unhide HF')
                have HN := hide (show MofAt w g q.length A2 c2 q 52 #[.slice A n c, .slice (some ad) m d] (colS q.length (J.take k) ++ colI j (r + 1)) A' c' (w'.setCell ⟨g, 1, none⟩ (.slice A' yss.length c')) from by rw [← (unhide HY).2]; exact hM')
                clear hM' HMM q0 q1 f1 q1e q1d q1c hb4 hu4 hUn x0 x1 hc r1' f1' HF' hb' HY hk' l1' hltg
                generalize w'.setCell ⟨g, 1, none⟩ (.slice A' yss.length c') = w7 at HN ⊢
                go_wp2
                go_roundw
                case rel => exact ⟨r + 1, A', c', by omega, by go_num, unhide HN⟩
                case measure => simp [intOf]; omega
            · obtain rfl : r = n + 1 := by omega
              have hle : ¬ ((n : Int) + 1 ≤ (n : Int)) := by omega
              have hM2 := hide (show MofAt w g q.length A2 c2 q 52 #[.slice A n c, .slice P m d] (colS q.length (J.take (k + 1))) Ai ci wr from by rw [unhide HJS, unhide HL]; rw [unhide HL] at hM; exact hM)
              clear hM HM
              go_wp2
              go_roundw
              case rel => exact ⟨k + 1, Ai, ci, by omega, by go_num, unhide hM2⟩
              case measure => simp [intOf]; omega
        · obtain rfl : m = k := by omega
          have eT : J.take m = J := by rw [← unhide HL', List.take_length]
          rw [eT] at hM
          have r0 := hM.hG.cell 0
          have r1 := hM.hG.cell 1
          have s0 := hM.hR.cell 0
          have s1 := hM.hR.cell 1
          have e0 := hM.hR.frozen 0
          have e1 := hM.hR.frozen 1
          have hltr := hM.hR.lt
          simp only [List.getElem?_toArray, List.getElem?_cons_zero, List.getElem?_cons_succ] at r0 r1 s0 s1
          have HM := hide hM
          clear hM eT
          go_wp2
          have hM := unhide HM
          have hWe := (hM.hR.put 0 (.slice A2 q.length c2)).put 1 (.slice Aj (colS q.length J).length cj)
          refine bodyPost_ret (v := .tuple #[.agg #[.slice A2 q.length c2, .slice Aj (colS q.length J).length cj], .bool true]) (results_mesh Try.results44 _ _ (w.heap.size + 1) 47 _ (0, 0) _ rfl hWe Try.underlying47 rfl meshInfo') rfl ?_
          exact meshB_end true (hM.end_ hg1) (by omega) (by omega) hM.hB
    · obtain ⟨e1, e2, e3⟩ := mof_no (q := q) (J := J) (.inr h4)
      rw [e1, e2, e3]
      have hng : (4 : Int) < (n : Int) := by have := unhide HL; omega
      clear hok e1 e2 e3 hq hJ
      go_enter Try.func44, Try.ntmps44
      go_wp2_with fail
      rw [← unhide HW] at x0 x1 ⊢
      refine (unhide H1).mono ?_
      rintro e w1 ⟨rfl, d1⟩
      have HN := hno w1 d1
      obtain ⟨gr1, hb1⟩ := unhide HN
      have y0 := (d1.cell (p := ⟨w.heap.size, 0, none⟩) gx.lt).trans x0
      have r0 := gr1.cell 0
      have r1 := gr1.cell 1
      have g0 := gr1.frozen 0
      have g1 := gr1.frozen 1
      have hltr := gr1.lt
      simp only [List.getElem?_toArray, List.getElem?_cons_zero, List.getElem?_cons_succ] at r0 r1
      clear H1 HW x0 x1 gx gr hno b0 d1 gr1 hb1
      go_wp2
      obtain ⟨gr1, hb1⟩ := unhide HN
      have hWe := (gr1.put 0 (.slice none 0 0)).put 1 (.slice none 0 0)
      refine bodyPost_ret (v := .tuple #[.agg #[.slice none 0 0, .slice none 0 0], .bool false]) (results_mesh Try.results44 _ _ (w.heap.size + 1) 47 _ (0, 0) _ rfl hWe Try.underlying47 rfl meshInfo') rfl ?_
      exact meshB_end false (mesh_nil w1 (w.heap.size + 2)) (by omega) (by omega) hb1
end Go.Proofs.Ytnnpefgbneldiaa


/-
  spec.l3Put into a nil list, by its contract.
-/

namespace Go.Proofs.Ytnnpefgbneldiaa
set_option maxRecDepth 100000
open Go.RowKit
theorem putL_nil (p : List Int) : putL [] p = [p] := by
  unfold putL
  simp [scanL]
set_option maxHeartbeats 1600000 in
theorem l3putN_any (B : Nat) (A : Option Addr) (m c B' : Nat) (p : List Int) (w : World) (hp : Arg w B' A m c p) (hB : B ≤ w.heap.size) :
    Calls Try.prog 84 #[.slice none 0 0, .slice A m c] w (PutEnds w B [p]) := by
  have hown0 : ∀ W : World, W.ownsRow B 24 1 (.slice none 0 0) 0 [] := fun W => World.ownsRow_nil _ _ _ _
  have HN := hide hown0
  clear hown0
  go_enter Try.func84, Try.ntmps84
  go_wp2
  go_loopw [5] (fun i wr => i = .int .i64 0 ∧ wr = w) (fun i _ => (intOf i).toNat)
  case atStart => exact ⟨rfl, rfl⟩
  case round =>
    obtain ⟨rfl, rfl⟩ := hrel
    have hst := ownS0 wr wr.heap.size (Nat.le_refl _)
    have hbel := (Below.refl wr.heap.size wr).alloc (Nat.le_refl _) (.cells #[] 24)
    have hrest : Reads (wr.alloc (.cells #[] 24)) wr.heap.size none 0 ([] : List Value) := ⟨rfl, fun h => absurd h (by omega)⟩
    go_wp2_with (at_builtin; refine wpList_append_rows rfl (.tmp 34) (.tmp 37) rfl wr.heap.size wr.heap.size 0 0 0 wr _ none [] [] rfl rfl hst hrest (fun _ => rfl) (fun u hu => by cases hu) (by omega) (by omega) hbel hbel.size ?_; intro v6 w6 hown6 hb6 hg6 hnil6)
    rw [Nat.zero_add, List.nil_append] at hown6
    obtain ⟨g6, cap6, rfl, hg6l, hcap6⟩ := own_shape hown6 (fun h => by cases hnil6 h)
    have hA6 := hp.below hb6
    have hst6 := own0 w6 w6.heap.size (Nat.le_refl _)
    have hbel6 := (Below.refl w6.heap.size w6).alloc (Nat.le_refl _) (.cells #[] 3)
    have hA7 := (hA6.below hbel6).drew
    have hs6 := hbel6.size
    have hbw6 := hb6.mono hB
    have hkw6 := KeepI.of_below hb6
    clear hst hbel hrest hp hg6 hnil6
    go_region_held3 (fun _ => True) (trivial)
      (first
       | ((refine step_append_arg (by rfl) (.tmp 42) (.tmp 43) (by rfl) w6.heap.size B' 0 m c w6 _ A [] p (by rfl) (by rfl) hst6 hA7 (by omega) hbel6.drew hs6 ?_); intro v7 w7 hw7 hb7 hg7; clear hg7;
          have hI7 : Ints w7 w6.heap.size v7 p := Ints.of_own hw7;
          obtain ⟨A7, c7, rfl⟩ := hI7.slice;
          have hone7 : ∀ u ∈ [Value.slice A7 p.length c7], u.oneCell' = true := (fun u hu => by (rw [List.mem_singleton] at hu; subst hu; rfl));
          have hrest8 := own_below hown6 hb7;
          have hkw8 := hkw6.trans (KeepI.of_below hb7);
          have hbw8 := hbw6.trans (hb7.mono (Nat.le_trans hB hb6.size));
          have hsz8 : B ≤ w7.heap.size := Nat.le_trans hB (Nat.le_trans hb6.size hb7.size);
          have hx8 := reads_new w7 (.slice A7 p.length c7) 24;
          have hal := (Below.refl w7.heap.size w7).alloc (Nat.le_refl _) (.cells #[.slice A7 p.length c7] 24);
          clear hst6 hbel6 hA7 hs6 hown6 hkw6 hbw6 hw7 hb7)
       | ((refine step_append_rows (by rfl) (.tmp 41) (.tmp 45) (by rfl) B (w7.heap.size + 1) 0 1 1 wr _ (some ⟨w7.heap.size, 0, none⟩) [] [.slice A7 p.length c7] (by rfl) (by rfl) (unhide HN _) hx8 (fun h => by cases h) hone7 (by omega) (by omega) (hbw8.trans (hal.mono hsz8)) (Nat.le_trans hsz8 hal.size) ?_); intro v9 w9 hown9 hb9 hg9 hnil9;
          have hg9' : (w7.alloc (.cells #[.slice A7 p.length c7] 24)).grownBy w9 none := hg9;
          have hk9 := (hkw8.trans (KeepI.of_below hal)).trans (KeepI.of_grown (unhide HN _) hg9);
          have hI9 := (hI7.keepI (KeepI.of_below hal)).keepI (KeepI.of_grown (unhide HN _) hg9);
          have hrest9 := (own_below hrest8 hal).kept hg9 (.inr (fun e => by cases e));
          have hsz9 := Nat.le_trans hsz8 (Nat.le_trans hal.size hg9.size);
          clear hrest8 hkw8 hbw8 hsz8 hx8 hal hI7 hone7 hg9 hg9')
       | ((refine step_append_rows (by rfl) (.tmp 46) (.tmp 47) (by rfl) B w9.heap.size (0 + 1) 0 cap6 wr _ (some ⟨g6, 0, none⟩) ([] ++ [.slice A7 p.length c7]) [] (by rfl) (by rfl) hown9 (Reads.of_own_at hrest9) (fun h => by cases h) (fun u hu => by cases hu) (by omega) (by omega) hb9 hsz9 ?_); intro v10 w10 hown10 hb10 hg10 hnil10;
          have hk10 := hk9.trans (KeepI.of_grown hown9 hg10);
          have hI10 := hI9.keepI (KeepI.of_grown hown9 hg10);
          clear hk9 hI9 hown9 hrest9))
    have hfin : PutS w10 B v10 [p] := by
      obtain ⟨g10, cap10, h10, _, _⟩ := own_shape hown10 (fun h => by
        rcases hown10.2 with ⟨_, h0⟩ | ⟨g', cap', cur, h1, _⟩
        · omega
        · rw [h] at h1; cases h1)
      refine ⟨⟨[.slice A7 p.length c7], by simpa using hown10, ?_⟩, g10, cap10, by simpa using h10⟩
      have := (Inner.nil w10 B).push (hI10.low (Nat.le_trans hB hb6.size)) (fun x hx => by cases hx)
      simpa using this
    clear hown10 hI10 hnil9 hnil10
    go_wp2
    go_ret
    exact ⟨v10, rfl, hfin, hb10, hk10⟩
/-- Into a list at a block's head, or into a nil one. -/
theorem l3putE_any (B : Nat) (zss : List (List Int)) (Aj : Option Addr) (cj : Nat) (A : Option Addr) (m c B' : Nat) (p : List Int) (w : World) (hS : IntsS w B (.slice Aj zss.length cj) zss) (hsh : (Aj = none ∧ cj = 0 ∧ zss = []) ∨ ∃ g, Aj = some ⟨g, 0, none⟩) (hp : Arg w B' A m c p) (hB : B ≤ w.heap.size)
    (hall : ∀ z ∈ zss, z.length ≤ 1048576 ∧ Small z) (hn : zss.length ≤ 1048576) :
    Calls Try.prog 84 #[.slice Aj zss.length cj, .slice A m c] w (PutEnds w B (putL zss p)) := by
  rcases hsh with ⟨rfl, rfl, rfl⟩ | ⟨g, rfl⟩
  · rw [putL_nil]
    exact l3putN_any B A m c B' p w hp hB
  · exact l3putS_any B zss g zss.length cj A m c B' p w hS hp hB hall hn
end Go.Proofs.Ytnnpefgbneldiaa


/-
  spec.InverseMesh by its contract.
-/

namespace Go.Proofs.Ytnnpefgbneldiaa
set_option maxRecDepth 100000
open Go.RowKit
theorem keep_boxes {B : Nat} {wr w' : World} {a b c d : Addr} {t u v x : Value} (h1 : wr.cell? a = some t) (h2 : wr.cell? b = some u) (h3 : wr.cell? c = some v) (h4 : wr.cell? d = some x) (ha : a.block < B) (hb : b.block < B) (hc : c.block < B) (hd : d.block < B)
    (h : Below B wr w') : w'.cell? a = some t ∧ w'.cell? b = some u ∧ w'.cell? c = some v ∧ w'.cell? d = some x ∧ Below B wr w' := ⟨(h.cell ha).trans h1, (h.cell hb).trans h2, (h.cell hc).trans h3, (h.cell hd).trans h4, h⟩
/-- A box that lies in the list of an argument. -/
theorem AtS.box {w : World} {P : Option Addr} {m k : Nat} {S : List (List Int)} (hS : AtS w P m S) (hk : k < m) (h2 : ∀ z ∈ S, z.length = 2) :
    ∃ ad ad2 c' x y, P = some ad ∧ S[k]? = some [x, y] ∧ w.cell? (ad.add k) = some (.slice (some ad2) 2 c') ∧ w.cell? ad2 = some (.int .i64 x) ∧ w.cell? ⟨ad2.block, ad2.off + 1, none⟩ = some (.int .i64 y) := by
  obtain ⟨ad, A', c', z, rfl, hz, hcell, hI⟩ := hS.2 w (Below.refl _ _) k hk
  have hz2 := h2 z (List.mem_of_getElem? hz)
  match z, hz2, hz, hcell, hI with
  | [x, y], _, hz, hcell, hI =>
    obtain ⟨ad2, u, hA, _, hu, hx⟩ := hI.reads.at_ (show 0 < [x, y].length by simp)
    obtain ⟨ad3, u3, hA3, _, hu3, hx3⟩ := hI.reads.at_ (show 1 < [x, y].length by simp)
    obtain rfl : ad2 = ad3 := by rw [hA] at hA3; injection hA3
    subst hA
    refine ⟨ad, ad2, c', x, y, rfl, hz, hcell, ?_, ?_⟩
    · rw [show ad2 = ad2.add 0 by unfold Addr.add; split <;> simp_all, hx]; exact hu.symm
    · rw [← show ad2.add 1 = ⟨ad2.block, ad2.off + 1, none⟩ by unfold Addr.add; rw [if_neg (by omega)], hx3]; exact hu3.symm
set_option maxHeartbeats 4000000 in
theorem sinvm_any (A P : Option Addr) (n c B m d : Nat) (q : List Int) (S : List (List Int)) (w : World) (h : Arg w B A n c q) (hS : AtS w P m S) (hm : m ≤ 1048576) :
    Calls Try.prog 46 #[.agg #[.slice A n c, .slice P m d]] w (GivesXB w (miQ q S) (miS q S) (meshOK q S)) := by
  have hl := h.len
  obtain ⟨w0, hw0⟩ : ∃ w0, w0 = (w.alloc (.cells #[.slice A n c, .slice P m d] 47)).alloc (.cells #[.slice none 0 0, .slice none 0 0] 47) := ⟨_, rfl⟩
  have b0 : Below w.heap.size w w0 := by rw [hw0]; exact ((Below.refl _ w).alloc (Nat.le_refl _) _).alloc (by simp) _
  have hs0 : w0.heap.size = w.heap.size + 2 := by rw [hw0]; simp
  have gx : Whole w0 w.heap.size 47 #[.slice A n c, .slice P m d] := by rw [hw0]; exact (Whole.new _ _ _).alloc _
  have gr : Whole w0 (w.heap.size + 1) 47 #[.slice none 0 0, .slice none 0 0] := by
    rw [hw0]
    have := Whole.new (w.alloc (.cells #[.slice A n c, .slice P m d] 47)) 47 #[.slice none 0 0, .slice none 0 0]
    rwa [World.size_alloc] at this
  have x0 := gx.cell 0
  have x1 := gx.cell 1
  simp only [List.getElem?_toArray, List.getElem?_cons_zero, List.getElem?_cons_succ] at x0 x1
  obtain ⟨b, hok⟩ : ∃ b, meshOK q S = b := ⟨_, rfl⟩
  have H1 := hide (smesh_any A P n c B m d q S w0 (h.below b0) (hS.below b0) hm)
  rw [hok] at H1 ⊢
  have HW := hide hw0
  have HL := hide hl
  have HA := hide h
  have HS := hide hS
  rw [hw0] at x0 x1
  clear h hl hS hw0
  cases b with
  | false =>
    obtain ⟨e1, e2⟩ := mi_no (q := q) (S := S) hok
    rw [e1, e2]
    have hno : ∀ (w1 : World), Below w0.heap.size w0 w1 → Hid (Whole w1 (w.heap.size + 1) 47 #[.slice none 0 0, .slice none 0 0] ∧ Below w.heap.size w w1) := fun w1 d1 => hide ⟨gr.below d1 gr.lt, below_after b0 d1⟩
    clear hok e1 e2
    go_enter Try.func46, Try.ntmps46
    go_wp2_with fail
    rw [← unhide HW]
    refine (unhide H1).mono ?_
    rintro e w1 ⟨rfl, d1⟩
    have HN := hno w1 d1
    obtain ⟨gr1, hb1⟩ := unhide HN
    have r0 := gr1.cell 0
    have r1 := gr1.cell 1
    have g0 := gr1.frozen 0
    have g1 := gr1.frozen 1
    have hltr := gr1.lt
    simp only [List.getElem?_toArray, List.getElem?_cons_zero, List.getElem?_cons_succ] at r0 r1
    clear H1 HW x0 x1 gx gr hno b0 d1 gr1 hb1
    go_wp2
    obtain ⟨gr1, hb1⟩ := unhide HN
    have hWe := (gr1.put 0 (.slice none 0 0)).put 1 (.slice none 0 0)
    refine bodyPost_ret (v := .tuple #[.agg #[.slice none 0 0, .slice none 0 0], .bool false]) (results_mesh Try.results46 _ _ (w.heap.size + 1) 47 _ (0, 0) _ rfl hWe Try.underlying47 rfl meshInfo') rfl ?_
    exact meshB_end false (mesh_nil w1 (w.heap.size + 2)) (by omega) (by omega) hb1
  | true =>
    obtain ⟨e1, e2⟩ := mi_yes hok
    rw [e1, e2]
    have hbl := boxL_mesh hok
    have hn4 : n ≤ 4 := by have := (meshOK_iff.1 hok).2.1; have := unhide HL; omega
    have hq := (meshOK_iff.1 hok).1
    have H2 := hide (fun w' (hb : Below w.heap.size w w') => l2inv_any A n c B q w' ((unhide HA).below hb) hq)
    have HBL := hide hbl
    have hlS := (unhide HS).1
    have HLS := hide hlS
    clear hok e1 e2 hq hbl hlS
    go_enter Try.func46, Try.ntmps46
    go_wp2_with fail
    rw [← unhide HW] at x0 x1 ⊢
    refine (unhide H1).mono ?_
    rintro e w1 ⟨rfl, d1⟩
    have hb1 := below_after b0 d1
    have gx1 := gx.below d1 gx.lt
    have gr1 := gr.below d1 gr.lt
    have z0 := gx1.cell 0
    simp only [List.getElem?_toArray, List.getElem?_cons_zero] at z0
    have hs1 : w.heap.size + 2 ≤ w1.heap.size := by have := d1.size; omega
    have H3 := hide (unhide H2 w1 hb1)
    clear H1 H2 HW gx gr x0 x1 b0 d1
    go_wp2_with fail
    refine (unhide H3).mono ?_
    rintro e w2 ⟨A2, c2, rfl, o2, d2⟩
    have hil : (invFill q q.length).length = q.length := invFill_length q _
    rw [hil] at o2 ⊢
    obtain ⟨g, hg⟩ : ∃ g, g = w2.heap.size := ⟨_, rfl⟩
    obtain ⟨w5, hw5⟩ : ∃ w5, w5 = w2.alloc (.cells #[.slice A2 q.length c2, .slice none 0 0] 47) := ⟨_, rfl⟩
    have hb25 : Below w2.heap.size w2 w5 := by rw [hw5]; exact (Below.refl _ w2).alloc (Nat.le_refl _) _
    have hs2 := d2.size
    have hG5 : Whole w5 g 47 #[.slice A2 q.length c2, .slice none 0 0] := by rw [hw5, hg]; exact Whole.new _ _ _
    have hX5 := (gx1.below d2 gx1.lt).below hb25 (by have := gx1.lt; omega)
    have hR5 := (gr1.below d2 gr1.lt).below hb25 (by have := gr1.lt; omega)
    have hU5 : Until g (.slice A2 q.length c2) := by rw [hg]; exact o2.until_
    have hP5 : Ints w5 (w.heap.size + 2) (.slice A2 q.length c2) (invL q) := (o2.below hb25).low (by omega)
    have hB5 : Below w.heap.size w w5 := below_after (below_after hb1 d2) hb25
    have hg1 : w.heap.size + 2 ≤ g := by omega
    have hM : MofAt w g q.length A2 c2 (invL q) 47 #[.slice A n c, .slice P m d] (ordL (S.map swapB) 0) none 0 w5 := ⟨hG5, Fresh.nil_ _ _ _, hX5, hR5, hP5, hB5⟩
    have HW5 := hide (And.intro hw5 hg)
    clear hw5 hb25 gx1 gr1 hb1 d2 o2 hs2 hg hs1 hG5 hX5 hR5 hP5 hB5 z0 H3 hil
    go_wp2
    rw [← (unhide HW5).1, ← (unhide HW5).2]
    clear HW5
    go_loopw [5] (fun i wr => ∃ (k : Nat) (Aj : Option Addr) (cj : Nat), k ≤ m ∧ i = .int .i64 k ∧ MofAt w g q.length A2 c2 (invL q) 47 #[.slice A n c, .slice P m d] (ordL (S.map swapB) k) Aj cj wr ∧
        ((Aj = none ∧ cj = 0 ∧ ordL (S.map swapB) k = []) ∨ ∃ g', Aj = some ⟨g', 0, none⟩)) (fun i _ => m - (intOf i).toNat)
    case atStart => exact ⟨0, none, 0, Nat.zero_le _, rfl, hM, .inl ⟨rfl, rfl, ordL_zero _⟩⟩
    case round =>
      obtain ⟨k, Aj, cj, hk, rfl, hM, hsh⟩ := hrel
      have y0 := hM.hX.cell 0
      have y1 := hM.hX.cell 1
      simp only [List.getElem?_toArray, List.getElem?_cons_zero, List.getElem?_cons_succ] at y0 y1
      by_cases hlt : k < m
      · obtain ⟨ad, ad2, c', x, y, rfl, hz, cr, cx, cy⟩ := AtS.box (unhide HS) hlt (fun z hz => by obtain ⟨x, y, rfl, _⟩ := (unhide HBL).two z hz; rfl)
        have l1 := World.block_lt_of_cell? _ _ cr
        have l2 := World.block_lt_of_cell? _ _ cx
        have l3 := World.block_lt_of_cell? _ _ cy
        have cr := (hM.hB.cell l1).trans cr
        have cx := (hM.hB.cell l2).trans cx
        have cy := (hM.hB.cell l3).trans cy
        have m1 := Nat.lt_succ_of_lt l1
        have m2 := Nat.lt_succ_of_lt l2
        have m3 := Nat.lt_succ_of_lt l3
        have hzz : (S.map swapB)[k]? = some [y, x] := by rw [List.getElem?_map, hz]; rfl
        obtain ⟨zss, hzs⟩ : ∃ zss, zss = ordL (S.map swapB) k := ⟨_, rfl⟩
        obtain ⟨yss, hys⟩ : ∃ yss, yss = ordL (S.map swapB) (k + 1) := ⟨_, rfl⟩
        have hstep : yss = putL zss [y, x] := by rw [hys, hzs]; exact ordL_step hzz
        have hsmall : ∀ z ∈ zss, z.length ≤ 1048576 ∧ Small z := fun z hz' => by
          rw [hzs, ordL_mem] at hz'
          obtain ⟨s, hs, rfl⟩ := List.mem_map.1 (List.mem_of_mem_take hz')
          obtain ⟨u, v, rfl, hu, hv⟩ := (unhide HBL).two s hs
          have := unhide HL
          refine ⟨by simp [swapB], fun t ht => ?_⟩
          rw [swapB_two] at ht
          simp at ht
          rcases ht with rfl | rfl <;> omega
        have hlen : zss.length ≤ 1048576 := by
          rw [hzs]
          have h1 := ordL_len (S.map swapB) k
          rw [List.length_map] at h1
          have := unhide HLS
          omega
        have hxy : -9223372036854775808 ≤ x ∧ x ≤ 9223372036854775807 ∧ -9223372036854775808 ≤ y ∧ y ≤ 9223372036854775807 := by
          obtain ⟨u, v, e, hu, hv⟩ := (unhide HBL).two _ (List.mem_of_getElem? hz)
          simp only [List.cons.injEq, and_true] at e
          obtain ⟨rfl, rfl⟩ := e
          have := unhide HL
          omega
        rw [← hzs] at hM hsh
        have q1 := hM.hG.cell 1
        have f1 := hM.hG.frozen 1
        have hltg := hM.hG.lt
        simp only [List.getElem?_toArray, List.getElem?_cons_zero, List.getElem?_cons_succ] at q1
        have q1e : wr.drew.cell? ⟨g, 1, none⟩ = some (.slice Aj zss.length cj) := q1
        have q1d : ∀ o, (wr.drew.alloc o).cell? ⟨g, 1, none⟩ = some (.slice Aj zss.length cj) := fun o => (((Below.refl wr.heap.size wr).drew.alloc (Nat.le_refl _) o).cell (p := ⟨g, 1, none⟩) hltg).trans q1
        obtain ⟨w4, hw4⟩ : ∃ w4, w4 = wr.drew.alloc (.cells #[.int .i64 y, .int .i64 x] 3) := ⟨_, rfl⟩
        have hb4 : Below wr.heap.size wr w4 := by rw [hw4]; exact (Below.refl wr.heap.size wr).drew.alloc (Nat.le_refl _) _
        have hu4 : Ints w4 wr.heap.size (.slice (some ⟨wr.heap.size, 0, none⟩) 2 2) [y, x] := by rw [hw4]; exact Ints.two2 wr.drew wr.heap.size y x (Nat.le_refl _)
        have ha4 := hu4.arg (by simp) (Nat.le_refl _) (fun t ht => by simp at ht; rcases ht with rfl | rfl <;> omega)
        have hgs : g + 1 ≤ w4.heap.size := by have := hb4.size; omega
        have HPUT := hide (l3putE_any (g + 1) zss Aj cj _ _ _ _ [y, x] w4 (hM.hF.below hb4).intsS hsh ha4 hgs hsmall hlen)
        rw [← hstep, hw4] at HPUT
        have hb4' := hb4.mono (show g + 1 ≤ wr.heap.size by omega)
        rw [hw4] at hb4'
        have HMM := hide hM
        have HY := hide hys
        have hbl : Below (w.heap.size + 1) wr wr.drew := (Below.refl _ _).drew
        have hbl4 := fun o => hbl.alloc (show w.heap.size + 1 ≤ wr.drew.heap.size by show w.heap.size + 1 ≤ wr.heap.size; omega) o
        have lg : w.heap.size + 1 ≤ g := by omega
        have lw : w.heap.size < w.heap.size + 1 := Nat.lt_succ_self _
        clear hz hzz hzs hys hstep hsmall hlen hM hsh hw4 hb4 hu4 ha4 hgs y0
        go_wp2
--REGION
        refine wp_region_held_drew (S := fun w' => w'.cell? ⟨w.heap.size, 1, none⟩ = some (.slice (some ad) m d) ∧ w'.cell? (ad.add k) = some (.slice (some ad2) 2 c') ∧ w'.cell? ad2 = some (.int .i64 x) ∧ w'.cell? ⟨ad2.block, ad2.off + 1, none⟩ = some (.int .i64 y) ∧ Below (w.heap.size + 1) wr w') (by kernel_rfl) ?_ (fun hHeld => ?_)
        · exact keep_boxes y1 cr cx cy lw m1 m2 m3 (hbl)
        refine wpAnyH_take (i := 0) (v := ?_) rfl (by kernel_rfl) (by kernel_rfl) (by kernel_rfl) (fun _ _ _ h => h) (Or.inl ⟨by rfl, ?_⟩) (by assumption) ?_
        rotate_left
        · intro w hSw
          (try dsimp only at hSw)
          go_simp
          all_goals with_reducible rfl
        simp only [Act.put]
        refine wpAnyH_take (i := 2) (v := ?_) rfl (by kernel_rfl) (by kernel_rfl) (by kernel_rfl) (fun _ _ _ h => h) (Or.inl ⟨by rfl, ?_⟩) (by assumption) ?_
        rotate_left
        · intro w hSw
          (try dsimp only at hSw)
          go_simp
          all_goals with_reducible rfl
        simp only [Act.put]
        refine wpAnyH_take (i := 3) (v := ?_) rfl (by kernel_rfl) (by kernel_rfl) (by kernel_rfl) (fun _ _ _ h => h) (Or.inl ⟨by rfl, ?_⟩) (by assumption) ?_
        rotate_left
        · intro w hSw
          (try dsimp only at hSw)
          go_simp
          all_goals with_reducible rfl
        simp only [Act.put]
        refine wpAnyH_take (i := 4) (v := ?_) rfl (by kernel_rfl) (by kernel_rfl) (by kernel_rfl) (fun _ _ _ h => h) (Or.inl ⟨by rfl, ?_⟩) (by assumption) ?_
        rotate_left
        · intro w hSw
          (try dsimp only at hSw)
          go_simp
          all_goals with_reducible rfl
        simp only [Act.put]
        refine wpAnyH_take (i := 5) (v := ?_) rfl (by kernel_rfl) (by kernel_rfl) (by kernel_rfl) (fun _ _ _ h => h) (Or.inl ⟨by rfl, ?_⟩) (by assumption) ?_
        rotate_left
        · intro w hSw
          (try dsimp only at hSw)
          go_simp
          all_goals with_reducible rfl
        simp only [Act.put]
        refine wpAnyH_take (i := 6) (v := ?_) rfl (by kernel_rfl) (by kernel_rfl) (by kernel_rfl) (fun _ _ _ h => h) (Or.inl ⟨by rfl, ?_⟩) (by assumption) ?_
        rotate_left
        · intro w hSw
          (try dsimp only at hSw)
          go_simp
          all_goals with_reducible rfl
        simp only [Act.put]
        refine wpAnyH_take (i := 7) (v := ?_) rfl (by kernel_rfl) (by kernel_rfl) (by kernel_rfl) (fun _ _ _ h => h) (Or.inl ⟨by rfl, ?_⟩) (by assumption) ?_
        rotate_left
        · intro w hSw
          (try dsimp only at hSw)
          go_simp
          all_goals with_reducible rfl
        simp only [Act.put]
        refine wpAnyH_take (i := 8) (v := ?_) rfl (by kernel_rfl) (by kernel_rfl) (by kernel_rfl) (fun _ _ _ h => h) (Or.inl ⟨by rfl, ?_⟩) (by assumption) ?_
        rotate_left
        · intro w hSw
          (try dsimp only at hSw)
          go_simp
          all_goals with_reducible rfl
        simp only [Act.put]
        refine wpAnyH_take (i := 9) (v := ?_) rfl (by kernel_rfl) (by kernel_rfl) (by kernel_rfl) (fun _ _ _ h => h) (Or.inl ⟨by rfl, ?_⟩) (by assumption) ?_
        rotate_left
        · intro w hSw
          (try dsimp only at hSw)
          go_simp
          all_goals with_reducible rfl
        simp only [Act.put]
        refine wpAnyH_take (i := 10) (v := ?_) rfl (by kernel_rfl) (by kernel_rfl) (by kernel_rfl) (fun _ _ _ h => h) (Or.inl ⟨by rfl, ?_⟩) (by assumption) ?_
        rotate_left
        · intro w hSw
          (try dsimp only at hSw)
          go_simp
          all_goals with_reducible rfl
        simp only [Act.put]
        refine wpAnyH_take (i := 11) (v := ?_) rfl (by kernel_rfl) (by kernel_rfl) (by kernel_rfl) (fun _ _ _ h => h) (Or.inl ⟨by rfl, ?_⟩) (by assumption) ?_
        rotate_left
        · intro w hSw
          (try dsimp only at hSw)
          go_simp
          all_goals with_reducible rfl
        simp only [Act.put]
        refine wpAnyH_take (i := 12) (v := ?_) rfl (by kernel_rfl) (by kernel_rfl) (by kernel_rfl) (fun _ _ _ h => h) (Or.inl ⟨by rfl, ?_⟩) (by assumption) ?_
        rotate_left
        · intro w hSw
          (try dsimp only at hSw)
          go_simp
          all_goals with_reducible rfl
        simp only [Act.put]
        refine wpAnyH_take (i := 13) (v := ?_) rfl (by kernel_rfl) (by kernel_rfl) (by kernel_rfl) (fun _ _ _ h => h) (Or.inl ⟨by rfl, ?_⟩) (by assumption) ?_
        rotate_left
        · intro w hSw
          (try dsimp only at hSw)
          go_simp
          all_goals with_reducible rfl
        simp only [Act.put]
        refine wpAnyH_take (i := 14) (v := ?_) rfl (by kernel_rfl) (by kernel_rfl) (by kernel_rfl) (fun _ _ _ h => h) (Or.inl ⟨by rfl, ?_⟩) (by assumption) ?_
        rotate_left
        · intro w hSw
          (try dsimp only at hSw)
          go_simp
          all_goals with_reducible rfl
        simp only [Act.put]
        refine wpAnyH_take (i := 15) (v := ?_) rfl (by kernel_rfl) (by kernel_rfl) (by kernel_rfl) (fun _ _ _ h => h) (Or.inl ⟨by rfl, ?_⟩) (by assumption) ?_
        rotate_left
        · intro w hSw
          (try dsimp only at hSw)
          go_simp
          all_goals with_reducible rfl
        simp only [Act.put]
        refine wpAnyH_ready (rs := [1, 16]) (by kernel_rfl) (by simp) ?_
        refine AllReadyH.cons rfl (fun K hK => ?_) (AllReadyH.cons rfl (fun K hK => ?_) (AllReadyH.nil))
        · skip
          go_simp
          refine hK.out _ _ ?_ (fun hHeld => ?_)
          · (try dsimp only)
            first | exact keep_boxes y1 cr cx cy lw m1 m2 m3 hbl | exact keep_boxes y1 cr cx cy lw m1 m2 m3 (hbl4 _)
          clear hK K
          try simp only [Act.put]
          refine wpAnyH_ready (rs := [16]) (by kernel_rfl) (by simp) ?_
          refine AllReadyH.cons rfl (fun K hK => ?_) (AllReadyH.nil)
          go_simp
          refine hK.out _ _ ?_ (fun hHeld => ?_)
          · (try dsimp only)
            exact keep_boxes y1 cr cx cy lw m1 m2 m3 (hbl4 _)
          clear hK K
          try simp only [Act.put]
          refine wpAnyH_ready (rs := [17]) (by kernel_rfl) (by simp) ?_
          refine AllReadyH.cons rfl (fun K hK => ?_) (AllReadyH.nil)
          go_simp
          go_at_call 84
          refine (unhide HPUT).mono ?_
          rintro e w7 ⟨v7, rfl, ⟨hI7, g7, c7, rfl⟩, hb7', hk7⟩
          have hb7 : Below (w.heap.size + 1) wr w7 := (hb4'.trans hb7').mono (by omega)
          have r1' := ((unhide HMM).hG.below (hb4'.trans hb7') (Nat.lt_succ_self g)).cell 1
          have f1' := ((unhide HMM).hG.below (hb4'.trans hb7') (Nat.lt_succ_self g)).frozen 1
          have l1' := ((unhide HMM).hG.below (hb4'.trans hb7') (Nat.lt_succ_self g)).lt
          simp only [List.getElem?_toArray, List.getElem?_cons_zero, List.getElem?_cons_succ] at r1'
          dsimp only
          refine hK.out _ _ ?_ (fun hHeld => ?_)
          · (try dsimp only)
            exact keep_boxes y1 cr cx cy lw m1 m2 m3 (hb7)
          clear hK K
          try simp only [Act.put]
          refine wpAnyH_ready (rs := [18]) (by kernel_rfl) (by simp) ?_
          refine AllReadyH.cons rfl (fun K hK => ?_) (AllReadyH.nil)
          go_simp
          refine hK.out _ _ ?_ (fun hHeld => ?_)
          · (try dsimp only)
            exact keep_boxes y1 cr cx cy lw m1 m2 m3 (hb7)
          clear hK K
          try simp only [Act.put]
          refine wpAnyH_ready (rs := [19]) (by kernel_rfl) (by simp) ?_
          refine AllReadyH.cons rfl (fun K hK => ?_) (AllReadyH.nil)
          go_simp
          refine hK.out _ _ ?_ (fun hHeld => ?_)
          · (try dsimp only)
            exact keep_boxes y1 cr cx cy lw m1 m2 m3 (hb7.setCell (p := ⟨g, 1, none⟩) (by show w.heap.size + 1 ≤ g; omega) _)
          clear hK K
          try simp only [Act.put]
          refine wpAnyH_done (by kernel_rfl) ?_ _
          have hM' := (unhide HMM).next hU5 hg1 (hb4'.trans hb7') (Fresh.of_under hI7 hU5)
          have HN := hide (show MofAt w g q.length A2 c2 (invL q) 47 #[.slice A n c, .slice (some ad) m d] (ordL (S.map swapB) (k + 1)) (some ⟨g7, 0, none⟩) c7 (w7.setCell ⟨g, 1, none⟩ (.slice (some ⟨g7, 0, none⟩) yss.length c7)) from by rw [← unhide HY]; exact hM')
          clear hM' HMM q1 f1 q1e q1d r1' f1' l1' hb7 hb7' hb4' hI7 hk7 HY hltg y1 cr cx cy l1 l2 l3 m1 m2 m3 HPUT hbl hbl4 hHeld
          generalize w7.setCell ⟨g, 1, none⟩ (.slice (some ⟨g7, 0, none⟩) yss.length c7) = w8 at HN ⊢
          go_wp2
          go_roundw
          case rel => exact ⟨k + 1, _, c7, by omega, by go_num, unhide HN, .inr ⟨g7, rfl⟩⟩
          case measure => simp [intOf]; omega
        · skip
          go_simp
          refine hK.out _ _ ?_ (fun hHeld => ?_)
          · (try dsimp only)
            exact keep_boxes y1 cr cx cy lw m1 m2 m3 (hbl4 _)
          clear hK K
          try simp only [Act.put]
          refine wpAnyH_ready (rs := [1]) (by kernel_rfl) (by simp) ?_
          refine AllReadyH.cons rfl (fun K hK => ?_) (AllReadyH.nil)
          go_simp
          refine hK.out _ _ ?_ (fun hHeld => ?_)
          · (try dsimp only)
            first | exact keep_boxes y1 cr cx cy lw m1 m2 m3 hbl | exact keep_boxes y1 cr cx cy lw m1 m2 m3 (hbl4 _)
          clear hK K
          try simp only [Act.put]
          refine wpAnyH_ready (rs := [17]) (by kernel_rfl) (by simp) ?_
          refine AllReadyH.cons rfl (fun K hK => ?_) (AllReadyH.nil)
          go_simp
          go_at_call 84
          refine (unhide HPUT).mono ?_
          rintro e w7 ⟨v7, rfl, ⟨hI7, g7, c7, rfl⟩, hb7', hk7⟩
          have hb7 : Below (w.heap.size + 1) wr w7 := (hb4'.trans hb7').mono (by omega)
          have r1' := ((unhide HMM).hG.below (hb4'.trans hb7') (Nat.lt_succ_self g)).cell 1
          have f1' := ((unhide HMM).hG.below (hb4'.trans hb7') (Nat.lt_succ_self g)).frozen 1
          have l1' := ((unhide HMM).hG.below (hb4'.trans hb7') (Nat.lt_succ_self g)).lt
          simp only [List.getElem?_toArray, List.getElem?_cons_zero, List.getElem?_cons_succ] at r1'
          dsimp only
          refine hK.out _ _ ?_ (fun hHeld => ?_)
          · (try dsimp only)
            exact keep_boxes y1 cr cx cy lw m1 m2 m3 (hb7)
          clear hK K
          try simp only [Act.put]
          refine wpAnyH_ready (rs := [18]) (by kernel_rfl) (by simp) ?_
          refine AllReadyH.cons rfl (fun K hK => ?_) (AllReadyH.nil)
          go_simp
          refine hK.out _ _ ?_ (fun hHeld => ?_)
          · (try dsimp only)
            exact keep_boxes y1 cr cx cy lw m1 m2 m3 (hb7)
          clear hK K
          try simp only [Act.put]
          refine wpAnyH_ready (rs := [19]) (by kernel_rfl) (by simp) ?_
          refine AllReadyH.cons rfl (fun K hK => ?_) (AllReadyH.nil)
          go_simp
          refine hK.out _ _ ?_ (fun hHeld => ?_)
          · (try dsimp only)
            exact keep_boxes y1 cr cx cy lw m1 m2 m3 (hb7.setCell (p := ⟨g, 1, none⟩) (by show w.heap.size + 1 ≤ g; omega) _)
          clear hK K
          try simp only [Act.put]
          refine wpAnyH_done (by kernel_rfl) ?_ _
          have hM' := (unhide HMM).next hU5 hg1 (hb4'.trans hb7') (Fresh.of_under hI7 hU5)
          have HN := hide (show MofAt w g q.length A2 c2 (invL q) 47 #[.slice A n c, .slice (some ad) m d] (ordL (S.map swapB) (k + 1)) (some ⟨g7, 0, none⟩) c7 (w7.setCell ⟨g, 1, none⟩ (.slice (some ⟨g7, 0, none⟩) yss.length c7)) from by rw [← unhide HY]; exact hM')
          clear hM' HMM q1 f1 q1e q1d r1' f1' l1' hb7 hb7' hb4' hI7 hk7 HY hltg y1 cr cx cy l1 l2 l3 m1 m2 m3 HPUT hbl hbl4 hHeld
          generalize w7.setCell ⟨g, 1, none⟩ (.slice (some ⟨g7, 0, none⟩) yss.length c7) = w8 at HN ⊢
          go_wp2
          go_roundw
          case rel => exact ⟨k + 1, _, c7, by omega, by go_num, unhide HN, .inr ⟨g7, rfl⟩⟩
          case measure => simp [intOf]; omega
--END-REGION
      · obtain rfl : m = k := by omega
        have eT : ordL (S.map swapB) m = turnS S := by unfold turnS; rw [unhide HLS]
        rw [eT] at hM
        have r0 := hM.hG.cell 0
        have r1 := hM.hG.cell 1
        have s0 := hM.hR.cell 0
        have s1 := hM.hR.cell 1
        have e0 := hM.hR.frozen 0
        have e1 := hM.hR.frozen 1
        have hltr := hM.hR.lt
        simp only [List.getElem?_toArray, List.getElem?_cons_zero, List.getElem?_cons_succ] at r0 r1 s0 s1
        have hil : (invL q).length = q.length := invL_length q
        have HM := hide hM
        have HIL := hide hil
        clear hM eT hsh hil
        go_wp2
        have hM := unhide HM
        have hWe := (hM.hR.put 0 (.slice A2 q.length c2)).put 1 (.slice Aj (turnS S).length cj)
        refine bodyPost_ret (v := .tuple #[.agg #[.slice A2 q.length c2, .slice Aj (turnS S).length cj], .bool true]) (results_mesh Try.results46 _ _ (w.heap.size + 1) 47 _ (0, 0) _ rfl hWe Try.underlying47 rfl meshInfo') rfl ?_
        exact meshB_end true (hM.end_ hg1) (by omega) (by omega) hM.hB
end Go.Proofs.Ytnnpefgbneldiaa
