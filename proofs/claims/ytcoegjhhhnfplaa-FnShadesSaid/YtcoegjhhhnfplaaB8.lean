/-
  Words and contracts that the laws lean on, bundled: Shade, CntM, MeshR, NearW, NearC, PatF, NearS, NearV, Aside.
-/
import Derived.Test.YtcoegjhhhnfplaaB6
import Derived.Test.YtcoegjhhhnfplaaB2
import Derived.Test.YtcoegjhhhnfplaaB3
import Derived.Deep.RegionHeld3
import Derived.Test.YtcoegjhhhnfplaaB7
import Derived.Test.YtcoegjhhhnfplaaB5
import Derived.Test.YtcoegjhhhnfplaaB4
import Derived.Laws.ResultCell
import Derived.BigQuiet
import Derived.Deep.RegionLaw
import Derived.Maps.AppendAt

/-
  impl.shadingOf, maps.Clone of a map of boxes, shading.with.
-/

namespace Go.Proofs.Ytcoegjhhhnfplaa
set_option maxRecDepth 100000
open Go.RowKit Go.Maps
theorem keep_in {B : Nat} {wr w : World} {p q : Addr} {v u : Value} (h : wr.cell? p = some v) (h' : wr.cell? q = some u) (hp : p.block < B) (hq : q.block < B) (hb : Below B wr w) : w.cell? p = some v ∧ w.cell? q = some u ∧ Below B wr w := ⟨(hb.cell hp).trans h, (hb.cell hq).trans h', hb⟩
set_option maxHeartbeats 2000000 in
theorem ishading_any (P : Option Addr) (m d : Nat) (S : List (List Int)) (w : World) (hS : AtS w P m S) (hm : m ≤ 1048576) (h2 : ∀ z ∈ S, z.length = 2) :
    Calls Try.prog 46 #[.slice P m d] w fun e w' => e = .returned (.map (some w.heap.size)) ∧ Boxes w' w.heap.size m S ∧ Below w.heap.size w w' := by
  have hB0 := Boxes.new w
  have hb0 : Below w.heap.size w (w.alloc (.map #[] 0)) := (Below.refl _ w).alloc (Nat.le_refl _) _
  have hmk := run_makeMap (P := Try.prog) 71 w
  have HS := hide hS
  have H2 := hide h2
  have hSl := hS.1
  clear hS h2
  go_enter Try.func46, Try.ntmps46
  go_wp2
  obtain ⟨g, hg⟩ : ∃ g, g = w.heap.size := ⟨_, rfl⟩
  have hBg : Boxes (w.alloc (.map #[] 0)) g 0 [] := by rw [hg]; exact hB0
  rw [← hg]
  have HG := hide hg
  clear hB0 hg
  go_loopw [9] (fun i wr => ∃ k : Nat, k ≤ m ∧ i = .int .i64 k ∧ Below w.heap.size w wr ∧ Boxes wr g k (S.take k)) (fun i _ => m - (intOf i).toNat)
  case atStart => exact ⟨0, Nat.zero_le _, rfl, hb0, by simpa using hBg⟩
  case round =>
    obtain ⟨k, hk, rfl, hd, hB⟩ := hrel
    clear hBg hb0
    by_cases hlt : k < m
    · obtain ⟨ad, A', c', z, rfl, hz, hcell, hI⟩ := (unhide HS).2 w (Below.refl _ _) k hlt
      have hz2 := unhide H2 z (List.mem_of_getElem? hz)
      obtain ⟨x, y, rfl, ad2, hA2, hcx, hcy⟩ : ∃ x y, z = [x, y] ∧ ∃ ad2, A' = some ad2 ∧ w.cell? (ad2.add 0) = some (.int .i64 x) ∧ w.cell? (ad2.add 1) = some (.int .i64 y) := by
        match z, hz2 with
        | [x, y], _ =>
          obtain ⟨ad2, u, hA, _, hu, hx⟩ := hI.reads.at_ (show 0 < [x, y].length by simp)
          obtain ⟨ad3, u3, hA3, _, hu3, hx3⟩ := hI.reads.at_ (show 1 < [x, y].length by simp)
          obtain rfl : ad2 = ad3 := by rw [hA] at hA3; injection hA3
          refine ⟨x, y, rfl, ad2, hA, ?_, ?_⟩
          · rw [hx]; exact hu.symm
          · rw [hx3]; exact hu3.symm
      subst hA2
      have hsm := hI.small
      have hx9 := hsm x (by simp)
      have hy9 := hsm y (by simp)
      have hcx0 : w.cell? ad2 = some (.int .i64 x) := by rw [show ad2 = ad2.add 0 by unfold Addr.add; split <;> simp_all]; exact hcx
      have hcy0 : w.cell? ⟨ad2.block, ad2.off + 1, none⟩ = some (.int .i64 y) := by rw [← show ad2.add 1 = ⟨ad2.block, ad2.off + 1, none⟩ by unfold Addr.add; rw [if_neg (by omega)]]; exact hcy
      have l1 := World.block_lt_of_cell? _ _ hcx0
      have l2 := World.block_lt_of_cell? _ _ hcy0
      have l3 := World.block_lt_of_cell? _ _ hcell
      have hcw := (hd.cell l3).trans hcell
      have hnext : S.take (k + 1) = S.take k ++ [[x, y]] := by rw [List.take_add_one, hz]; rfl
      have HN := hide hnext
      have hlen2 : [x, y].length = 2 := rfl
      rw [hlen2] at hcw
      clear hz hz2 hcx hcy hI hsm hnext hcell hlen2 l3
      obtain ⟨w5, hrun, hB5, hg5⟩ := Boxes.store (w := wr.drew) hB (by unfold maxLen; omega) (x := x) (y := y) (WalkArith.wf_i64 (by omega)) (WalkArith.wf_i64 (by omega))
      have hb5 : Below w.heap.size w w5 := (hd.drew).grown hg5 (by have := hd.size; simpa using this) (fun j e => by cases e; have := unhide HG; omega)
      go_wp2
      go_region_held3 (fun w' => w'.cell? ad2 = some (.int .i64 x) ∧ w'.cell? ⟨ad2.block, ad2.off + 1, none⟩ = some (.int .i64 y) ∧ Below w.heap.size w w') ((refine keep_in hcx0 hcy0 l1 l2 ?_; first | assumption | (apply Below.drew; assumption)))
        (fail)
      have HB5 := hide hB5
      clear hB5 hg5 hB hrun
      go_wp2
      go_roundw
      case rel => exact ⟨k + 1, by omega, by go_num, hb5, by rw [unhide HN]; exact unhide HB5⟩
      case measure => simp [intOf]; omega
    · obtain rfl : m = k := by omega
      have hB2 := hB
      rw [← hSl, List.take_length] at hB2
      have HB2 := hide hB2
      clear hB hB2
      go_wp2
      go_ret
      exact ⟨by rw [unhide HG]; rfl, by rw [← unhide HG]; rw [hSl] at HB2; exact unhide HB2, hd⟩
set_option maxHeartbeats 2000000 in
theorem mclone_any (b m : Nat) (S : List (List Int)) (w : World) (hB : Boxes w b m S) :
    Calls Try.prog 96 #[.map (some b)] w fun e w' => e = .returned (.map (some w.heap.size)) ∧ Boxes w' w.heap.size m S ∧ Below w.heap.size w w' := by
  obtain ⟨D, ⟨es, clock, hb, hF⟩, hD⟩ := hB
  have HR : Hid (Boxes (w.alloc (.map es clock)) w.heap.size m S) := hide ⟨D, ⟨es, clock, (MapKept.heap_alloc w _).1, hF⟩, hD⟩
  have hB1 : Below w.heap.size w (w.alloc (.map es clock)) := (Below.refl _ w).alloc (Nat.le_refl _) _
  have hq := fun w => run_eql_map_nil_sl (P := Try.prog) w 71 _ _ (some b) Try.underlying71
  clear hF hD
  go_enter Try.func96, Try.ntmps96
  go_wp2
  rw [run_callFunc_extern Try.func118 (by kernel_rfl) (by kernel_rfl) (by kernel_rfl) (e := Extern.MapsClone.clone) (by kernel_rfl), run_maps_clone_sl w 71 hb]
  simp only [Result.andThen]
  rw [Oper.upon_value]
  go_wp2
  rw [run_typeAssert_map_sl _ 71 _ _ _ _ Try.underlying71]
  simp only [Result.andThen]
  rw [Oper.upon_value]
  go_wp2
  go_ret
  exact ⟨rfl, unhide HR, hB1⟩
set_option maxHeartbeats 2000000 in
theorem iwith_any (b m : Nat) (S : List (List Int)) (x y : Int) (hm : m < 1099511627776) (hx : (Lit.int .i64 x).wf = true) (hy : (Lit.int .i64 y).wf = true) (w : World) (hB : Boxes w b m S) :
    Calls Try.prog 69 #[.map (some b), .agg #[.int .i64 x, .int .i64 y]] w fun e w' => ∃ g, e = .returned (.map (some g)) ∧ w.heap.size ≤ g ∧ Boxes w' g (m + 1) (S ++ [[x, y]]) ∧ Below w.heap.size w w' := by
  obtain ⟨w0, hw0⟩ : ∃ w0, w0 = w.alloc (.cells #[.int .i64 x, .int .i64 y] 86) := ⟨_, rfl⟩
  have b0 : Below w.heap.size w w0 := by rw [hw0]; exact (Below.refl _ w).alloc (Nat.le_refl _) _
  have g0 : Whole w0 w.heap.size 86 #[.int .i64 x, .int .i64 y] := by rw [hw0]; exact Whole.new _ _ _
  have hs0 : w0.heap.size = w.heap.size + 1 := by rw [hw0]; simp
  have H1 := hide (mclone_any b m S w0 (hB.later b0))
  have HW := hide hw0
  clear hB hw0
  go_enter Try.func69, Try.ntmps69
  go_wp2_with fail
  rw [← unhide HW]
  refine (unhide H1).mono ?_
  rintro e w1 ⟨rfl, hB1, d1⟩
  have b1 := below_after b0 d1
  have g1 := g0.below d1 g0.lt
  have q0 := g1.cell 0
  have q1 := g1.cell 1
  simp only [List.getElem?_toArray, List.getElem?_cons_zero, List.getElem?_cons_succ] at q0 q1
  obtain ⟨w2, hrun, hB2, hg2⟩ := Boxes.store hB1 (by unfold maxLen; omega) hx hy
  have hb2 : Below w.heap.size w w2 := b1.grown hg2 b1.size (fun j e => by cases e; omega)
  rw [hs0] at hrun hB2
  have HB2 := hide hB2
  clear H1 hB1 d1 g0 g1 hB2 hg2
  go_wp2
  go_ret
  exact ⟨_, rfl, by omega, unhide HB2, hb2⟩
end Go.Proofs.Ytcoegjhhhnfplaa


/-
  impl.CountMesh: a loop over the shaded occurrences that counts them.
-/

namespace Go.Proofs.Ytcoegjhhhnfplaa
set_option maxRecDepth 100000
open Go.RowKit Go.Shelf
attribute [local go_sem] Oper.semAt_some

theorem chR_room_all9 : ∀ n, n < 9 → ∀ k, k < 9 → (chR n k).length ≤ 256 := by decide +kernel
theorem chR_room9 {n k : Nat} (hn : n ≤ 8) (hk : k ≤ 8) : (chR n k).length ≤ 256 := chR_room_all9 n (by omega) k (by omega)
theorem mesh_two {q : List Int} {S : List (List Int)} (h : meshOK q S = true) : ∀ z ∈ S, z.length = 2 := fun z hz => by
  obtain ⟨k, hk⟩ := List.getElem?_of_mem hz
  have := boxesK_box (meshOK_iff.1 h).2.2 (List.getElem?_eq_some_iff.1 hk).1
  rw [getD_of hk] at this
  unfold boxOK at this
  simp only [Bool.and_eq_true, decide_eq_true_eq] at this
  exact this.1.1
theorem keep_two' {B : Nat} {wr w : World} {p q : Addr} {v u : Value} (h : wr.cell? p = some v) (h' : wr.cell? q = some u) (hp : p.block < B) (hq : q.block < B) (hb : Below B wr w) : w.cell? p = some v ∧ w.cell? q = some u ∧ Below B wr w := ⟨(hb.cell hp).trans h, (hb.cell hq).trans h', hb⟩
set_option maxRecDepth 100000 in
set_option maxHeartbeats 4000000 in
theorem cntm_yes (A A' P : Option Addr) (n c B n' c' B' m d : Nat) (p q : List Int) (S : List (List Int)) (w : World) (h : Arg w B A n c p) (h' : Arg w B' A' n' c' q) (h2 : AtS w P m S) (hm : m ≤ 1048576) (hp : isP p = true) (hok : meshOK q S = true) :
    Calls Try.prog 12 #[.slice A n c, .agg #[.slice A' n' c', .slice P m d]] w (GivesN w ((meshR p q S).length : Nat)) := by
  obtain ⟨hq, _, _⟩ := meshOK_iff.1 hok
  have hn8 : n ≤ 8 := by have := isP_le hp; have := h.len; omega
  have hn8' : n' ≤ 8 := by have := isP_le hq; have := h'.len; omega
  have hBu := h.under
  have hBu' := h'.under
  obtain ⟨w0, hw0⟩ : ∃ w0, w0 = w.alloc (.cells #[.slice A' n' c', .slice P m d] 27) := ⟨_, rfl⟩
  have b0 : Below w.heap.size w w0 := by rw [hw0]; exact (Below.refl _ w).alloc (Nat.le_refl _) _
  have g0 : Whole w0 w.heap.size 27 #[.slice A' n' c', .slice P m d] := by rw [hw0]; exact Whole.new _ _ _
  have H1 := hide (iisperm_any A n c B p true hp w0 (h.below b0).reads (h.below b0).under h.le h.small)
  have H2 := hide (show ∀ w1, Below w.heap.size w w1 → _ from fun w1 d1 => imesh_any A' P n' c' B' m d q S w1 (h'.below d1) (h2.below d1) hm)
  have H3 := hide (show ∀ w2, Below w.heap.size w w2 → _ from fun w2 d2 => ishading_any P m d S w2 (h2.below d2) hm (mesh_two hok))
  have H4 := hide (fun g w2 => ishd_made A A' n c n' c' g w2)
  rw [hok] at H2
  have HT := hide (show ∀ w6, Below w.heap.size w w6 → ∀ bc g, w.heap.size < bc → bc < g → Boxes w6 g m S → TellsZ Fence.wide 3 Try.prog 85 #[.pointer (some ⟨w6.heap.size, 0, none⟩), .pointer (some ⟨w6.heap.size + 1, 0, none⟩), .pointer (some ⟨w6.heap.size + 2, 0, none⟩)] 11 (fun x : Value × List Int => #[x.1]) (KnH p q S)
      (Keep (fun k => k < w6.heap.size + 16 ∧ k ≠ bc ∧ k ≠ w6.heap.size + 3 ∧ k ≠ w6.heap.size + 4)) (fun xs => xs.map (·.2) = meshR p q S) (AllH p q S) 256 (((w6.alloc (.cells #[.slice A n c] 24)).alloc (.cells #[.slice A' n' c'] 24)).alloc (.cells #[.map (some g)] 71)) from fun w6 d6 bc g hbc hg hB => by
    have d7 : Below w6.heap.size w6 (((w6.alloc (.cells #[.slice A n c] 24)).alloc (.cells #[.slice A' n' c'] 24)).alloc (.cells #[.map (some g)] 71)) := (((Below.refl _ w6).alloc (Nat.le_refl _) _).alloc (by simp) _).alloc (by simp; omega) _
    have b2 := Boxed.new (w6.alloc (.cells #[.slice A n c] 24)) 24 (.slice A' n' c')
    have b3 := Boxed.new ((w6.alloc (.cells #[.slice A n c] 24)).alloc (.cells #[.slice A' n' c'] 24)) 71 (.map (some g))
    simp only [World.size_alloc] at b2 b3
    have hgl := hB.lt
    have hw := d6.size
    exact shd_tell A A' n c B n' c' B' p q S hp hq _ w6.heap.size (w6.heap.size + 1) (w6.heap.size + 2) g m 256 _ (h.below (below_after d6 d7)) (h'.below (below_after d6 d7)) (Boxed.alloc (Boxed.alloc (Boxed.new w6 _ _) _) _) (Boxed.alloc b2 _) b3 (hB.later d7)
      ⟨fun k hk => by omega, fun k hk => by omega, by omega, by omega, by omega, by omega, fun k h1 h2 => by simp at h1 h2; omega⟩ 3 (chR_room9 hn8 hn8'))
  refine (callsIn_wide (n := 4)).1 ?_
  refine callsIn_of_wp_marks Try.func12 rfl trivial ?_ rfl
  simp only [Try.ntmps12, List.size_toArray, List.length_cons, List.length_nil, Nat.reduceAdd, Nat.reduceSub, Array.replicate_succ, Array.replicate_zero, List.push_toArray, List.append_toArray, List.nil_append, List.cons_append]
  have HW0 := hide hw0
  clear h h' h2 hp hq hok hBu hBu' hw0
  gi_wp2_with fail
  rw [← unhide HW0]
  refine ⟨trivial, ?_⟩
  refine (callsIn_wide.2 (unhide H1)).mono ?_
  rintro e w1 ⟨rfl, d1⟩
  have d1' := below_after b0 d1
  have g1 := g0.below d1 g0.lt
  have x0 := g1.cell 0
  have x1 := g1.cell 1
  simp only [List.getElem?_toArray, List.getElem?_cons_zero, List.getElem?_cons_succ] at x0 x1
  have HX := hide (unhide H2 w1 d1')
  clear H1 H2 g0 b0 d1 HW0
  gi_wp2_with fail
  refine ⟨trivial, ?_⟩
  refine (callsIn_wide.2 (unhide HX)).mono ?_
  rintro e w2 ⟨rfl, d2⟩
  have d2' := below_after d1' d2
  have g2 := g1.below d2 g1.lt
  obtain ⟨bc, hbc⟩ : ∃ b, b = w2.heap.size := ⟨_, rfl⟩
  have hbcw : w.heap.size < bc := by have := g2.lt; omega
  obtain ⟨w3, hw3⟩ : ∃ w3, w3 = w2.alloc (.cells #[.int .i64 0] 3) := ⟨_, rfl⟩
  have hs3 : w3.heap.size = bc + 1 := by rw [hw3]; simp [hbc]
  have b23 : Below w2.heap.size w2 w3 := by rw [hw3]; exact (Below.refl _ w2).alloc (Nat.le_refl _) _
  have d3 := below_after d2' b23
  have g3 := g2.below b23 g2.lt
  have cc3 : Boxed w3 bc 3 (.int .i64 0) := by rw [hw3, hbc]; exact Boxed.new w2 _ _
  have z0 := g3.cell 0
  have z1 := g3.cell 1
  simp only [List.getElem?_toArray, List.getElem?_cons_zero, List.getElem?_cons_succ] at z0 z1
  have l0 : w.heap.size < w3.heap.size := by omega
  have hbd := Below.refl w3.heap.size w3
  have HW3 := hide hw3
  have HG := hide (⟨d3, cc3, hs3, hbc⟩ : Below w.heap.size w w3 ∧ Boxed w3 bc 3 (.int .i64 0) ∧ w3.heap.size = bc + 1 ∧ bc = w2.heap.size)
  have H3' := hide (unhide H3 w3.drew d3.drew)
  clear HX d1' g1 x0 x1 d2 d2' g2 b23 d3 g3 cc3 hs3 hw3 hbc H3
  gi_wp2
  rw [← (unhide HG).2.2.2, ← unhide HW3]
  refine wpIn_wide.2 ?_
  go_region_held3 (fun w' => w'.cell? ⟨w.heap.size, 0, none⟩ = some (.slice A' n' c') ∧ w'.cell? ⟨w.heap.size, 1, none⟩ = some (.slice P m d) ∧ Below w3.heap.size w3 w') ((refine keep_two' z0 z1 l0 l0 ?_; first | assumption | (apply Below.drew; assumption)))
    (first
      | (go_at_call 46; refine (unhide H3').mono ?_; rintro e w6 ⟨rfl, hB6, hb6⟩; have hb6' : Below w3.heap.size w3 w6 := below_after (hbd.drew) hb6)
      | (go_at_call 45; refine (unhide H4 _ _).mono ?_; rintro e w7 ⟨rfl, hw7⟩; have hb7 : Below w3.heap.size w3 w7 := below_after hb6' (by rw [hw7]; exact (((Below.refl _ w6).alloc (Nat.le_refl _) _).alloc (by simp) _).alloc (by simp; omega) _); have HW7 := hide hw7; clear hw7))
  obtain ⟨d3, cc3, hs3, hbc2⟩ := unhide HG
  have hseq := unhide HT w6 (below_after d3 hb6') bc w3.heap.size hbcw (by omega) hB6
  rw [← unhide HW7] at hseq
  have hs7 : w7.heap.size = w6.heap.size + 3 := by rw [unhide HW7]; simp
  have cc7 : Boxed w7 bc 3 (.int .i64 0) := boxed_later cc3 hb7
  have d7 : Below w.heap.size w w7 := below_after d3 hb7
  have hs6 : bc < w6.heap.size := by have := hb6'.size; omega
  clear HG H3' H4 HT HW3 HW7 d3 cc3 hB6 hb6 hb6' hb7 hbd z0 z1 l0 hbc2
  gi_wp2
  refine range_zone rfl (by decide) (gf := 85) (lb := #[.pointer (some ⟨w6.heap.size, 0, none⟩), .pointer (some ⟨w6.heap.size + 1, 0, none⟩), .pointer (some ⟨w6.heap.size + 2, 0, none⟩)]) rfl trivial (enters_of Try.func85 (by kernel_rfl) rfl)
    hseq (fun h k => h.trans k) (fun W r r' hd => Keep.putObj W (by omega) _) (fun _ => rfl) (fun U V x r r' hdU hdV h => ⟨kn_row _ U V x r r' hdU hdV h.1, h.2⟩)
    (fun pre V => Boxed V bc 3 (.int .i64 (pre.length : Nat)) ∧ Below w.heap.size w V ∧ w6.heap.size + 3 ≤ V.heap.size)
    (fun _ _ _ => False)
    (fun pre U V h hb' => ⟨Boxed.but h.1 hb' (by omega), h.2.1.trans (hb'.below (by omega) (by have := h.2.2; omega)), Nat.le_trans h.2.2 hb'.size⟩)
    (fun _ _ _ _ h _ => h)
    ⟨cc7, d7, by omega⟩
    (fun x => { tmps := #[.slice A n c, .agg #[.slice A' n' c', .slice P m d], undef, .pointer (some ⟨w.heap.size, 0, none⟩), .int .i64 0, .pointer (some ⟨bc, 0, none⟩), .slice A n c, .bool true, .bool false, .bool false, .agg #[.slice A' n' c', .slice P m d], .bool true, .bool false, .bool false,
      .slice A n c, .pointer (some ⟨w.heap.size, 0, none⟩), .slice A' n' c', .pointer (some ⟨w.heap.size, 1, none⟩), .slice P m d, .map (some w3.heap.size),
      .func (.func 85) #[] #[.pointer (some ⟨w6.heap.size, 0, none⟩), .pointer (some ⟨w6.heap.size + 1, 0, none⟩), .pointer (some ⟨w6.heap.size + 2, 0, none⟩)], x.1, undef, undef, undef], defers := [] }) ?assign ?body ?done ?stop
  case assign =>
    intro l x W K hK
    gi_wp2
    simp only [← Array.foldl_toList, Array.toList_zip, List.zip_cons_cons, List.zip_nil_left, List.foldl_cons, List.foldl_nil]
    exact hK
  case body =>
    rintro l pre ⟨u, zs⟩ U W ⟨hcU, hBU, hsU⟩ hzU hbU _ hlen
    dsimp only
    have hc := boxed_later hcU hbU
    have hBW := below_after hBU hbU
    have hsW := Nat.le_trans hsU hbU.size
    have hcell := hc.cell
    have hfz := hc.frozen
    have hg := grownBy_setCell' W bc (.int .i64 ((pre.length : Nat) + 1))
    have hg1 := hg.size
    have hend : (∀ r, Desk w7.heap.size r W → Desk w7.heap.size r (W.setCell ⟨bc, 0, none⟩ (.int .i64 ((pre.length : Nat) + 1)))) ∧ Keep (fun k => k < w6.heap.size + 16 ∧ k ≠ bc ∧ k ≠ w6.heap.size + 3 ∧ k ≠ w6.heap.size + 4) W (W.setCell ⟨bc, 0, none⟩ (.int .i64 ((pre.length : Nat) + 1))) ∧
        Boxed (W.setCell ⟨bc, 0, none⟩ (.int .i64 ((pre.length : Nat) + 1))) bc 3 (.int .i64 ((pre ++ [((u : Value), zs)]).length : Nat)) ∧ Below w.heap.size w (W.setCell ⟨bc, 0, none⟩ (.int .i64 ((pre.length : Nat) + 1))) ∧ w6.heap.size + 3 ≤ (W.setCell ⟨bc, 0, none⟩ (.int .i64 ((pre.length : Nat) + 1))).heap.size :=
      ⟨fun r hd => ⟨(hg.block _ hd.lt (by simp; omega)).trans hd.rec_, (hg.block _ (by have := hd.lt; omega) (by simp; omega)).trans hd.marks⟩,
       Keep.setCell W (by omega) _, by have h1 := Boxed.set (.int .i64 ((pre.length : Nat) + 1)) hc; rw [List.length_append]; exact h1, hBW.setCell (p := ⟨bc, 0, none⟩) (by show w.heap.size ≤ bc; omega) _, by omega⟩
    have hwr : IntKind.i64.wrap ((pre.length : Nat) + 1) = ((pre.length : Nat) : Int) + 1 := by rw [IntKind.wrap_i64]; omega
    have HEND := hide hend
    clear hend hc hBW hsW hcU hBU hsU hg hg1 hseq d7 cc7 hs7 hs3
    gi_wp2
    exact unhide HEND
  case done =>
    rintro ys W hS ⟨hc, hB, hs⟩ hK
    have hcell := hc.cell
    rw [show ys.length = (meshR p q S).length from by rw [← hS, List.length_map]] at hcell
    have hBP : Below w.heap.size w (W.putObj w7.heap.size (.deferred none)) := hB.trans ((Below.refl _ W).grown (grownBy_putObj' W _ _) (by omega) (fun k e => by cases e; omega))
    clear hc hs7 hseq d7 cc7 hB hs3
    gi_wp2
    refine ⟨by simp, .inl ⟨_, _, rfl, run_takeDeferred hK, ?_⟩⟩
    refine ⟨_, results_tmp rfl _ _ _, ?_⟩
    exact ⟨rfl, hBP⟩
  case stop =>
    rintro c pre W _ h _
    exact h.elim
set_option maxHeartbeats 800000 in
theorem icntm_any (A A' P : Option Addr) (n c B n' c' B' m d : Nat) (p q : List Int) (S : List (List Int)) (w : World) (h : Arg w B A n c p) (h' : Arg w B' A' n' c' q) (h2 : AtS w P m S) (hm : m ≤ 1048576) :
    Calls Try.prog 12 #[.slice A n c, .agg #[.slice A' n' c', .slice P m d]] w (GivesN w (numMesh p q S)) := by
  obtain ⟨bp, hp⟩ : ∃ b, isP p = b := ⟨_, rfl⟩
  obtain ⟨bn, hok⟩ : ∃ b, meshOK q S = b := ⟨_, rfl⟩
  cases bp with
  | false =>
    obtain ⟨w0, hw0⟩ : ∃ w0, w0 = w.alloc (.cells #[.slice A' n' c', .slice P m d] 27) := ⟨_, rfl⟩
    have b0 : Below w.heap.size w w0 := by rw [hw0]; exact (Below.refl _ w).alloc (Nat.le_refl _) _
    have H1 := hide (iisperm_any A n c B p false hp w0 (h.below b0).reads (h.below b0).under h.le h.small)
    rw [numMesh_no (.inl hp)]
    have HW0 := hide hw0
    clear h h' h2 hp hok hw0
    go_enter Try.func12, Try.ntmps12
    go_wp2_with fail
    rw [← unhide HW0]
    refine (unhide H1).mono ?_
    rintro e w1 ⟨rfl, d1⟩
    have d := below_after b0 d1
    clear H1 HW0 b0 d1
    go_wp2
    go_ret
    exact ⟨rfl, d⟩
  | true =>
    cases bn with
    | true =>
      rw [numMesh_yes hp hok]
      exact cntm_yes A A' P n c B n' c' B' m d p q S w h h' h2 hm hp hok
    | false =>
      obtain ⟨w0, hw0⟩ : ∃ w0, w0 = w.alloc (.cells #[.slice A' n' c', .slice P m d] 27) := ⟨_, rfl⟩
      have b0 : Below w.heap.size w w0 := by rw [hw0]; exact (Below.refl _ w).alloc (Nat.le_refl _) _
      have g0 : Whole w0 w.heap.size 27 #[.slice A' n' c', .slice P m d] := by rw [hw0]; exact Whole.new _ _ _
      have H1 := hide (iisperm_any A n c B p true hp w0 (h.below b0).reads (h.below b0).under h.le h.small)
      have H2 := hide (show ∀ w1, Below w.heap.size w w1 → _ from fun w1 d1 => imesh_any A' P n' c' B' m d q S w1 (h'.below d1) (h2.below d1) hm)
      rw [hok] at H2
      rw [numMesh_no (.inr hok)]
      have HW0 := hide hw0
      clear h h' h2 hp hok hw0
      go_enter Try.func12, Try.ntmps12
      go_wp2_with fail
      rw [← unhide HW0]
      refine (unhide H1).mono ?_
      rintro e w1 ⟨rfl, d1⟩
      have d1' := below_after b0 d1
      have g1 := g0.below d1 g0.lt
      have x0 := g1.cell 0
      have x1 := g1.cell 1
      simp only [List.getElem?_toArray, List.getElem?_cons_zero, List.getElem?_cons_succ] at x0 x1
      have HX := hide (unhide H2 w1 d1')
      clear H1 H2 HW0 b0 d1 g0 g1
      go_wp2_with fail
      refine (unhide HX).mono ?_
      rintro e w2 ⟨rfl, d2⟩
      have d := below_after d1' d2
      clear HX d1' d2
      go_wp2
      go_ret
      exact ⟨rfl, d⟩
end Go.Proofs.Ytcoegjhhhnfplaa


/-
  Results of a Mesh and a bool; the columns of a Near, row by row (plain).
-/

namespace Go.Proofs.Ytcoegjhhhnfplaa
set_option maxRecDepth 100000
open Go.RowKit

theorem results_mesh {P : Program} {fn : Func} {p u : Tmp} {ty : TypeId} (h : fn.results = #[.cell p ty, .tmp u]) (tmps : Array Value) (w : World) (g : Nat) (t : TypeId) (cs : Array Value) (fr : Nat × Nat) (d : TypeDesc)
    (hp : tmps.getD p undef = .pointer (some ⟨g, 0, none⟩)) (hg : w.heap[g]? = some (.cells cs t fr))
    (hu : P.underlying ty = some d) (hd : (match d with | .struct _ | .array _ _ => true | _ => false) = true) (hi : (P.info? ty).map (·.size) = some cs.size) :
    (results fn tmps).run P w = .ok (.tuple #[.agg cs, tmps.getD u undef]) w := by
  rw [results_cell_tmp h, hp]
  simp [asAddr, Result.andThen, run_loadVar_row w g t ty cs fr d hg hu hd hi]
theorem meshB_end {w w3 : World} {B rb : Nat} {rv pv : Value} {root : List Int} {pcs : List (List Int)} (b : Bool) (hIn : InfAt w3 B rv pv root pcs) (h1 : w.heap.size ≤ rb) (h2 : rb < B) (hb : Below w.heap.size w w3) :
    GivesXB w root pcs b (.returned (.tuple #[.agg #[rv, pv], .bool b])) ((w3.setCell ⟨rb, 0, none⟩ rv).setCell ⟨rb, 1, none⟩ pv) :=
  GivesXB.mk b (((hIn.aside (by simpa using h2) _).aside (by simpa using h2) _).low (by omega)) ((hb.setCell h1 _).setCell h1 _)
theorem mesh_nil (w : World) (B : Nat) : InfAt w B (.slice none 0 0) (.slice none 0 0) [] [] :=
  ⟨Ints.nil w B, ⟨[], ⟨rfl, .inl ⟨rfl, rfl⟩⟩, Inner.nil _ _, fun x hx => by cases hx⟩⟩
theorem Ints.two2 (w : World) (B : Nat) (a b : Int) (hB : B ≤ w.heap.size) : Ints (w.alloc (.cells #[.int .i64 a, .int .i64 b] 3)) B (.slice (some ⟨w.heap.size, 0, none⟩) 2 2) [a, b] :=
  Ints.of_own (zs := [a, b]) ⟨rfl, .inr ⟨w.heap.size, 2, #[.int .i64 a, .int .i64 b], rfl, hB, heap_alloc_new w _, Nat.le_refl _, by unfold maxLen; omega, rfl, rfl⟩⟩
/-- A list of rows, and a row made behind it. -/
theorem Fresh.of_new {w w' : World} {B : Nat} {v u : Value} {zss : List (List Int)} {z : List Int} (hS : IntsS w B v zss) (hb : Below w.heap.size w w') (hu : Ints w' w.heap.size u z) : Fresh w' B v zss u := by
  obtain ⟨vs, h1, h2⟩ := hS
  exact ⟨vs, own_below h1 hb, h2.keepI (KeepI.of_below hb), fun x hx => by
    obtain ⟨zs, hz⟩ := h2.mem hx
    exact away_since hz hu.since⟩
theorem InfAt.of_new {w w' : World} {B : Nat} {v u : Value} {zss : List (List Int)} {z : List Int} (hS : IntsS w B v zss) (hB : B ≤ w.heap.size) (hb : Below w.heap.size w w') (hu : Ints w' w.heap.size u z) : InfAt w' B u v z zss :=
  ⟨hu.low hB, Fresh.of_new hS hb hu⟩
theorem meshInfo' : (Try.prog.info? 27).map (·.size) = some 2 := by kernel_rfl

/-! plain -/
/-- The first r boxes of a column. -/
def colI (j : Int) (r : Nat) : List (List Int) := (List.range r).map fun (y : Nat) => [j, (y : Int)]
theorem colI_step (j : Int) (r : Nat) : colI j (r + 1) = colI j r ++ [[j, (r : Int)]] := by unfold colI; rw [List.range_succ, List.map_append]; rfl
theorem colS_step {n : Nat} {J : List Int} {k : Nat} {j : Int} (h : J[k]? = some j) : colS n (J.take (k + 1)) = colS n (J.take k) ++ colI j (n + 1) := by
  unfold colS colI
  rw [List.take_add_one, h, List.flatMap_append]
  simp
theorem colI_length (j : Int) (r : Nat) : (colI j r).length = r := by unfold colI; simp
theorem colS_length (n : Nat) (J : List Int) : (colS n J).length = J.length * (n + 1) := by
  induction J with
  | nil => simp [colS]
  | cons a r ih =>
    have : colS n (a :: r) = colI a (n + 1) ++ colS n r := by unfold colS colI; rw [List.flatMap_cons]
    rw [this, List.length_append, colI_length, ih, List.length_cons, Nat.add_mul]
    omega
theorem near_short {n : Nat} {J : List Int} (h : PlOK n J) : J.length ≤ n := by
  have h1 := nums_sub' (p := List.replicate n 0) (pl := J) (by rw [List.length_replicate]; exact h)
  have := h1.length_le
  rwa [nums_length, List.length_replicate] at this
/-- What MeshOf answers. -/
def mofOK (q J : List Int) : Bool := nearOK q J && decide (q.length ≤ 4)
def mofQ (q J : List Int) : List Int := if mofOK q J then q else []
def mofS (q J : List Int) : List (List Int) := if mofOK q J then colS q.length J else []
theorem mof_no {q J : List Int} (h : nearOK q J = false ∨ ¬ q.length ≤ 4) : mofOK q J = false ∧ mofQ q J = [] ∧ mofS q J = [] := by
  have : mofOK q J = false := by unfold mofOK; rcases h with h | h <;> simp [h]
  exact ⟨this, by unfold mofQ; rw [this]; rfl, by unfold mofS; rw [this]; rfl⟩
theorem mof_yes {q J : List Int} (h : nearOK q J = true) (h4 : q.length ≤ 4) : mofOK q J = true ∧ mofQ q J = q ∧ mofS q J = colS q.length J := by
  have : mofOK q J = true := by unfold mofOK; simp [h, h4]
  exact ⟨this, by unfold mofQ; rw [this]; rfl, by unfold mofS; rw [this]; rfl⟩
theorem tot_pairs : ∀ {zss : List (List Int)}, (∀ z ∈ zss, z.length = 2) → tot zss = 2 * zss.length
  | [], _ => rfl
  | z :: r, h => by
    have h1 := tot_pairs (zss := r) fun x hx => h x (by simp [hx])
    have h2 := h z (by simp)
    unfold tot at h1 ⊢
    rw [List.map_cons, List.sum_cons, h1, h2, List.length_cons]
    omega
theorem colS_two (n : Nat) (J : List Int) : ∀ z ∈ colS n J, z.length = 2 := fun z hz => by
  unfold colS at hz
  obtain ⟨j, _, h⟩ := List.mem_flatMap.1 hz
  obtain ⟨y, _, rfl⟩ := List.mem_map.1 h
  rfl
theorem mof_sizes (q J : List Int) : (mofQ q J).length ≤ 1048576 ∧ (mofS q J).length ≤ 1048576 ∧ tot (mofS q J) ≤ 1048576 := by
  by_cases h : nearOK q J = true
  · by_cases h4 : q.length ≤ 4
    · obtain ⟨_, e2, e3⟩ := mof_yes h h4
      have hj := near_short (nearOK_iff.1 h).2
      have h1 : J.length * (q.length + 1) ≤ 4 * 5 := Nat.mul_le_mul (by omega) (by omega)
      rw [e2, e3, tot_pairs (colS_two _ _), colS_length]
      omega
    · obtain ⟨_, e2, e3⟩ := mof_no (q := q) (J := J) (.inr h4)
      rw [e2, e3]
      simp [tot]
  · obtain ⟨_, e2, e3⟩ := mof_no (q := q) (J := J) (.inl (by simpa using h))
    rw [e2, e3]
    simp [tot]
end Go.Proofs.Ytcoegjhhhnfplaa


/-
  Structs of two rows: the words for them; eqNear, markNear, heldNear, szNear, toNear by their contracts.
-/

namespace Go.Proofs.Ytcoegjhhhnfplaa
set_option maxRecDepth 100000
open Go.RowKit

/-- Two rows from block B on, apart from one another. -/
structure NearAt (w : World) (B : Nat) (pv jv : Value) (q J : List Int) : Prop where
  p : Ints w B pv q
  j : Ints w B jv J
  away : Away pv jv
theorem NearAt.below {w w' : World} {B : Nat} {pv jv : Value} {q J : List Int} (h : NearAt w B pv jv q J) (hb : Below w.heap.size w w') : NearAt w' B pv jv q J := ⟨h.p.below hb, h.j.below hb, h.away⟩
theorem NearAt.low {w : World} {B B' : Nat} {pv jv : Value} {q J : List Int} (h : NearAt w B pv jv q J) (hB : B' ≤ B) : NearAt w B' pv jv q J := ⟨h.p.low hB, h.j.low hB, h.away⟩
theorem Ints.past {w : World} {B : Nat} {v : Value} {zs : List Int} (h : Ints w B v zs) {p : Addr} (hp : p.block < B) (u : Value) : Ints (w.setCell p u) B v zs := by
  refine ⟨h.1, ?_⟩
  rcases h.2 with hn | ⟨g, cap, cur, e, rfl, hb, hgg, h1, h2, he⟩
  · exact .inl hn
  · exact .inr ⟨g, cap, cur, e, rfl, hb, (Below.heap_setCell w p u g (by omega)).trans hgg, h1, h2, he⟩
theorem NearAt.past {w : World} {B : Nat} {pv jv : Value} {q J : List Int} (h : NearAt w B pv jv q J) {p : Addr} (hp : p.block < B) (u : Value) : NearAt (w.setCell p u) B pv jv q J := ⟨h.p.past hp u, h.j.past hp u, h.away⟩
/-- .. and below block U. -/
def NSeal (w : World) (B U : Nat) (pv jv : Value) (q J : List Int) : Prop := NearAt w B pv jv q J ∧ Until U pv ∧ Until U jv
section
variable {w w' : World} {B U : Nat} {pv jv : Value} {q J : List Int}
theorem NearAt.sealed (h : NearAt w B pv jv q J) : NSeal w B w.heap.size pv jv q J := ⟨h, h.p.until_, h.j.until_⟩
theorem NSeal.opened (h : NSeal w B U pv jv q J) : NearAt w B pv jv q J := h.1
theorem NSeal.below (h : NSeal w B U pv jv q J) (hb : Below w.heap.size w w') : NSeal w' B U pv jv q J := ⟨h.1.below hb, h.2⟩
theorem NSeal.after {u : Value} {E : Nat} (h : NSeal w B U pv jv q J) (hg : w.grownBy w' u.ownBlock) (hu : Until E u) (hE : E ≤ B) : NSeal w' B U pv jv q J :=
  ⟨⟨h.1.p.kept hg (apart' h.1.p.since hu hE), h.1.j.kept hg (apart' h.1.j.since hu hE), h.1.away⟩, h.2⟩
theorem NSeal.turnLow {B0 U0 : Nat} (h : NSeal w B0 U0 pv jv q J) (ht : Turned B U w w') (hU : U0 ≤ B) : NSeal w' B0 U0 pv jv q J :=
  ⟨⟨h.1.p.turnLow h.2.1 ht hU, h.1.j.turnLow h.2.2 ht hU, h.1.away⟩, h.2⟩
theorem NSeal.turnHigh {B0 U0 : Nat} (h : NSeal w B0 U0 pv jv q J) (ht : Turned B U w w') (hU : U ≤ B0) : NSeal w' B0 U0 pv jv q J :=
  ⟨⟨h.1.p.turnHigh ht hU, h.1.j.turnHigh ht hU, h.1.away⟩, h.2⟩
end
/-- A struct of two rows, and whether. -/
def GivesNB (w : World) (q J : List Int) (b : Bool) (e : Ending) (w' : World) : Prop :=
  ∃ A c P d, e = .returned (.tuple #[.agg #[.slice A q.length c, .slice P J.length d], .bool b]) ∧ NearAt w' w.heap.size (.slice A q.length c) (.slice P J.length d) q J ∧ Below w.heap.size w w'
def GivesNr (w : World) (q J : List Int) (e : Ending) (w' : World) : Prop :=
  ∃ A c P d, e = .returned (.agg #[.slice A q.length c, .slice P J.length d]) ∧ NearAt w' w.heap.size (.slice A q.length c) (.slice P J.length d) q J ∧ Below w.heap.size w w'
theorem GivesNB.mk {w w' : World} {pv jv : Value} {q J : List Int} (b : Bool) (h : NearAt w' w.heap.size pv jv q J) (hb : Below w.heap.size w w') : GivesNB w q J b (.returned (.tuple #[.agg #[pv, jv], .bool b])) w' := by
  obtain ⟨A, c, rfl⟩ := h.p.slice
  obtain ⟨P, d, rfl⟩ := h.j.slice
  exact ⟨A, c, P, d, rfl, h, hb⟩
theorem GivesNr.mk {w w' : World} {pv jv : Value} {q J : List Int} (h : NearAt w' w.heap.size pv jv q J) (hb : Below w.heap.size w w') : GivesNr w q J (.returned (.agg #[pv, jv])) w' := by
  obtain ⟨A, c, rfl⟩ := h.p.slice
  obtain ⟨P, d, rfl⟩ := h.j.slice
  exact ⟨A, c, P, d, rfl, h, hb⟩
theorem NearAt.none_ (w : World) (B : Nat) : NearAt w B (.slice none 0 0) (.slice none 0 0) [] [] := ⟨Ints.nil w B, Ints.nil w B, .inl rfl⟩

set_option maxHeartbeats 800000 in
theorem eqnear_any (A P A' P' : Option Addr) (n c m d n' c' m' d' B B' : Nat) (q J : List Int) (w : World) (h : NearAt w B (.slice A n c) (.slice P m d) q J) (h' : NearAt w B' (.slice A' n' c') (.slice P' m' d') q J)
    (hr : q.length ≤ 1048576) (hp : J.length ≤ 1048576) :
    Calls Try.prog 37 #[.agg #[.slice A n c, .slice P m d], .agg #[.slice A' n' c', .slice P' m' d']] w (GivesB w true) := by
  have b1' := (Below.refl _ w).alloc (Nat.le_refl _) (.cells #[.slice A n c, .slice P m d] 32)
  have b2' := b1'.alloc (by simp) (.cells #[.slice A' n' c', .slice P' m' d'] 32)
  have g1 := (Whole.new w 32 #[.slice A n c, .slice P m d]).alloc (.cells #[.slice A' n' c', .slice P' m' d'] 32)
  have g2 := Whole.new (w.alloc (.cells #[.slice A n c, .slice P m d] 32)) 32 #[.slice A' n' c', .slice P' m' d']
  simp only [World.size_alloc] at g2
  have i1 := h.below b2'
  have i2 := h'.below b2'
  have l1 := i1.p.len
  have l2 := i1.j.len
  have H1 := hide (eqi_any A A' n c n' c' _ _ q _ i1.p.reads i2.p.reads (by omega))
  have HI := hide (And.intro i1 i2)
  clear b1' i1 i2 h h'
  go_enter Try.func37, Try.ntmps37
  go_wp2_with fail
  refine (unhide H1).mono ?_
  rintro e w3 ⟨rfl, hd⟩
  have hb3 := b2'.trans (hd.below _)
  have k1 := (Whole.below g1 (hd.below (w.heap.size + 2)) (by omega)).cell 1
  have k2 := (Whole.below g2 (hd.below (w.heap.size + 2)) (by omega)).cell 1
  simp only [List.getElem?_toArray, List.getElem?_cons_zero, List.getElem?_cons_succ] at k1 k2
  have H2 := hide (eqi_any P P' m d m' d' _ _ J w3 ((unhide HI).1.below (hd.below _)).j.reads ((unhide HI).2.below (hd.below _)).j.reads (by omega))
  clear H1 hd b2' g1 g2 HI
  go_wp2_with fail
  refine (unhide H2).mono ?_
  rintro e w4 ⟨rfl, hd4⟩
  have hb5 := hb3.trans (hd4.below _)
  clear H2 hd4 hb3
  go_wp2
  go_ret
  exact ⟨rfl, hb5⟩
set_option maxHeartbeats 800000 in
theorem marknear_in (A P : Option Addr) (n c m d B U k : Nat) (K : Int) (hK : K = (k : Int)) (q J : List Int) (w : World) (h : NSeal w B U (.slice A n c) (.slice P m d) q J) (hU : U ≤ w.heap.size)
    (hkn : k + q.length + J.length ≤ 1099511627776) :
    Calls Try.prog 38 #[.agg #[.slice A n c, .slice P m d], .int .i64 K] w fun e w' => e = .returned (.int .i64 (K + (q.length : Int) + (J.length : Int))) ∧
      NSeal w' B U (.slice A n c) (.slice P m d) (marksI k q.length) (marksI (k + q.length) J.length) ∧ Turned B U w w' := by
  subst hK
  have l1 := h.1.p.len
  have l2 := h.1.j.len
  have b1 := (Below.refl _ w).alloc (Nat.le_refl _) (.cells #[.slice A n c, .slice P m d] 32)
  have g1 := Whole.new w 32 #[.slice A n c, .slice P m d]
  obtain ⟨⟨x1, x2, x3⟩, u1, u2⟩ := h.below b1
  have H1 := hide (marki_at A n c B k _ rfl q _ x1 (by omega))
  subst l1
  subst l2
  have HX := hide (And.intro x1 (And.intro x2 (And.intro x3 (And.intro u1 u2))))
  have HT := hide (Turned.of_below (B := B) (U := U) b1 (Nat.le_refl _))
  clear h b1 x1 x2 x3 u1 u2
  go_enter Try.func38, Try.ntmps38
  go_wp2_with fail
  refine (unhide H1).mono ?_
  rintro e w3 ⟨rfl, hm, hg⟩
  obtain ⟨x1, x2, x3, u1, u2⟩ := unhide HX
  have g3 := g1.grown hg (fun e => by have := u1 _ e.symm; omega)
  have k1 := g3.cell 1
  simp only [List.getElem?_toArray, List.getElem?_cons_zero, List.getElem?_cons_succ] at k1
  have o2 := x2.kept hg x3.symm
  have t3 := (unhide HT).trans (Turned.of_grown (B := B) (U := U) hg (fun k hk => ⟨x1.since k hk, u1 k hk⟩))
  have H2 := hide (marki_at P J.length d B (k + q.length) ((k : Int) + (q.length : Int)) (by omega) J w3 o2 (by omega))
  have HY := hide (And.intro hm t3)
  clear H1 HT hm hg g3 x1 x2 x3 u1 u2 o2 t3 g1
  go_wp2_with fail
  refine (unhide H2).mono ?_
  rintro e w4 ⟨rfl, y2, y3⟩
  obtain ⟨x1, x2, x3, u1, u2⟩ := unhide HX
  obtain ⟨hm, t3⟩ := unhide HY
  have hz : NSeal w4 B U (.slice A q.length c) (.slice P J.length d) (marksI k q.length) (marksI (k + q.length) J.length) := ⟨⟨hm.kept y3 x3, y2, x3⟩, u1, u2⟩
  have t4 := t3.trans (Turned.of_grown (B := B) (U := U) y3 (fun k hk => ⟨x2.since k hk, u2 k hk⟩))
  clear x1 x2 x3 u1 u2 hm t3 y2 y3 H2 HX HY
  go_wp2
  go_ret
  exact ⟨rfl, hz, t4⟩
def szN (L : Int) (n m : Nat) : Int := if L < n + m then -1 else L - n - m
set_option maxHeartbeats 800000 in
theorem sznear_any (A P : Option Addr) (n c m d : Nat) (L : Int) (hL : 0 ≤ L ∧ L ≤ 1048576) (w : World) (hn : n ≤ maxLen) (hm : m ≤ maxLen) :
    Calls Try.prog 35 #[.agg #[.slice A n c, .slice P m d], .int .i64 L] w fun e w' => e = .returned (.int .i64 (szN L n m)) ∧ Below w.heap.size w w' := by
  have b1 := (Below.refl _ w).alloc (Nat.le_refl _) (.cells #[.slice A n c, .slice P m d] 55)
  have g1 := Whole.new w 55 #[.slice A n c, .slice P m d]
  have k1 := g1.cell 1
  simp only [List.getElem?_toArray, List.getElem?_cons_zero, List.getElem?_cons_succ] at k1
  obtain ⟨hL1, hL2⟩ := hL
  have H1 := hide (szi_any A n c L ⟨hL1, hL2⟩ hn (w.alloc (.cells #[.slice A n c, .slice P m d] 55)))
  by_cases hlt : L < n
  · rw [if_pos hlt] at H1
    have hx : szN L n m = -1 := by unfold szN; rw [if_pos (by omega)]
    rw [hx]
    clear hx g1
    go_enter Try.func35, Try.ntmps35
    go_wp2_with fail
    refine (unhide H1).mono ?_
    rintro e w3 ⟨rfl, rfl⟩
    clear H1
    go_wp2
    go_ret
    exact ⟨rfl, b1⟩
  · rw [if_neg hlt] at H1
    have H2 := hide (szi_any P m d (L - (n : Int)) (by omega) hm (w.alloc (.cells #[.slice A n c, .slice P m d] 55)))
    have hx : (if L - (n : Int) < (m : Int) then (-1 : Int) else L - (n : Int) - (m : Int)) = szN L n m := by
      unfold szN
      by_cases h : L - (n : Int) < (m : Int)
      · rw [if_pos h, if_pos (by omega)]
      · rw [if_neg h, if_neg (by omega)]
    rw [hx] at H2
    obtain ⟨r, hr0⟩ : ∃ r, szN L n m = r := ⟨_, rfl⟩
    have hrr : r = -1 ∨ 0 ≤ r := by
      rw [← hr0]; unfold szN
      by_cases h : L < n + m
      · rw [if_pos h]; exact .inl rfl
      · rw [if_neg h]; right; omega
    rw [hr0] at H2 ⊢
    have h0 : ¬ L - (n : Int) < 0 := by omega
    clear hx g1 hr0
    go_enter Try.func35, Try.ntmps35
    go_wp2_with fail
    refine (unhide H1).mono ?_
    rintro e w3 ⟨rfl, rfl⟩
    clear H1
    go_wp2_with fail
    refine (unhide H2).mono ?_
    rintro e w4 ⟨rfl, rfl⟩
    clear H2
    rcases hrr with rfl | hr0
    · go_wp2
      go_ret
      exact ⟨rfl, b1⟩
    · have h1 : ¬ r < 0 := by omega
      go_wp2
      go_ret
      exact ⟨rfl, b1⟩
theorem nearInfo : (Try.prog.info? 32).map (·.size) = some 2 := by kernel_rfl
set_option maxHeartbeats 1600000 in
theorem tonear_any (A P : Option Addr) (n c m d B : Nat) (p J : List Int) (w : World) (hp : Reads w B A n (i64s p)) (hr : Reads w B P m (i64s J)) (hB : B ≤ w.heap.size) (hn : n ≤ 1048576) (hm : m ≤ 1048576) :
    Calls Try.prog 36 #[.agg #[.slice A n c, .slice P m d]] w (GivesNr w p J) := by
  have b1 := (Below.refl _ w).alloc (Nat.le_refl _) (.cells #[.slice A n c, .slice P m d] 55)
  have b2 := b1.alloc (by simp) (.cells #[.slice none 0 0, .slice none 0 0] 32)
  have b3 := b2.alloc (by simp; omega) (.cells #[.slice none 0 0, .slice none 0 0] 32)
  have g1 := ((Whole.new w 55 #[.slice A n c, .slice P m d]).alloc (.cells #[.slice none 0 0, .slice none 0 0] 32)).alloc (.cells #[.slice none 0 0, .slice none 0 0] 32)
  have g2 := (Whole.new (w.alloc (.cells #[.slice A n c, .slice P m d] 55)) 32 #[.slice none 0 0, .slice none 0 0]).alloc (.cells #[.slice none 0 0, .slice none 0 0] 32)
  have g3 := Whole.new ((w.alloc (.cells #[.slice A n c, .slice P m d] 55)).alloc (.cells #[.slice none 0 0, .slice none 0 0] 32)) 32 #[.slice none 0 0, .slice none 0 0]
  simp only [World.size_alloc] at g2 g3
  have H1 : Hid (Calls Try.prog 33 #[.slice A n c] (((w.alloc (.cells #[.slice A n c, .slice P m d] 55)).alloc (.cells #[.slice none 0 0, .slice none 0 0] 32)).alloc (.cells #[.slice none 0 0, .slice none 0 0] 32))
      (fun e w' => ∃ A' c', e = .returned (.slice A' n c') ∧ Ints w' (w.heap.size + 1 + 1 + 1) (.slice A' n c') p ∧ Below (w.heap.size + 1 + 1 + 1) (((w.alloc (.cells #[.slice A n c, .slice P m d] 55)).alloc (.cells #[.slice none 0 0, .slice none 0 0] 32)).alloc (.cells #[.slice none 0 0, .slice none 0 0] 32)) w')) :=
    hide ((toi_any A n c B p _ (hp.below (b3.mono hB)) (Nat.le_trans hB b3.size) (by omega)).mono (by
      rintro e w' ⟨rfl, o, d⟩
      simp only [World.size_alloc] at o d ⊢
      exact ⟨_, _, rfl, o, d⟩))
  have hr3 := hr.below (b3.mono hB)
  have hbB := b3.mono hB
  have HR := hide (And.intro hr3 hbB)
  have HL : Hid (p.length = n ∧ J.length = m) := hide ⟨by have := hp.1; rwa [i64_length] at this, by have := hr.1; rwa [i64_length] at this⟩
  clear b1 b2 hp hr hr3 hbB
  go_enter Try.func36, Try.ntmps36
  go_wp2_with fail
  refine (unhide H1).mono ?_
  rintro e w2 ⟨A2, c2, rfl, o2, d2⟩
  have hb2 := b3.trans (d2.mono (by omega))
  have e1 := g1.below d2 (by omega)
  have e2 := g2.below d2 (by omega)
  have e3 := g3.below d2 (by omega)
  have p1 := e1.cell 1
  have q0 := e3.cell 0
  have q1 := e3.cell 1
  have f0 := e3.frozen 0
  have l3 := e3.lt
  simp only [List.getElem?_toArray, List.getElem?_cons_zero, List.getElem?_cons_succ] at p1 q0 q1
  have l2 := d2.size
  simp only [World.size_alloc] at l2
  have i1 := e1.far (p := ⟨w.heap.size + 1 + 1, 0, none⟩) (by simp; omega) (.slice A2 n c2)
  have i2 := e2.far (p := ⟨w.heap.size + 1 + 1, 0, none⟩) (by simp) (.slice A2 n c2)
  have i3 := e3.put 0 (.slice A2 n c2)
  have o3 := o2.past (p := ⟨w.heap.size + 1 + 1, 0, none⟩) (by simp) (.slice A2 n c2)
  have hb3 := hb2.setCell (p := ⟨w.heap.size + 1 + 1, 0, none⟩) (by simp; omega) (.slice A2 n c2)
  have H2 : Hid (Calls Try.prog 33 #[.slice P m d] (w2.setCell ⟨w.heap.size + 1 + 1, 0, none⟩ (.slice A2 n c2))
      (fun e w' => ∃ g, e = .returned (.slice (some ⟨g, 0, none⟩) m m) ∧ Ints w' w2.heap.size (.slice (some ⟨g, 0, none⟩) m m) J ∧ Below w2.heap.size (w2.setCell ⟨w.heap.size + 1 + 1, 0, none⟩ (.slice A2 n c2)) w')) := by
    have hr4 := (unhide HR).1.below ((d2.mono (show B ≤ _ by omega)).setCell (p := ⟨w.heap.size + 1 + 1, 0, none⟩) (by simp; omega) (.slice A2 n c2))
    refine hide ((toi_any P m d B J _ hr4 (by simp; omega) (by omega)).mono ?_)
    rintro e w' ⟨rfl, o, d⟩
    simp only [World.size_setCell] at o d ⊢
    exact ⟨_, rfl, o, d⟩
  have hu2 := o2.until_
  clear H1 e1 e2 e3 hb2 b3 d2 o2 HR g1 g2 g3
  go_wp2_with fail
  refine (unhide H2).mono ?_
  rintro e w4 ⟨g, rfl, o4, d4⟩
  have j2 := i2.below d4 (by omega)
  have j3 := i3.below d4 (by omega)
  have hb4 := hb3.trans (d4.mono (by omega))
  have o5 := Row.stay o3 hu2 d4
  have HI : Hid (NearAt w4 (w.heap.size + 1 + 1 + 1) (.slice A2 n c2) (.slice (some ⟨g, 0, none⟩) m m) p J) := hide ⟨o5, o4.low (by omega), apart hu2 o4.since (by omega)⟩
  have q0 := j3.cell 0
  have q1 := j3.cell 1
  have f1 := j3.frozen 1
  have r0 := j2.cell 0
  have r1 := j2.cell 1
  have s0 := j2.frozen 0
  have s1 := j2.frozen 1
  have l4 := j3.lt
  simp only [List.setIfInBounds_toArray, List.set_cons_zero, List.getElem?_toArray, List.getElem?_cons_zero, List.getElem?_cons_succ] at q0 q1 r0 r1
  have HJ := hide (And.intro j2 j3)
  obtain ⟨hl1, hl2⟩ := unhide HL
  clear o5 o4 d4 hu2 H2 hb3 i1 i2 i3 o3 j2 j3 HL p1
  go_wp2
  have hWe := ((unhide HJ).1.far (p := ⟨w.heap.size + 1 + 1, 1, none⟩) (by simp) (.slice (some ⟨g, 0, none⟩) m m)).put 0 (.slice A2 n c2) |>.put 1 (.slice (some ⟨g, 0, none⟩) m m)
  refine bodyPost_ret (v := .agg #[.slice A2 n c2, .slice (some ⟨g, 0, none⟩) m m]) (results_cell_row Try.results36 _ _ (w.heap.size + 1) 32 _ (0, 0) _ rfl hWe Try.underlying32 rfl nearInfo) rfl ?_
  refine GivesNr.mk ((((unhide HI).past (p := ⟨w.heap.size + 1 + 1, 1, none⟩) (by simp) _).past (p := ⟨w.heap.size + 1, 0, none⟩) (by simp) _).past (p := ⟨w.heap.size + 1, 1, none⟩) (by simp) _ |>.low (by omega)) ?_
  exact ((hb4.setCell (by simp; omega) _).setCell (by simp) _).setCell (by simp) _
end Go.Proofs.Ytcoegjhhhnfplaa


/-
  spec.ConsecutiveOf, by its contract.
-/

namespace Go.Proofs.Ytcoegjhhhnfplaa
set_option maxRecDepth 100000
open Go.RowKit

theorem results_near {P : Program} {fn : Func} {p u : Tmp} {ty : TypeId} (h : fn.results = #[.cell p ty, .tmp u]) (tmps : Array Value) (w : World) (g : Nat) (t : TypeId) (cs : Array Value) (fr : Nat × Nat) (d : TypeDesc)
    (hp : tmps.getD p undef = .pointer (some ⟨g, 0, none⟩)) (hg : w.heap[g]? = some (.cells cs t fr))
    (hu : P.underlying ty = some d) (hd : (match d with | .struct _ | .array _ _ => true | _ => false) = true) (hi : (P.info? ty).map (·.size) = some cs.size) :
    (results fn tmps).run P w = .ok (.tuple #[.agg cs, tmps.getD u undef]) w := by
  rw [results_cell_tmp h, hp]
  simp [asAddr, Result.andThen, run_loadVar_row w g t ty cs fr d hg hu hd hi]
theorem grownBy_setCellA (w : World) (p : Addr) (v : Value) : w.grownBy (w.setCell p v) (some p.block) := ⟨rfl, rfl, rfl, by simp, fun k _ hk => Below.heap_setCell w p v k (fun e => hk (by rw [e]))⟩
theorem away_block {v : Value} {g : Nat} (hu : Until g v) : v.ownBlock = none ∨ v.ownBlock ≠ some g := by
  cases ho : v.ownBlock with
  | none => exact .inl rfl
  | some k => exact .inr fun e => by have := hu k ho; injection e with e; omega
theorem nearB_end {w w3 : World} {B : Nat} {pv jv : Value} {q J : List Int} (b : Bool) (hIn : NearAt w3 B pv jv q J) (hB : w.heap.size < B) (hb : Below w.heap.size w w3) :
    GivesNB w q J b (.returned (.tuple #[.agg #[pv, jv], .bool b])) ((w3.setCell ⟨w.heap.size, 0, none⟩ pv).setCell ⟨w.heap.size, 1, none⟩ jv) :=
  GivesNB.mk b (((hIn.past (by simpa using hB) _).past (by simpa using hB) _).low (by omega)) ((hb.setCell (Nat.le_refl _) _).setCell (Nat.le_refl _) _)
theorem own_past {w : World} {B n k : Nat} {e : TypeId} {v : Value} {xs : List Value} (h : w.ownsRow B e k v n xs) {p : Addr} (hp : p.block < B) (u : Value) : (w.setCell p u).ownsRow B e k v n xs := by
  refine ⟨h.1, ?_⟩
  rcases h.2 with hn | ⟨g, cap, cur, rfl, hb, hgg, hr⟩
  · exact .inl hn
  · exact .inr ⟨g, cap, cur, rfl, hb, (Below.heap_setCell w p u g (by omega)).trans hgg, hr⟩
def conK (j : Nat) : List Int := (List.range j).map fun (i : Nat) => (i : Int) + 1
theorem conK_step (j : Nat) : conK (j + 1) = conK j ++ [(j : Int) + 1] := by unfold conK; rw [List.range_succ, List.map_append]; rfl
theorem con_own {w : World} {B j : Nat} {v : Value} (h : w.ownsRow B 3 1 v (j + 1) (i64s (conK j) ++ [.int .i64 ((j : Int) + 1)])) : ∃ A c, v = .slice A (j + 1) c ∧ w.ownsRow B 3 1 (.slice A (j + 1) c) (j + 1) (i64s (conK (j + 1))) := by
  have e : i64s (conK j) ++ [.int .i64 ((j : Int) + 1)] = i64s (conK (j + 1)) := by rw [conK_step, ← i64_append]; rfl
  rw [e] at h
  rcases h.2 with ⟨_, h0⟩ | ⟨g, cap, cur, rfl, hr⟩
  · omega
  · exact ⟨_, _, rfl, h⟩
def conQ (q : List Int) : List Int := if isP q then q else []
def conR (q : List Int) : List Int := if isP q then conJ q.length else []
theorem con_sizes (q : List Int) : (conQ q).length ≤ 1048576 ∧ (conR q).length ≤ 1048576 := by
  unfold conQ conR
  cases h : isP q with
  | true => have h8 := isP_le h; simp [conJ]; omega
  | false => simp
end Go.Proofs.Ytcoegjhhhnfplaa


/-
  PLAIN: patterns of patterns are patterns; what FnPatterns needs of them.
-/

namespace Go.Proofs.Ytcoegjhhhnfplaa
set_option maxRecDepth 100000

theorem hasR_yes {p q : List Int} (hp : isP p = true) (hq : isP q = true) (h : 0 < (occR p q).length) : hasR p q = true := by
  unfold hasR numOcc
  rw [if_pos (by simp [hp, hq])]
  exact decide_eq_true (by omega)
theorem hasR_iff {p q : List Int} (hp : isP p = true) (hq : isP q = true) : hasR p q = true ↔ ∃ pl, PlOK p.length pl ∧ pl.length = q.length ∧ Alike (nums p pl) q := by
  constructor
  · intro h
    unfold hasR numOcc at h
    rw [if_pos (by simp [hp, hq])] at h
    have := of_decide_eq_true h
    obtain ⟨pl, hpl⟩ := List.exists_mem_of_length_pos (show 0 < (occR p q).length by omega)
    obtain ⟨_, _, h3, h4, h5⟩ := isOcc_iff.1 (mem_occ.1 hpl)
    exact ⟨pl, h4, h3, (pat_eq_iff hq).1 h5⟩
  · rintro ⟨pl, h1, h2, h3⟩
    exact hasR_yes hp hq (List.length_pos_of_mem (a := pl) (mem_occ.2 (isOcc_iff.2 ⟨hp, hq, h2, h1, (pat_eq_iff hq).2 h3⟩)))
theorem hasR_sub {p s : List Int} (hp : isP p = true) (h : s.Sublist p) (hs : isP (patL s) = true) : hasR p (patL s) = true := hasR_yes hp hs (occ_sub hp h hs)
theorem numOcc_yes {p q : List Int} (hp : isP p = true) (hq : isP q = true) : numOcc p q = ((occR p q).length : Int) := by unfold numOcc; rw [if_pos (by simp [hp, hq])]
theorem num_inv {p q : List Int} (hp : isP p = true) (hq : isP q = true) : numOcc (invR p) (invR q) = ((occR p q).length : Int) := by
  rw [invR_yes hp, invR_yes hq]
  have := occ_inv_len hp hq
  unfold invL at this
  rw [numOcc_yes (isP_inv hp) (isP_inv hq), this]
theorem num_rev {p q : List Int} (hp : isP p = true) (hq : isP q = true) : numOcc (revR p) (revR q) = ((occR p q).length : Int) := by
  rw [revR_yes hp, revR_yes hq, numOcc_yes (isP_rev hp) (isP_rev hq), occ_rev_len]
/-- Each pattern is one. -/
theorem patK_mem {p : List Int} {k : Int} : ∀ {s : Nat} {x : List Int}, x ∈ patK p k s → ∃ t, x = patL (subK p t p.length)
  | 0, x, h => by rw [show patK p k 0 = [] from rfl] at h; cases h
  | s + 1, x, h => by
    by_cases hk : ((subK p s p.length).length : Int) = k
    · rw [patK_yes hk, mem_putL] at h
      rcases h with h | h
      · exact patK_mem h
      · exact ⟨s, h⟩
    · rw [patK_no hk] at h
      exact patK_mem h
theorem pats_has {p x : List Int} {k : Int} (h : x ∈ patsR p k) : hasR p x = true := by
  cases hk : patsOK p k with
  | false => rw [patsR_no hk] at h; cases h
  | true =>
    have hp : isP p = true := by unfold patsOK at hk; rw [Bool.and_eq_true] at hk; exact hk.1
    rw [patsR_yes hk] at h
    obtain ⟨t, rfl⟩ := patK_mem h
    refine hasR_sub hp ?_ (subK_isP hp t)
    have := subK_sub p t p.length (Nat.le_refl _)
    rwa [List.take_length] at this
theorem wpl_has {p : List Int} {x : Int} (h : wplOK p x = true) : hasR p (wplR p x) = true := by
  have hp : isP p = true := by unfold wplOK at h; rw [Bool.and_eq_true] at h; exact h.1
  rw [wplR_yes h]
  exact hasR_sub hp (cutAt_sub p _) (cutAt_isP hp _)
theorem wpl_low {p : List Int} {x : Int} (h : wplOK p x = true) : wplR p x ∈ lowR p := by
  have hp : isP p = true := by unfold wplOK at h; rw [Bool.and_eq_true] at h; exact h.1
  have hx : 1 ≤ x ∧ x ≤ (p.length : Int) := by unfold wplOK at h; rw [Bool.and_eq_true] at h; exact of_decide_eq_true h.2
  rw [wplR_yes h, lowR_yes hp]
  unfold lowK
  rw [(foldl_put _ [] List.Pairwise.nil).2.1]
  refine .inr (List.mem_map.2 ⟨x.toNat - 1, List.mem_range.2 (by omega), rfl⟩)
/-! how much it is -/
theorem tot_room (m : Nat) : ∀ l : List (List Int), (∀ z ∈ l, z.length ≤ m) → tot l ≤ m * l.length
  | [], _ => by simp [tot]
  | z :: l, h => by
    have h1 := h z (by simp)
    have h2 := tot_room m l fun y hy => h y (by simp [hy])
    simp only [tot, List.length_cons, List.map_cons, List.sum_cons, Nat.mul_add, Nat.mul_one] at h2 ⊢
    omega
theorem occ_room (p q : List Int) : (occR p q).length ≤ 256 ∧ tot (occR p q) ≤ 2048 := by
  have ht := tot_room 8 (occR p q) fun z hz => by
    obtain ⟨_, h2, h3, _⟩ := isOcc_iff.1 (mem_occ.1 hz)
    have := isP_le h2
    omega
  have hnum := numOcc_rng p q
  have h8 : (occR p q).length ≤ 256 := by
    cases hpp : isP p with
    | false => rw [occR_no (.inl hpp)]; simp
    | true =>
      cases hqq : isP q with
      | false => rw [occR_no (.inr hqq)]; simp
      | true => rw [numOcc_yes hpp hqq] at hnum; omega
  exact ⟨h8, by omega⟩
theorem pats_all {p z : List Int} {k : Int} (h : z ∈ patsR p k) : isP z = true := by
  cases hk : patsOK p k with
  | false => rw [patsR_no hk] at h; cases h
  | true =>
    have hp : isP p = true := by unfold patsOK at hk; rw [Bool.and_eq_true] at hk; exact hk.1
    rw [patsR_yes hk] at h
    exact patK_all hp k _ z h
theorem pats_size (p : List Int) (k : Int) : (patsR p k).length ≤ 256 ∧ tot (patsR p k) ≤ 2048 := by
  have ht := tot_room 8 (patsR p k) fun z hz => isP_le (pats_all hz)
  have h8 : (patsR p k).length ≤ 256 := by
    cases hk : patsOK p k with
    | false => rw [patsR_no hk]; simp
    | true =>
      have hp : isP p = true := by unfold patsOK at hk; rw [Bool.and_eq_true] at hk; exact hk.1
      rw [patsR_yes hk]
      have h1 := patK_len p k (2 ^ p.length)
      have h2 : 2 ^ p.length ≤ 2 ^ 8 := Nat.pow_le_pow_right (by omega) (isP_le hp)
      omega
  exact ⟨h8, by omega⟩
theorem low_all {p z : List Int} (h : z ∈ lowR p) : isP z = true := by
  cases hp : isP p with
  | false => rw [lowR_no hp] at h; cases h
  | true => rw [lowR_yes hp] at h; exact lowK_all hp _ z h
theorem low_size (p : List Int) : (lowR p).length ≤ 8 ∧ tot (lowR p) ≤ 64 := by
  have ht := tot_room 8 (lowR p) fun z hz => isP_le (low_all hz)
  have h8 : (lowR p).length ≤ 8 := by
    cases hp : isP p with
    | false => rw [lowR_no hp]; simp
    | true =>
      rw [lowR_yes hp]
      have h1 := lowK_len p p.length
      have := isP_le hp
      omega
  exact ⟨h8, by omega⟩
theorem occ_is {p q pl : List Int} (h : pl ∈ occR p q) : isOcc p q pl = true := mem_occ.1 h
end Go.Proofs.Ytcoegjhhhnfplaa


/-
  spec.l8Fits, spec.IsNear, spec.CountNear, by their contracts.
-/

namespace Go.Proofs.Ytcoegjhhhnfplaa
set_option maxRecDepth 100000
open Go.RowKit

theorem fitJ_step {J pl : List Int} {k : Nat} {x : Int} (hx : J[k]? = some x) (h : fitJ (J.take k) pl = true) (hf : at0 pl x.toNat = at0 pl (x.toNat - 1) + 1) : fitJ (J.take (k + 1)) pl = true := by
  rw [fitJ_iff] at h ⊢
  intro j hj
  rw [take_snoc_i hx, List.mem_append, List.mem_singleton] at hj
  rcases hj with hj | rfl
  · exact h j hj
  · exact hf
theorem fitJ_no {J pl : List Int} {k : Nat} {x : Int} (hx : J[k]? = some x) (hf : ¬ at0 pl x.toNat = at0 pl (x.toNat - 1) + 1) : fitJ J pl = false := by
  cases h : fitJ J pl with
  | false => rfl
  | true => exact absurd (fitJ_iff.1 h x (List.mem_of_getElem? hx)) hf
set_option maxHeartbeats 800000 in
theorem l8fits_any (A P : Option Addr) (n c B m d B' : Nat) (pl J : List Int) (w : World) (h : Arg w B A n c pl) (h' : Arg w B' P m d J) (hJ : PlOK (n - 1) J) (hpl : ∀ x ∈ pl, 1 ≤ x ∧ x ≤ 8) (hn : n ≤ 8) :
    Calls Try.prog 65 #[.slice A n c, .slice P m d] w fun e w' => e = .returned (.bool (fitJ J pl)) ∧ Drew w w' := by
  have hl := h.len
  have hl' := h'.len
  have hr := h.reads
  have hr' := h'.reads
  have hm := h'.le
  obtain ⟨b, hb⟩ : ∃ b, fitJ J pl = b := ⟨_, rfl⟩
  rw [hb]
  have HB := hide hb
  have HJ := hide (fun k x (hx : J[k]? = some x) => hJ.1 x (List.mem_of_getElem? hx))
  have HPL := hide (fun k x (hx : pl[k]? = some x) => hpl x (List.mem_of_getElem? hx))
  have HL := hide (⟨hl, hl'⟩ : pl.length = n ∧ J.length = m)
  clear h h' hJ hpl hl hl' hb
  go_enter Try.func65, Try.ntmps65
  go_wp2
  go_loopw [5] (fun i wr => ∃ k : Nat, k ≤ m ∧ i = .int .i64 k ∧ Drew w wr ∧ Hid (fitJ (J.take k) pl = true)) (fun i _ => m - (intOf i).toNat)
  case atStart => exact ⟨0, Nat.zero_le _, rfl, Drew.refl _, by exact (rfl : fitJ (J.take 0) pl = true)⟩
  case round =>
    obtain ⟨k, hk, rfl, hd, hs⟩ := hrel
    by_cases hlt : k < m
    · obtain ⟨ad, u, rfl, _, hu, hc⟩ := (hr'.ofDrew hd).at_ hlt
      obtain ⟨x, hx, rfl⟩ := i64_at hu
      have hxr := unhide HJ k x hx
      obtain ⟨ad1, u1, rfl, _, hu1, hc1⟩ := (hr.ofDrew hd).at_ (show x.toNat < n by omega)
      obtain ⟨ad2, u2, hA2, _, hu2, hc2⟩ := (hr.ofDrew hd).at_ (show x.toNat - 1 < n by omega)
      obtain rfl : ad1 = ad2 := by injection hA2
      obtain ⟨y, hy, rfl⟩ := i64_at hu1
      obtain ⟨z, hz, rfl⟩ := i64_at hu2
      have hzr := unhide HPL _ z hz
      have hyr := unhide HPL _ y hy
      have ey : at0 pl x.toNat = y := at0_of hy
      have ez : at0 pl (x.toNat - 1) = z := at0_of hz
      have hw1 : IntKind.i64.wrap (x - 1) = x - 1 := by rw [IntKind.wrap_i64]; omega
      have hw2 : IntKind.i64.wrap (z + 1) = z + 1 := by rw [IntKind.wrap_i64]; omega
      have hi2 : (x - 1).toNat = x.toNat - 1 := by omega
      have hb0 : 0 ≤ x := by omega
      have hb1 : x < (n : Int) := by omega
      have hb2 : 0 ≤ x - 1 := by omega
      have hb3 : x - 1 < (n : Int) := by omega
      have HD := hide hd
      by_cases hyz : y = z + 1
      · have hnext := hide (fitJ_step hx (unhide hs) (by rw [ey, ez]; exact hyz))
        subst hyz
        clear hx hy hz hu hu1 hu2 hs ey ez hr hr' hd hyr
        go_wp2
        go_quiet (fail)
        go_wp2
        go_roundw
        case rel => exact ⟨k + 1, by omega, by go_num, (unhide HD).more _, hnext⟩
        case measure => simp [intOf]; omega
      · obtain rfl : b = false := (unhide HB).symm.trans (fitJ_no hx (by rw [ey, ez]; exact hyz))
        have hne : (y == z + 1) = false := by simpa using hyz
        clear hx hy hz hu hu1 hu2 hs ey ez hr hr' hd hyr HB hyz
        go_wp2
        go_quiet (fail)
        go_wp2
        go_ret
        exact ⟨rfl, (unhide HD).more _⟩
    · obtain rfl : m = k := by omega
      obtain rfl : b = true := (unhide HB).symm.trans (by have h := unhide hs; rwa [List.take_of_length_le (by rw [(unhide HL).2]; exact Nat.le_refl _)] at h)
      clear HB hs
      go_wp2
      go_ret
      exact ⟨rfl, hd⟩
theorem take_last {J : List Int} {k : Nat} {y : Int} (hy : J[k]? = some y) : lastP (J.take (k + 1)) = y.toNat := by rw [take_snoc_i hy, lastP_snoc]
theorem plok_step {n : Nat} {J : List Int} {k : Nat} {x : Int} (hx : J[k]? = some x) : PlOK n (J.take (k + 1)) ↔ PlOK n (J.take k) ∧ (lastP (J.take k) : Int) < x ∧ x ≤ (n : Int) := by rw [take_snoc_i hx, PlOK.snoc]
theorem plok_no {n : Nat} {J : List Int} {k : Nat} (h : ¬ PlOK n (J.take k)) : ¬ PlOK n J := fun h2 => h (h2.take k)
theorem near_false {q J : List Int} (h : ¬ PlOK (q.length - 1) J) : nearOK q J = false := by unfold nearOK; rw [decide_eq_false h, Bool.and_false]
theorem near_true {q J : List Int} {b : Bool} (hq : isP q = b) (h : PlOK (q.length - 1) J) : nearOK q J = b := by unfold nearOK; rw [decide_eq_true h, Bool.and_true, hq]
set_option maxHeartbeats 1600000 in
theorem snear_any (A P : Option Addr) (n c B m d B' : Nat) (q J : List Int) (w : World) (h : Arg w B A n c q) (h' : Arg w B' P m d J) :
    Calls Try.prog 50 #[.agg #[.slice A n c, .slice P m d]] w (GivesB w (nearOK q J)) := by
  have hl := h.len
  have hl' := h'.len
  have hm := h'.le
  have hn := h.le
  obtain ⟨w0, hw0⟩ : ∃ w0, w0 = w.alloc (.cells #[.slice A n c, .slice P m d] 32) := ⟨_, rfl⟩
  have b0 : Below w.heap.size w w0 := by rw [hw0]; exact (Below.refl _ w).alloc (Nat.le_refl _) _
  have g0 : Whole w0 w.heap.size 32 #[.slice A n c, .slice P m d] := by rw [hw0]; exact Whole.new _ _ _
  have q0 := g0.cell 0
  have q1 := g0.cell 1
  simp only [List.getElem?_toArray, List.getElem?_cons_zero, List.getElem?_cons_succ] at q0 q1
  have hr' := (h'.below b0).reads
  obtain ⟨b, hb⟩ : ∃ b, nearOK q J = b := ⟨_, rfl⟩
  obtain ⟨bp, hbp⟩ : ∃ b, isP q = b := ⟨_, rfl⟩
  rw [hb]
  have HB := hide hb
  have HBP := hide hbp
  have HA := hide (fun wr (hd : Drew w0 wr) => sisperm_any A n c B q bp hbp wr (h.below (below_after b0 (hd.below _))).reads h.le h.cap)
  have HL := hide (⟨hl, hl'⟩ : q.length = n ∧ J.length = m)
  have HJS := hide (fun k x (hx : J[k]? = some x) => h'.small x (List.mem_of_getElem? hx))
  have hwn : IntKind.i64.wrap ((n : Int) - 1) = (n : Int) - 1 := by rw [IntKind.wrap_i64]; omega
  have HW := hide hw0
  clear h h' hl hl' hb hbp g0 hw0
  go_enter Try.func50, Try.ntmps50
  go_wp2
  rw [← unhide HW]
  clear HW
  go_loopw [3] (fun i wr => ∃ k : Nat, k ≤ m ∧ i = .int .i64 k ∧ Drew w0 wr ∧ Hid (PlOK (q.length - 1) (J.take k))) (fun i _ => m - (intOf i).toNat)
  case atStart => exact ⟨0, Nat.zero_le _, rfl, Drew.refl _, hide (PlOK.nil _)⟩
  case round =>
    obtain ⟨k, hk, rfl, hd, hs⟩ := hrel
    have c0 := (hd.cell ⟨w.heap.size, 0, none⟩).trans q0
    have c1 := (hd.cell ⟨w.heap.size, 1, none⟩).trans q1
    by_cases hlt : k < m
    · obtain ⟨ad, u, rfl, _, hu, hc⟩ := (hr'.ofDrew hd).at_ hlt
      obtain ⟨x, hx, rfl⟩ := i64_at hu
      obtain ⟨bi, hbi⟩ : ∃ bi, decide ((1 : Int) ≤ x ∧ x ≤ (n : Int) - 1) = bi := ⟨_, rfl⟩
      have HI := hide (fun w' => l1in_any x 1 ((n : Int) - 1) bi hbi w')
      have HD := hide hd
      have hstep := plok_step (n := q.length - 1) hx
      have hlq := (unhide HL).1
      cases bi with
      | false =>
        have hno : ¬ (1 ≤ x ∧ x ≤ (n : Int) - 1) := of_decide_eq_false hbi
        obtain rfl : b = false := (unhide HB).symm.trans (near_false (plok_no (k := k + 1) fun h2 => by
          have h3 := h2.1 x (by rw [take_snoc_i hx]; simp)
          omega))
        clear hx hu hs hbi hr' hd HB hstep hno q0 q1 hlq
        go_wp2
        go_quiet ((go_at_call 60; exact Calls.quiet_of_same (unhide HI _)))
        go_wp2
        go_ret
        exact ⟨rfl, below_after b0 (((unhide HD).more _).below _)⟩
      | true =>
        have hyes : 1 ≤ x ∧ x ≤ (n : Int) - 1 := of_decide_eq_true hbi
        by_cases h0 : k = 0
        · subst h0
          have hc0 : wr.cell? ad = some (.int .i64 x) := by rw [show ad = ad.add 0 by unfold Addr.add; split <;> simp_all]; exact hc
          have hnext := hide (hstep.2 ⟨unhide hs, by rw [List.take_zero, lastP_nil]; omega, by omega⟩)
          clear hx hu hs hbi hr' hd hstep hyes q0 q1 hlq
          go_wp2
          go_quiet ((go_at_call 60; exact Calls.quiet_of_same (unhide HI _)))
          go_wp2
          go_roundw
          case rel => exact ⟨1, by omega, by go_num, (unhide HD).more _, hnext⟩
          case measure => simp [intOf]; omega
        · obtain ⟨k2, rfl⟩ : ∃ k2, k = k2 + 1 := ⟨k - 1, by omega⟩
          obtain ⟨ad2, u2, hA2, _, hu2, hc2⟩ := (hr'.ofDrew hd).at_ (show k2 < m by omega)
          obtain rfl : ad = ad2 := by injection hA2
          obtain ⟨y, hy, rfl⟩ := i64_at hu2
          have hy1 : 1 ≤ y := ((unhide hs).1 y (by rw [take_snoc_i hy]; simp)).1
          have hlast := take_last hy
          have hgt : (0 : Int) < (k2 : Int) + 1 := by omega
          have hc3 : wr.cell? ⟨ad.block, ad.off + (k2 + 1), none⟩ = some (.int .i64 x) := by rw [← show ad.add (k2 + 1) = ⟨ad.block, ad.off + (k2 + 1), none⟩ by unfold Addr.add; rw [if_neg (by omega)]]; exact hc
          have hwk : IntKind.i64.wrap ((k2 : Int) + 1 - 1) = (k2 : Int) := by rw [IntKind.wrap_i64]; omega
          have hwk' : IntKind.i64.wrap (k2 : Int) = (k2 : Int) := by rw [IntKind.wrap_i64]; omega
          have hb2 : (k2 : Int) < (m : Int) := by omega
          have hb3 : (k2 : Int) + 1 < (m : Int) := by omega
          have hb4 : (0 : Int) ≤ (k2 : Int) := by omega
          by_cases hxy : x ≤ y
          · obtain rfl : b = false := (unhide HB).symm.trans (near_false (plok_no (k := k2 + 1 + 1) fun h2 => by
              have h3 := hstep.1 h2
              rw [hlast] at h3
              omega))
            clear hx hu hu2 hy hs hbi hr' hd HB hstep hyes q0 q1 hlq hlast h0
            go_wp2
            go_quiet ((go_at_call 60; exact Calls.quiet_of_same (unhide HI _)))
            go_wp2
            go_ret
            exact ⟨rfl, below_after b0 (((unhide HD).more _).below _)⟩
          · have hnext := hide (hstep.2 ⟨unhide hs, by rw [hlast]; omega, by omega⟩)
            clear hx hu hu2 hy hs hbi hr' hd hstep hyes q0 q1 hlq hlast h0
            go_wp2
            go_quiet ((go_at_call 60; exact Calls.quiet_of_same (unhide HI _)))
            go_wp2
            go_roundw
            case rel => exact ⟨k2 + 1 + 1, by omega, by go_num, (unhide HD).more _, hnext⟩
            case measure => simp [intOf]; omega
    · obtain rfl : m = k := by omega
      obtain rfl : bp = b := (near_true (unhide HBP) (by have h := unhide hs; rwa [List.take_of_length_le (by rw [(unhide HL).2]; exact Nat.le_refl _)] at h)).symm.trans (unhide HB)
      have H1 := hide (unhide HA wr hd)
      clear HB hs HA HBP
      go_wp2_with fail
      refine (unhide H1).mono ?_
      rintro e w2 ⟨rfl, d2⟩
      have d := below_after b0 ((hd.trans d2).below _)
      clear H1 d2 hd
      go_wp2
      go_ret
      exact ⟨rfl, d⟩
theorem near_take {p q J : List Int} {k : Nat} {z : List Int} (hz : (occR p q)[k]? = some z) : (((((occR p q).take (k + 1)).filter (fitJ J)).length : Nat) : Int) = ((((occR p q).take k).filter (fitJ J)).length : Int) + bitI (fitJ J z) := by
  rw [List.take_add_one, hz, Option.toList_some, List.filter_append, List.length_append]
  cases h : fitJ J z with
  | true => rw [List.filter_cons_of_pos h]; simp [bitI]
  | false => rw [List.filter_cons_of_neg (by simp [h])]; simp [bitI]
set_option maxHeartbeats 1600000 in
theorem scntn_any (A A' P : Option Addr) (n c B n' c' B' m d B2 : Nat) (p q J : List Int) (w : World) (h : Arg w B A n c p) (h' : Arg w B' A' n' c' q) (h2 : Arg w B2 P m d J) :
    Calls Try.prog 23 #[.slice A n c, .agg #[.slice A' n' c', .slice P m d]] w (GivesN w (numNear p q J)) := by
  obtain ⟨w0, hw0⟩ : ∃ w0, w0 = w.alloc (.cells #[.slice A' n' c', .slice P m d] 32) := ⟨_, rfl⟩
  have b0 : Below w.heap.size w w0 := by rw [hw0]; exact (Below.refl _ w).alloc (Nat.le_refl _) _
  have g0 : Whole w0 w.heap.size 32 #[.slice A' n' c', .slice P m d] := by rw [hw0]; exact Whole.new _ _ _
  obtain ⟨bp, hbp⟩ : ∃ b, isP p = b := ⟨_, rfl⟩
  have H1 := hide (show Calls Try.prog 22 #[.slice A n c] (w.alloc (.cells #[.slice A' n' c', .slice P m d] 32)) (fun e w' => e = .returned (.bool bp) ∧ Drew w0 w') from by
    rw [← hw0]; exact sisperm_any A n c B p bp hbp w0 (h.below b0).reads h.le h.cap)
  cases bp with
  | false =>
    rw [numNear_no (.inl hbp)]
    clear h h' h2 hbp hw0 g0
    go_enter Try.func23, Try.ntmps23
    go_wp2_with fail
    refine (unhide H1).mono ?_
    rintro e w1 ⟨rfl, hd⟩
    have hb1 := below_after b0 (hd.below _)
    clear H1 hd b0
    go_wp2
    go_ret
    exact ⟨rfl, hb1⟩
  | true =>
    obtain ⟨bn, hbn⟩ : ∃ b, nearOK q J = b := ⟨_, rfl⟩
    have H2 := hide (show ∀ w1, Drew w0 w1 → Calls Try.prog 50 #[.agg #[.slice A' n' c', .slice P m d]] w1 (GivesB w1 bn) from fun w1 hd => by
      rw [← hbn]; exact snear_any A' P n' c' B' m d B2 q J w1 (h'.below (below_after b0 (hd.below _))) (h2.below (below_after b0 (hd.below _))))
    cases bn with
    | false =>
      rw [numNear_no (.inr hbn)]
      clear h h' h2 hbp hw0 hbn
      go_enter Try.func23, Try.ntmps23
      go_wp2_with fail
      refine (unhide H1).mono ?_
      rintro e w1 ⟨rfl, hd⟩
      have g1 := g0.below (hd.below (w.heap.size + 1)) (by omega)
      have q0 := g1.cell 0
      have q1 := g1.cell 1
      have q2 := g1.lt
      simp only [List.getElem?_toArray, List.getElem?_cons_zero, List.getElem?_cons_succ] at q0 q1
      have H3 := hide (unhide H2 w1 hd)
      have hb1 := below_after b0 (hd.below _)
      clear H1 H2 hd b0 g0 g1
      go_wp2_with fail
      refine (unhide H3).mono ?_
      rintro e w2 ⟨rfl, d2⟩
      have hb2 := below_after hb1 d2
      clear H3 d2 hb1 q0 q1 q2
      go_wp2
      go_ret
      exact ⟨rfl, hb2⟩
    | true =>
      obtain ⟨hq, hJ⟩ := nearOK_iff.1 hbn
      rw [numNear_yes hbp hbn]
      unfold nearR
      have hl := h.len
      have hl' := h'.len
      have hn8 : n ≤ 8 := by have := isP_le hbp; omega
      have hn8' : n' ≤ 8 := by have := isP_le hq; omega
      have HO := hide (fun w2 (d2 : Below w.heap.size w w2) => soccs_any A A' n c B n' c' B' p q w2 (h.below d2) (h'.below d2))
      have HF := hide (show ∀ (w4 : World) (A4 : Option Addr) (c4 B4 : Nat) (z : List Int), z ∈ occR p q → Below w.heap.size w w4 → Ints w4 B4 (.slice A4 z.length c4) z → Calls Try.prog 65 #[.slice A4 z.length c4, .slice P m d] w4 (fun e w' => e = .returned (.bool (fitJ J z)) ∧ Drew w4 w') from fun w4 A4 c4 B4 z hz hb4 hI => by
        have ho := isOcc_iff.1 (mem_occ.1 hz)
        have hzl : z.length = n' := by omega
        exact l8fits_any A4 P z.length c4 _ m d B2 z J w4 (hI.arg (by omega) hI.cap (fun x hx => by have := ho.2.2.2.1.1 x hx; omega)) (h2.below hb4) (by rw [ho.2.2.1]; exact hJ) (fun x hx => by have := ho.2.2.2.1.1 x hx; omega) (by omega))
      have HR := hide (show (occR p q).length ≤ 1048576 from by have := (occ_room p q).1; omega)
      obtain ⟨L, hL⟩ : ∃ L, L = occR p q := ⟨_, rfl⟩
      have HT := hide (fun (k : Nat) (z : List Int) (hz : L[k]? = some z) => near_take (J := J) (hL ▸ hz))
      rw [← hL] at HO HF HR HT ⊢
      clear h h' h2 hbp hw0 hbn hq hJ hL hl hl'
      go_enter Try.func23, Try.ntmps23
      go_wp2_with fail
      refine (unhide H1).mono ?_
      rintro e w1 ⟨rfl, hd⟩
      have g1 := g0.below (hd.below (w.heap.size + 1)) (by omega)
      have q0 := g1.cell 0
      have q1 := g1.cell 1
      have q2 := g1.lt
      simp only [List.getElem?_toArray, List.getElem?_cons_zero, List.getElem?_cons_succ] at q0 q1
      have H3 := hide (unhide H2 w1 hd)
      have hb1 := below_after b0 (hd.below _)
      clear H1 H2 hd b0 g0
      go_wp2_with fail
      refine (unhide H3).mono ?_
      rintro e w2 ⟨rfl, d2⟩
      have g2 := g1.below d2 q2
      have hb2 := below_after hb1 d2
      clear H3 d2 hb1 q0 q1 q2 g1
      have q0 := g2.cell 0
      have q2 := g2.lt
      simp only [List.getElem?_toArray, List.getElem?_cons_zero] at q0
      have H4 := hide (unhide HO w2 hb2)
      clear HO
      go_wp2_with fail
      refine (unhide H4).mono ?_
      rintro e w3 ⟨A3, c3, rfl, o3, d3⟩
      have g3 := g2.below d3 q2
      have hb3 := below_after hb2 d3
      have q1 := g3.cell 1
      simp only [List.getElem?_toArray, List.getElem?_cons_zero, List.getElem?_cons_succ] at q1
      have hLn := unhide HR
      clear H4 d3 hb2 q0 q2 g2 g3
      go_wp2
      go_loopw [5, 7] (fun s i wr => ∃ k : Nat, k ≤ L.length ∧ i = .int .i64 k ∧ s = .int .i64 ((((L.take k).filter (fitJ J)).length : Nat) : Int) ∧ Drew w3 wr) (fun _ i _ => L.length - (intOf i).toNat)
      case atStart => exact ⟨0, Nat.zero_le _, rfl, rfl, Drew.refl _⟩
      case round =>
        obtain ⟨k, hk, rfl, rfl, hd⟩ := hrel
        by_cases hlt : k < L.length
        · have hb4 := below_after hb3 (hd.below _)
          obtain ⟨ad, A4, c4, z, rfl, hz, hcell, hI⟩ := (o3.below (hd.below _)).at_ hlt
          have hstep := unhide HT k z hz
          have q1' := (hd.cell ⟨w.heap.size, 1, none⟩).trans q1
          have HFZ := hide (show ∀ w', Drew wr w' → _ from fun w' d' => unhide HF w' A4 c4 _ z (List.mem_of_getElem? hz) (below_after hb4 (d'.below _)) (hI.below (d'.below _)))
          obtain ⟨bz, hbz⟩ : ∃ b, fitJ J z = b := ⟨_, rfl⟩
          rw [hbz] at HFZ hstep
          have hle : ((L.take k).filter (fitJ J)).length ≤ k := by
            have h1 := List.length_filter_le (fitJ J) (L.take k)
            rw [List.length_take] at h1; omega
          obtain ⟨s0, hs0⟩ : ∃ s0, s0 = ((L.take k).filter (fitJ J)).length := ⟨_, rfl⟩
          rw [← hs0] at hstep hle ⊢
          have hwr : IntKind.i64.wrap ((s0 : Int) + bitI bz) = (s0 : Int) + bitI bz := by rw [IntKind.wrap_i64]; cases bz <;> simp [bitI] <;> omega
          have HD := hide hd
          have HST := hide hstep
          clear hz hb4 hI hd hbz hstep hs0
          go_wp2
          go_quiet (first
            | (go_at_call 65; exact Calls.quiet_of (unhide HFZ _ ⟨_, rfl⟩))
            | (go_at_call 64; exact Calls.quiet_of_same (bit_any bz _)))
          go_wp2
          go_roundw
          case rel => exact ⟨k + 1, by omega, by go_num, by rw [unhide HST], (unhide HD).more _⟩
          case measure => simp [intOf]; omega
        · obtain rfl : L.length = k := by omega
          have hb4 := below_after hb3 (hd.below _)
          rw [List.take_length]
          clear hd hb3
          go_wp2
          go_ret
          exact ⟨rfl, hb4⟩
end Go.Proofs.Ytcoegjhhhnfplaa


/-
  spec.ReverseNear, by its contract.
-/

namespace Go.Proofs.Ytcoegjhhhnfplaa
set_option maxRecDepth 100000
open Go.RowKit

theorem plOK_len {n : Nat} {pl : List Int} (h : PlOK n pl) : pl.length ≤ n := by
  by_cases h0 : pl.length = 0
  · omega
  · have key : ∀ i, i < pl.length → (i : Int) + 1 ≤ at0 pl i := by
      intro i
      induction i with
      | zero => intro hi; have := (h.rng hi).1; simpa using this
      | succ i ih => intro hi; have h1 := ih (by omega); have h2 := h.mono (show i < i + 1 by omega) hi; omega
    have h1 := key (pl.length - 1) (by omega)
    have h2 := (h.rng (i := pl.length - 1) (by omega)).2
    omega
theorem ints_under {w w' : World} {B g : Nat} {v : Value} {zs : List Int} (h : Ints w B v zs) (hu : Until g v) (hb : Below (g + 1) w w') : Ints w' B v zs := by
  refine ⟨h.1, ?_⟩
  rcases h.2 with h0 | ⟨k, cap, cur, e, hv, hk, hc, rest⟩
  · exact .inl h0
  · have hlt : k < g := hu k (by rw [hv]; rfl)
    exact .inr ⟨k, cap, cur, e, hv, hk, (hb.block k (by omega)).trans hc, rest⟩
def revQ (q J : List Int) : List Int := if nearOK q J then q.reverse else []
def revJJ (q J : List Int) : List Int := if nearOK q J then plRev (q.length - 1) J else []
/-- The first j of the joined places of the reverse. -/
def revP (n : Nat) (J : List Int) (j : Nat) : List Int := (J.reverse.take j).map fun x => (n : Int) - x
theorem revP_step {n i : Nat} {J : List Int} {x : Int} (hx : J[i]? = some x) (j : Nat) (hj : j = J.length - (i + 1)) : revP n J (j + 1) = revP n J j ++ [(n : Int) - x] := by
  have hi : i < J.length := (List.getElem?_eq_some_iff.1 hx).1
  unfold revP
  rw [List.take_add_one, List.getElem?_reverse (by omega), show J.length - 1 - j = i by omega, hx, List.map_append]
  rfl
theorem revP_all {q J : List Int} (h : nearOK q J = true) : revP q.length J J.length = plRev (q.length - 1) J := by
  have hJ := (nearOK_iff.1 h).2
  unfold revP plRev
  rw [List.take_of_length_le (by rw [List.length_reverse]; exact Nat.le_refl _), List.map_reverse]
  congr 1
  refine List.map_congr_left fun x hx => ?_
  have := hJ.1 x hx
  omega
theorem rev_own {w : World} {B j n : Nat} {v : Value} {J xs : List Int} {y : Int} (h : w.ownsRow B 3 1 v (j + 1) (i64s (revP n J j ++ [y]))) (hx : revP n J j ++ [y] = xs) : ∃ A c, v = .slice A (j + 1) c ∧ w.ownsRow B 3 1 (.slice A (j + 1) c) (j + 1) (i64s xs) := by
  rw [hx] at h
  rcases h.2 with ⟨_, h0⟩ | ⟨g, cap, cur, rfl, hr⟩
  · omega
  · exact ⟨_, _, rfl, h⟩
end Go.Proofs.Ytcoegjhhhnfplaa


/-
  WORDS: a row of integers grows beside a list of rows that lies apart from it; the list grows beside the row. Nothing here speaks of a function of the program.
-/

namespace Go.Proofs.Ytcoegjhhhnfplaa
set_option maxRecDepth 100000
open Go.RowKit

theorem own_keepI {w w' : World} {B n : Nat} {v : Value} {xs : List Value} (h : w.ownsRow B 3 1 v n xs) (hk : KeepI w w') : w'.ownsRow B 3 1 v n xs := by
  refine ⟨h.1, ?_⟩
  rcases h.2 with hn | ⟨g, cap, cur, rfl, hb, hgg, hr⟩
  · exact .inl hn
  · exact .inr ⟨g, cap, cur, rfl, hb, (hk.block g cur _ _ hgg (by decide)).trans hgg, hr⟩
/-- 'out = append(out, x)', an integer, beside a list of rows. -/
theorem wpList_append_beside {ops : Array Oper} {rest : List Oper} {o : Oper} {a : Act} {W : World} {Q : Exit → Act → World → Prop} (hgd : o.guard = none) (sl x : Operand)
    (ho : o.op = .call { callee := .builtin .append, args := #[sl, x], argTypes := #[24, 24] })
    (base n : Nat) (wr : World) (v l : Value) (xs : List Int) (z : Int) (zss : List (List Int)) (hs : a.eval sl = v) (hx : a.eval x = .slice (some ⟨wr.heap.size, 0, none⟩) 1 1) (hW : W = wr.alloc (.cells #[.int .i64 z] 3))
    (hown : wr.ownsRow base 3 1 v n (i64s xs)) (hF : Fresh wr base l zss v) (hn : n ≤ 1048576) (hbase : base ≤ wr.heap.size)
    (K : ∀ v' w', w'.ownsRow base 3 1 v' (n + 1) (i64s (xs ++ [z])) → Fresh w' base l zss v' → Below base wr w' → wpList Try.prog ops Q rest (a.put o.dst v') w') : wpList Try.prog ops Q (o :: rest) a W := by
  obtain ⟨i0, hi, hz0, hz1, hz2⟩ := info_parts intInfo
  obtain ⟨vs, hl, hin, ha⟩ := hF
  have hal := (Below.refl wr.heap.size wr).alloc (Nat.le_refl _) (.cells #[.int .i64 z] 3)
  have hown2 := own_below hown hal
  have hl2 := own_below hl hal
  have hin2 := hin.keepI (KeepI.of_below hal)
  have hne := rows_apart hl2 (Ints.of_own (zs := xs) hown2)
  subst hW
  refine wpList_append_own_at _ hgd sl x 24 ho base 3 i0 (.int .i64 0) 1 8 Try.underlying24 hi hz0 hz1 hz2 rfl (by decide) v _ _ hs hown2 ⟨wr.heap.size, 0, none⟩ 1 1 [.int .i64 z] hx rfl (cell_one_new _ _ _) ?_ (by unfold maxLen; omega) (by omega) (by simp; omega) ?_
  · intro y hy
    obtain rfl := List.mem_singleton.1 hy
    rfl
  · intro v' w' h1 h2 _ h4
    rw [← show i64s (xs ++ [z]) = i64s xs ++ [.int .i64 z] by simp [i64s]] at h1
    refine K v' w' h1 ⟨vs, hl2.kept h2 hne, ⟨hin2.len, fun i u zs hu hz => (hin2.row i u zs hu hz).kept h2 (ha u (List.mem_of_getElem? hu)), hin2.away⟩, fun u hu => ?_⟩ ((hal.mono hbase).grown h2 (by simp; omega) (fun k hk => (hown.lt k hk).1))
    obtain ⟨zs, hz⟩ := hin.mem hu
    rcases h4 with h4 | h4
    · rcases ha u hu with h | h
      · exact .inl h
      · exact .inr (by rw [h4]; exact h)
    · cases hl : u.ownBlock with
      | none => exact .inl hl
      | some g =>
        refine .inr ?_
        rw [hl, h4]
        intro e
        have h5 := hz.until_ g hl
        simp at e
        omega
/-- 'list = append(list, row)' at a step of a region that draws, beside a row of integers. -/
theorem step_push_beside {ops : Array Oper} {o : Oper} {a : Act} {W : World} {K : Act → World → Prop} {Q : Exit → Act → World → Prop} {E : Prop} (hgd : o.guard = none) (sl x : Operand)
    (ho : o.op = .call { callee := .builtin .append, args := #[sl, x], argTypes := #[25, 25] })
    (base : Nat) (w0 wr : World) (v u r : Value) (zss : List (List Int)) (zs : List Int) (hs : a.eval sl = v) (hx : a.eval x = .slice (some ⟨wr.heap.size, 0, none⟩) 1 1) (hW : W = wr.alloc (.cells #[u] 24) ∨ W = (wr.alloc (.cells #[u] 24)).drew)
    (hF : Fresh w0 base v zss r) (hb0 : Below w0.heap.size w0 wr) (hu : Ints wr w0.heap.size u zs) (hr : Until w0.heap.size r) (hn : zss.length ≤ 1048576) (hbase : base ≤ w0.heap.size)
    (hK : ∀ v' w', Fresh w' base v' (zss ++ [zs]) r → Below base w0 w' → KeepI w0 w' → K (a.put o.dst v') w') :
    if Region.wanted o (yielded ops a.tmps) = true then Oper.wp Try.prog o a W K Q else E := by
  obtain ⟨vs, hown, hin, ha⟩ := hF
  have hsz := hb0.size
  have hal : Below wr.heap.size wr W := by
    rcases hW with rfl | rfl
    · exact (Below.refl wr.heap.size wr).alloc (Nat.le_refl _) (.cells #[u] 24)
    · exact ((Below.refl wr.heap.size wr).alloc (Nat.le_refl _) (.cells #[u] 24)).drew
  have hrd : Reads W (wr.heap.size + 1) (some ⟨wr.heap.size, 0, none⟩) 1 [u] := by
    rcases hW with rfl | rfl
    · exact reads_new wr _ _
    · exact (reads_new wr _ _).drew
  have hown1 := own_below hown hb0
  have hown2 := own_below hown1 hal
  obtain ⟨A1, c1, rfl⟩ := hu.slice
  have hball := below_after hb0 hal
  refine step_append_rows hgd sl x ho base (wr.heap.size + 1) zss.length 1 1 w0 v (some ⟨wr.heap.size, 0, none⟩) vs [.slice A1 zs.length c1] hs hx hown2 hrd (fun h => by cases h) (fun y hy => by obtain rfl := List.mem_singleton.1 hy; rfl) (by omega) (by omega) (hball.mono hbase) (Nat.le_trans hbase hball.size) fun v' w' h1 h2 h3 _ => ?_
  have hk := (KeepI.of_below hball).trans (KeepI.of_grown hown2 h3)
  have hk1 := (KeepI.of_below hal).trans (KeepI.of_grown hown2 h3)
  refine hK v' w' ⟨vs ++ [.slice A1 zs.length c1], by rw [List.length_append]; exact h1, (hin.keepI hk).push ((hu.low hbase).keepI hk1) (hin.away_new hu.since (Nat.le_refl _)), fun y hy => ?_⟩ h2 hk
  rcases List.mem_append.1 hy with hy | hy
  · exact ha y hy
  · obtain rfl := List.mem_singleton.1 hy
    exact apart' hu.since hr (Nat.le_refl _)
end Go.Proofs.Ytcoegjhhhnfplaa
