/-
  Words and contracts that the laws lean on, bundled: MofW, MofS, Jots, MofI, MeshX, PutN, InvMS, Sort, SortB.
-/
import Derived.Test.YtcoegjhhhnfplaaB8
import Derived.Deep.RegionLaw
import Derived.Laws.BitsLemmas
import Derived.Laws.Bits64b
import Derived.Test.YtcoegjhhhnfplaaB4
import Derived.Test.YtcoegjhhhnfplaaB6
import Derived.Test.YtcoegjhhhnfplaaB5
import Derived.Test.YtcoegjhhhnfplaaB3
import Derived.Test.YtcoegjhhhnfplaaB2
import Derived.Test.YtcoegjhhhnfplaaShelfF

/-
  A Mesh in a block of the call's own whose list grows.
-/

namespace Go.Proofs.Ytcoegjhhhnfplaa
set_option maxRecDepth 100000
open Go.RowKit
/-- What holds of a Mesh in block g while its list grows. -/
structure MofAt (w : World) (g n : Nat) (A2 : Option Addr) (c2 : Nat) (q : List Int) (X : TypeId) (xs : Array Value) (zss : List (List Int)) (Aj : Option Addr) (cj : Nat) (wr : World) : Prop where
  hG : Whole wr g 27 #[.slice A2 n c2, .slice Aj zss.length cj]
  hF : Fresh wr (g + 1) (.slice Aj zss.length cj) zss (.slice A2 n c2)
  hX : Whole wr w.heap.size X xs
  hR : Whole wr (w.heap.size + 1) 27 #[.slice none 0 0, .slice none 0 0]
  hP : Ints wr (w.heap.size + 2) (.slice A2 n c2) q
  hB : Below w.heap.size w wr
/-- The list is put anew, another world behind. -/
theorem MofAt.next {w : World} {g n : Nat} {A2 : Option Addr} {c2 : Nat} {q : List Int} {X : TypeId} {xs : Array Value} {zss yss : List (List Int)} {Aj A' : Option Addr} {cj c' : Nat} {wr w' : World} (h : MofAt w g n A2 c2 q X xs zss Aj cj wr) (hU : Until g (.slice A2 n c2)) (hg : w.heap.size + 2 ≤ g)
    (hb : Below (g + 1) wr w') (hF : Fresh w' (g + 1) (.slice A' yss.length c') yss (.slice A2 n c2)) : MofAt w g n A2 c2 q X xs yss A' c' (w'.setCell ⟨g, 1, none⟩ (.slice A' yss.length c')) :=
  ⟨(h.hG.below hb (Nat.lt_succ_self g)).put 1 _, hF.aside (p := ⟨g, 1, none⟩) (Nat.lt_succ_self g) _, (h.hX.below hb (by omega)).far (p := ⟨g, 1, none⟩) (by simp; omega) _, (h.hR.below hb (by omega)).far (p := ⟨g, 1, none⟩) (by simp; omega) _,
    (ints_under h.hP hU hb).kept (grownBy_setCellA w' ⟨g, 1, none⟩ _) (away_block hU), (h.hB.trans (hb.mono (by omega))).setCell (p := ⟨g, 1, none⟩) (by show w.heap.size ≤ g; omega) _⟩
theorem MofAt.end_ {w : World} {g n : Nat} {A2 : Option Addr} {c2 : Nat} {q : List Int} {X : TypeId} {xs : Array Value} {zss : List (List Int)} {Aj : Option Addr} {cj : Nat} {wr : World} (h : MofAt w g n A2 c2 q X xs zss Aj cj wr) (hg : w.heap.size + 2 ≤ g) :
    InfAt wr (w.heap.size + 2) (.slice A2 n c2) (.slice Aj zss.length cj) q zss := ⟨h.hP, h.hF.low (by omega)⟩
theorem Fresh.shape {w : World} {B : Nat} {v r : Value} {zss : List (List Int)} (h : Fresh w B v zss r) : ∃ A c, v = .slice A zss.length c := h.intsS.slice
theorem Fresh.nil_ (w : World) (B : Nat) (r : Value) : Fresh w B (.slice none 0 0) [] r := ⟨[], ⟨rfl, .inl ⟨rfl, rfl⟩⟩, Inner.nil _ _, fun x hx => by cases hx⟩
/-- A list over the block, a row under it. -/
theorem Fresh.of_under {w : World} {g : Nat} {v r : Value} {zss : List (List Int)} (hS : IntsS w (g + 1) v zss) (hU : Until g r) : Fresh w (g + 1) v zss r := by
  obtain ⟨vs, h1, h2⟩ := hS
  exact ⟨vs, h1, h2, fun x hx => by
    obtain ⟨zs, hz⟩ := h2.mem hx
    exact Away.symm (apart hU hz.since (Nat.le_succ g))⟩
end Go.Proofs.Ytcoegjhhhnfplaa


/-
  spec.MeshOf by its contract.
-/

namespace Go.Proofs.Ytcoegjhhhnfplaa
set_option maxRecDepth 100000
open Go.RowKit
set_option maxHeartbeats 4000000 in
theorem smof_any (A P : Option Addr) (n c B m d B' : Nat) (q J : List Int) (w : World) (h : Arg w B A n c q) (h' : Arg w B' P m d J) :
    Calls Try.prog 15 #[.agg #[.slice A n c, .slice P m d]] w (GivesXB w (mofQ q J) (mofS q J) (mofOK q J)) := by
  have hl := h.len
  have hl' := h'.len
  obtain ⟨w0, hw0⟩ : ∃ w0, w0 = (w.alloc (.cells #[.slice A n c, .slice P m d] 32)).alloc (.cells #[.slice none 0 0, .slice none 0 0] 27) := ⟨_, rfl⟩
  have b0 : Below w.heap.size w w0 := by rw [hw0]; exact ((Below.refl _ w).alloc (Nat.le_refl _) _).alloc (by simp) _
  have hs0 : w0.heap.size = w.heap.size + 2 := by rw [hw0]; simp
  have gx : Whole w0 w.heap.size 32 #[.slice A n c, .slice P m d] := by rw [hw0]; exact (Whole.new _ _ _).alloc _
  have gr : Whole w0 (w.heap.size + 1) 27 #[.slice none 0 0, .slice none 0 0] := by
    rw [hw0]
    have := Whole.new (w.alloc (.cells #[.slice A n c, .slice P m d] 32)) 27 #[.slice none 0 0, .slice none 0 0]
    rwa [World.size_alloc] at this
  have x0 := gx.cell 0
  have x1 := gx.cell 1
  simp only [List.getElem?_toArray, List.getElem?_cons_zero, List.getElem?_cons_succ] at x0 x1
  obtain ⟨b, hok⟩ : ∃ b, nearOK q J = b := ⟨_, rfl⟩
  have H1 := hide (snear_any A P n c B m d B' q J w0 (h.below b0) (h'.below b0))
  rw [hok] at H1
  have HW := hide hw0
  have HL := hide hl
  have HL' := hide hl'
  have HA := hide h
  have HA' := hide h'
  rw [hw0] at x0 x1
  clear h h' hl hl' hw0
  have hno : ∀ (w1 : World), Below w0.heap.size w0 w1 → Hid (Whole w1 (w.heap.size + 1) 27 #[.slice none 0 0, .slice none 0 0] ∧ Below w.heap.size w w1) := fun w1 d1 => hide ⟨gr.below d1 gr.lt, below_after b0 d1⟩
  cases b with
  | false =>
    obtain ⟨e1, e2, e3⟩ := mof_no (q := q) (J := J) (.inl hok)
    rw [e1, e2, e3]
    clear hok e1 e2 e3
    go_enter Try.func15, Try.ntmps15
    go_wp2_with fail
    rw [← unhide HW]
    refine (unhide H1).mono ?_
    rintro e w1 ⟨rfl, d1⟩
    have HN := hno w1 d1
    obtain ⟨gr1, hb1⟩ := unhide HN
    have r0 := gr1.cell 0
    have r1 := gr1.cell 1
    have g0 := gr1.frozen 0
    have g1 := gr1.frozen 1
    have hltr := gr1.lt
    simp only [List.getElem?_toArray, List.getElem?_cons_zero, List.getElem?_cons_succ] at r0 r1
    clear H1 HW x0 x1 gx gr hno b0 d1 gr1 hb1
    go_wp2
    obtain ⟨gr1, hb1⟩ := unhide HN
    have hWe := (gr1.put 0 (.slice none 0 0)).put 1 (.slice none 0 0)
    refine bodyPost_ret (v := .tuple #[.agg #[.slice none 0 0, .slice none 0 0], .bool false]) (results_mesh Try.results15 _ _ (w.heap.size + 1) 27 _ (0, 0) _ rfl hWe Try.underlying27 rfl meshInfo') rfl ?_
    exact meshB_end false (mesh_nil w1 (w.heap.size + 2)) (by omega) (by omega) hb1
  | true =>
    obtain ⟨hq, hJ⟩ := nearOK_iff.1 hok
    by_cases h4 : q.length ≤ 4
    · obtain ⟨e1, e2, e3⟩ := mof_yes hok h4
      rw [e1, e2, e3]
      have hn4 : n ≤ 4 := by have := unhide HL; omega
      have hm8 : m ≤ 8 := by have := near_short hJ; have := unhide HL'; omega
      have hng : ¬ (4 : Int) < (n : Int) := by omega
      have lx := gx.lt
      have HG := hide (And.intro gx gr)
      clear hok e1 e2 e3 hq hJ hno gr gx
      go_enter Try.func15, Try.ntmps15
      go_wp2_with fail
      rw [← unhide HW] at x0 x1 ⊢
      refine (unhide H1).mono ?_
      rintro e w1 ⟨rfl, d1⟩
      have hb1 := below_after b0 d1
      have z0 := (d1.cell (p := ⟨w.heap.size, 0, none⟩) lx).trans x0
      have gx1 := (unhide HG).1.below d1 (unhide HG).1.lt
      have gr1 := (unhide HG).2.below d1 (unhide HG).2.lt
      have hb1e : Below w1.heap.size w1 (w1.alloc (.cells #[] 3)) := (Below.refl _ w1).alloc (Nat.le_refl _) _
      have hown0 := own0 w1 w1.heap.size (Nat.le_refl _)
      have hAe := ((unhide HA).below hb1).below hb1e
      have hze : w1.heap.size ≤ (w1.alloc (.cells #[] 3)).heap.size := hb1e.size
      have hs1 : w.heap.size + 2 ≤ w1.heap.size := by have := d1.size; omega
      have lz : w.heap.size < w1.heap.size := by omega
      have HS1 := hide hs1
      have HW1 := hide (And.intro gx1 (And.intro gr1 hb1))
      clear H1 HW HG x0 x1 lx b0 d1 gx1 gr1 hs1
      go_wp2_with (first
        | (at_builtin; refine wpList_append_arg rfl (.tmp 17) (.tmp 19) rfl w1.heap.size B 0 n c w1 _ A [] q rfl rfl hown0 hAe (by omega) hb1e hze ?_; intro v' w2 hown2 hb2 hg2; have hI2 := Ints.of_own hown2; rw [List.nil_append] at hI2; obtain ⟨A2, c2, rfl⟩ := hI2.slice; have hN := Whole.new w2 27 #[.slice none 0 0, .slice none 0 0]; have r0 := hN.cell 0; have r1 := hN.cell 1; have f0 := hN.frozen 0; have f1 := hN.frozen 1; have hlt2 := hN.lt; simp only [List.getElem?_toArray, List.getElem?_cons_zero, List.getElem?_cons_succ] at r0 r1; clear hown2 hg2))
      obtain ⟨gx1, gr1, hb1⟩ := unhide HW1
      have hs1 := unhide HS1
      have hz2' := hb2.size
      obtain ⟨g, hg⟩ : ∃ g, g = w2.heap.size := ⟨_, rfl⟩
      obtain ⟨w5, hw5⟩ : ∃ w5, w5 = w2.alloc (.cells #[.slice A2 q.length c2, .slice none 0 0] 27) := ⟨_, rfl⟩
      have hb25 : Below w2.heap.size w2 w5 := by rw [hw5]; exact (Below.refl _ w2).alloc (Nat.le_refl _) _
      have hG5 : Whole w5 g 27 #[.slice A2 q.length c2, .slice none 0 0] := by rw [hw5, hg]; exact Whole.new _ _ _
      have hX5 := (gx1.below hb2 gx1.lt).below hb25 (by have := gx1.lt; omega)
      have hR5 := (gr1.below hb2 gr1.lt).below hb25 (by have := gr1.lt; omega)
      have hU5 : Until g (.slice A2 q.length c2) := by rw [hg]; exact hI2.until_
      have hP5 : Ints w5 (w.heap.size + 2) (.slice A2 q.length c2) q := (hI2.below hb25).low (by omega)
      have hB5 : Below w.heap.size w w5 := below_after (below_after hb1 hb2) hb25
      have hg1 : w.heap.size + 2 ≤ g := by omega
      have hM : MofAt w g q.length A2 c2 q 32 #[.slice A n c, .slice P m d] (colS q.length (J.take 0)) none 0 w5 := ⟨hG5, Fresh.nil_ _ _ _, hX5, hR5, hP5, hB5⟩
      rw [← hw5, ← hg]
      clear hw5 hb25 gx1 gr1 hb1 hb1e hown0 hAe hze HS1 HW1 hb2 hI2 hN r0 r1 f0 f1 hlt2 hz2' hg hs1 hG5 hX5 hR5 hP5 hB5 z0 lz
      go_loopw [5] (fun i wr => ∃ (k : Nat) (Aj : Option Addr) (cj : Nat), k ≤ m ∧ i = .int .i64 k ∧ MofAt w g q.length A2 c2 q 32 #[.slice A n c, .slice P m d] (colS q.length (J.take k)) Aj cj wr) (fun i _ => m - (intOf i).toNat)
      case atStart => exact ⟨0, none, 0, Nat.zero_le _, rfl, hM⟩
      case round =>
        obtain ⟨k, Aj, cj, hk, rfl, hM⟩ := hrel
        have y0 := hM.hX.cell 0
        have y1 := hM.hX.cell 1
        simp only [List.getElem?_toArray, List.getElem?_cons_zero, List.getElem?_cons_succ] at y0 y1
        by_cases hlt : k < m
        · obtain ⟨j, hj⟩ : ∃ j, J[k]? = some j := ⟨_, List.getElem?_eq_getElem (by have := unhide HL'; omega)⟩
          have HJ := hide hj
          have HJS := hide (colS_step (n := q.length) hj)
          have hl1 : (colS q.length (J.take k)).length ≤ 40 := by
            rw [colS_length, List.length_take]
            have h1 : min k J.length ≤ 8 := by omega
            have h2 : q.length + 1 ≤ 5 := by omega
            exact Nat.mul_le_mul h1 h2
          have HM := hide hM
          clear hj hM
          go_wp2
          go_loopw [6] (fun i wr => ∃ (r : Nat) (Aj : Option Addr) (cj : Nat), r ≤ n + 1 ∧ i = .int .i64 r ∧ MofAt w g q.length A2 c2 q 32 #[.slice A n c, .slice P m d] (colS q.length (J.take k) ++ colI j r) Aj cj wr) (fun i _ => n + 1 - (intOf i).toNat)
          case atStart => exact ⟨0, Aj, cj, Nat.zero_le _, rfl, by rw [show colI j 0 = [] from rfl, List.append_nil]; exact unhide HM⟩
          case round =>
            obtain ⟨r, Ai, ci, hr, rfl, hM⟩ := hrel
            have x0 := hM.hX.cell 0
            have x1 := hM.hX.cell 1
            simp only [List.getElem?_toArray, List.getElem?_cons_zero, List.getElem?_cons_succ] at x0 x1
            clear y0 y1
            by_cases hlr : r < n + 1
            · have hle : (r : Int) ≤ (n : Int) := by omega
              obtain ⟨ad, u, rfl, _, hu, hc⟩ := (((unhide HA').below hM.hB).reads).at_ hlt
              obtain ⟨x, hx, rfl⟩ := i64_at hu
              obtain rfl : j = x := by have := (unhide HJ).symm.trans hx; injection this
              obtain ⟨zss, hz⟩ : ∃ zss, zss = colS q.length (J.take k) ++ colI j r := ⟨_, rfl⟩
              obtain ⟨yss, hy⟩ : ∃ yss, yss = zss ++ [[j, (r : Int)]] := ⟨_, rfl⟩
              have hyc : yss = colS q.length (J.take k) ++ colI j (r + 1) := by rw [hy, hz, colI_step, List.append_assoc]
              have hzl : zss.length ≤ 1048576 := by rw [hz, List.length_append, colI_length]; omega
              rw [← hz] at hM
              have q0 := hM.hG.cell 0
              have q1 := hM.hG.cell 1
              have f1 := hM.hG.frozen 1
              have hltg := hM.hG.lt
              simp only [List.getElem?_toArray, List.getElem?_cons_zero, List.getElem?_cons_succ] at q0 q1
              have q1e : wr.drew.cell? ⟨g, 1, none⟩ = some (.slice Ai zss.length ci) := q1
              have q1d : ∀ o, (wr.drew.alloc o).cell? ⟨g, 1, none⟩ = some (.slice Ai zss.length ci) := fun o => (((Below.refl wr.heap.size wr).drew.alloc (Nat.le_refl _) o).cell (p := ⟨g, 1, none⟩) hltg).trans q1
              have q1c : ∀ o o', ((wr.drew.alloc o).alloc o').cell? ⟨g, 1, none⟩ = some (.slice Ai zss.length ci) := fun o o' => ((((Below.refl wr.heap.size wr).drew.alloc (Nat.le_refl _) o).alloc (by simp) o').cell (p := ⟨g, 1, none⟩) hltg).trans q1
              have hb4 : Below wr.heap.size wr (wr.drew.alloc (.cells #[.int .i64 j, .int .i64 r] 3)) := (Below.refl wr.heap.size wr).drew.alloc (Nat.le_refl _) _
              have hu4 : Ints (wr.drew.alloc (.cells #[.int .i64 j, .int .i64 r] 3)) wr.heap.size (.slice (some ⟨wr.heap.size, 0, none⟩) 2 2) [j, (r : Int)] := Ints.two2 wr.drew wr.heap.size j r (Nat.le_refl _)
              have HMM := hide hM
              have HY := hide (And.intro hy hyc)
              have hUn : Until wr.heap.size (.slice A2 q.length c2) := fun i hi => Nat.lt_trans (hU5 i hi) hltg
              clear hu hx hz hy hyc HM HJS
              go_wp2
              go_region_law
                (first
                  | (refine step_push_beside (by rfl) (.tmp 37) (.tmp 45) (by rfl) (g + 1) wr (wr.drew.alloc (.cells #[.int .i64 j, .int .i64 r] 3)) _ _ (.slice A2 q.length c2) zss [j, (r : Int)] (by rfl) (by rw [World.size_alloc]; rfl) (by first | exact .inl rfl | exact .inr rfl) (unhide HMM).hF hb4 hu4 hUn hzl hltg ?_; intro v' w' hF' hb' hk'; rw [← (unhide HY).1] at hF'; obtain ⟨A', c', rfl⟩ := hF'.shape; have r1' := ((unhide HMM).hG.below hb' (Nat.lt_succ_self g)).cell 1; have f1' := ((unhide HMM).hG.below hb' (Nat.lt_succ_self g)).frozen 1; have l1' := ((unhide HMM).hG.below hb' (Nat.lt_succ_self g)).lt; simp only [List.getElem?_toArray, List.getElem?_cons_zero, List.getElem?_cons_succ] at r1'; have HF' := hide hF'; clear hF'))
              all_goals
                have hM' := (unhide HMM).next hU5 hg1 hb' (unhide HF')
                have HN := hide (show MofAt w g q.length A2 c2 q 32 #[.slice A n c, .slice (some ad) m d] (colS q.length (J.take k) ++ colI j (r + 1)) A' c' (w'.setCell ⟨g, 1, none⟩ (.slice A' yss.length c')) from by rw [← (unhide HY).2]; exact hM')
                clear hM' HMM q0 q1 f1 q1e q1d q1c hb4 hu4 hUn x0 x1 hc r1' f1' HF' hb' HY hk' l1' hltg
                generalize w'.setCell ⟨g, 1, none⟩ (.slice A' yss.length c') = w7 at HN ⊢
                go_wp2
                go_roundw
                case rel => exact ⟨r + 1, A', c', by omega, by go_num, unhide HN⟩
                case measure => simp [intOf]; omega
            · obtain rfl : r = n + 1 := by omega
              have hle : ¬ ((n : Int) + 1 ≤ (n : Int)) := by omega
              have hM2 := hide (show MofAt w g q.length A2 c2 q 32 #[.slice A n c, .slice P m d] (colS q.length (J.take (k + 1))) Ai ci wr from by rw [unhide HJS, unhide HL]; rw [unhide HL] at hM; exact hM)
              clear hM HM
              go_wp2
              go_roundw
              case rel => exact ⟨k + 1, Ai, ci, by omega, by go_num, unhide hM2⟩
              case measure => simp [intOf]; omega
        · obtain rfl : m = k := by omega
          have eT : J.take m = J := by rw [← unhide HL', List.take_length]
          rw [eT] at hM
          have r0 := hM.hG.cell 0
          have r1 := hM.hG.cell 1
          have s0 := hM.hR.cell 0
          have s1 := hM.hR.cell 1
          have e0 := hM.hR.frozen 0
          have e1 := hM.hR.frozen 1
          have hltr := hM.hR.lt
          simp only [List.getElem?_toArray, List.getElem?_cons_zero, List.getElem?_cons_succ] at r0 r1 s0 s1
          have HM := hide hM
          clear hM eT
          go_wp2
          have hM := unhide HM
          have hWe := (hM.hR.put 0 (.slice A2 q.length c2)).put 1 (.slice Aj (colS q.length J).length cj)
          refine bodyPost_ret (v := .tuple #[.agg #[.slice A2 q.length c2, .slice Aj (colS q.length J).length cj], .bool true]) (results_mesh Try.results15 _ _ (w.heap.size + 1) 27 _ (0, 0) _ rfl hWe Try.underlying27 rfl meshInfo') rfl ?_
          exact meshB_end true (hM.end_ hg1) (by omega) (by omega) hM.hB
    · obtain ⟨e1, e2, e3⟩ := mof_no (q := q) (J := J) (.inr h4)
      rw [e1, e2, e3]
      have hng : (4 : Int) < (n : Int) := by have := unhide HL; omega
      clear hok e1 e2 e3 hq hJ
      go_enter Try.func15, Try.ntmps15
      go_wp2_with fail
      rw [← unhide HW] at x0 x1 ⊢
      refine (unhide H1).mono ?_
      rintro e w1 ⟨rfl, d1⟩
      have HN := hno w1 d1
      obtain ⟨gr1, hb1⟩ := unhide HN
      have y0 := (d1.cell (p := ⟨w.heap.size, 0, none⟩) gx.lt).trans x0
      have r0 := gr1.cell 0
      have r1 := gr1.cell 1
      have g0 := gr1.frozen 0
      have g1 := gr1.frozen 1
      have hltr := gr1.lt
      simp only [List.getElem?_toArray, List.getElem?_cons_zero, List.getElem?_cons_succ] at r0 r1
      clear H1 HW x0 x1 gx gr hno b0 d1 gr1 hb1
      go_wp2
      obtain ⟨gr1, hb1⟩ := unhide HN
      have hWe := (gr1.put 0 (.slice none 0 0)).put 1 (.slice none 0 0)
      refine bodyPost_ret (v := .tuple #[.agg #[.slice none 0 0, .slice none 0 0], .bool false]) (results_mesh Try.results15 _ _ (w.heap.size + 1) 27 _ (0, 0) _ rfl hWe Try.underlying27 rfl meshInfo') rfl ?_
      exact meshB_end false (mesh_nil w1 (w.heap.size + 2)) (by omega) (by omega) hb1
end Go.Proofs.Ytcoegjhhhnfplaa


/-
  impl.joints (a bit for each joined number): jointsOf, has, fit; impl.IsNear, by their contracts.
-/

namespace Go.Proofs.Ytcoegjhhhnfplaa
set_option maxRecDepth 100000
open Go.RowKit

/-- A bit for each number. -/
def jB (J : List Int) : Nat := J.foldl (fun a j => a ||| 2 ^ j.toNat) 0
theorem jB_nil : jB [] = 0 := rfl
theorem jB_snoc (J : List Int) (x : Int) : jB (J ++ [x]) = jB J ||| 2 ^ x.toNat := by unfold jB; rw [List.foldl_append]; rfl
theorem jB_step {J : List Int} {k : Nat} {x : Int} (hx : J[k]? = some x) : jB (J.take (k + 1)) = jB (J.take k) ||| 2 ^ x.toNat := by rw [take_snoc_i hx, jB_snoc]
theorem jB_lt_aux : ∀ (J : List Int) (a : Nat), a < 512 → (∀ x ∈ J, 0 ≤ x ∧ x ≤ 8) → J.foldl (fun a j => a ||| 2 ^ j.toNat) a < 512
  | [], a, ha, _ => ha
  | x :: J, a, ha, h => by
    rw [List.foldl_cons]
    refine jB_lt_aux J _ ?_ fun y hy => h y (List.mem_cons_of_mem _ hy)
    have hx := h x (List.mem_cons_self ..)
    have h2 : 2 ^ x.toNat < 2 ^ 9 := Nat.pow_lt_pow_right (by decide) (by omega)
    exact Nat.or_lt_two_pow (n := 9) ha h2
theorem jB_lt {J : List Int} (h : ∀ x ∈ J, 0 ≤ x ∧ x ≤ 8) : jB J < 512 := jB_lt_aux J 0 (by decide) h
theorem jB_test_aux (i : Nat) : ∀ (J : List Int) (a : Nat), (∀ x ∈ J, 0 ≤ x) → (J.foldl (fun a j => a ||| 2 ^ j.toNat) a).testBit i = (a.testBit i || decide ((i : Int) ∈ J))
  | [], a, _ => by simp
  | x :: J, a, h => by
    have hx := h x (List.mem_cons_self ..)
    rw [List.foldl_cons, jB_test_aux i J _ fun y hy => h y (List.mem_cons_of_mem _ hy), Nat.testBit_or, Nat.testBit_two_pow, Bool.or_assoc]
    congr 1
    by_cases e : x.toNat = i
    · have e2 : (i : Int) = x := by omega
      simp [e, e2]
    · have e2 : ¬ (i : Int) = x := by omega
      simp [e, e2]
theorem jB_test {J : List Int} (h : ∀ x ∈ J, 0 ≤ x) (i : Nat) : (jB J).testBit i = decide ((i : Int) ∈ J) := by
  unfold jB; rw [jB_test_aux i J 0 h]; simp
theorem bit_testU (s k : Nat) (hs : s < 512) : (bits .and .u64 ((s : Int) / 2 ^ k) 1 == 1) = s.testBit k := by
  have h0 : (s : Int) / 2 ^ k = ((s / 2 ^ k : Nat) : Int) := by push_cast; rfl
  have hle : s / 2 ^ k ≤ s := Nat.div_le_self _ _
  have h1 : bits .and .u64 ((s / 2 ^ k : Nat) : Int) 1 = ((s / 2 ^ k % 2 : Nat) : Int) := by
    have := bits_mask .u64 63 (by decide) (fun n h0 h1 => by rw [IntKind.wrap_u64]; omega) 1 (by decide) ((s / 2 ^ k : Nat) : Int) (Int.natCast_nonneg _) (Int.lt_of_le_of_lt (Int.ofNat_le.2 hle) (by omega))
    simpa using this
  rw [h0, h1, Nat.testBit_eq_decide_div_mod_eq]
  by_cases h : s / 2 ^ k % 2 = 1
  · rw [h]; rfl
  · have h2 : s / 2 ^ k % 2 = 0 := by omega
    rw [h2]; rfl
set_option maxHeartbeats 1600000 in
theorem inear_any (A P : Option Addr) (n c B m d B' : Nat) (q J : List Int) (w : World) (h : Arg w B A n c q) (h' : Arg w B' P m d J) :
    Calls Try.prog 48 #[.agg #[.slice A n c, .slice P m d]] w (GivesB w (nearOK q J)) := by
  have hl := h.len
  have hl' := h'.len
  have hm := h'.le
  have hn := h.le
  obtain ⟨w0, hw0⟩ : ∃ w0, w0 = w.alloc (.cells #[.slice A n c, .slice P m d] 32) := ⟨_, rfl⟩
  have b0 : Below w.heap.size w w0 := by rw [hw0]; exact (Below.refl _ w).alloc (Nat.le_refl _) _
  have g0 : Whole w0 w.heap.size 32 #[.slice A n c, .slice P m d] := by rw [hw0]; exact Whole.new _ _ _
  have hr' := (h'.below b0).reads
  obtain ⟨bp, hbp⟩ : ∃ b, isP q = b := ⟨_, rfl⟩
  have q0 := g0.cell 0
  simp only [List.getElem?_toArray, List.getElem?_cons_zero] at q0
  have H1 := hide (iisperm_any A n c B q bp hbp w0 (h.below b0).reads (h.below b0).under h.le h.small)
  cases bp with
  | false =>
    rw [show nearOK q J = false from by unfold nearOK; rw [hbp]; rfl]
    have HW := hide hw0
    clear h h' hl hl' hbp g0 hr'
    rw [hw0] at q0
    clear hw0
    go_enter Try.func48, Try.ntmps48
    go_wp2_with fail
    rw [← unhide HW]
    refine (unhide H1).mono ?_
    rintro e w1 ⟨rfl, d1⟩
    have d2 := below_after b0 d1
    clear H1 HW d1 b0
    go_wp2
    go_ret
    exact ⟨rfl, d2⟩
  | true =>
    obtain ⟨b, hb⟩ : ∃ b, nearOK q J = b := ⟨_, rfl⟩
    rw [hb]
    have HB := hide hb
    have HBP := hide hbp
    have HL := hide (⟨hl, hl'⟩ : q.length = n ∧ J.length = m)
    have HJS := hide (fun k x (hx : J[k]? = some x) => h'.small x (List.mem_of_getElem? hx))
    have HW := hide hw0
    have HU := hide (⟨h'.under, b0.size⟩ : B' ≤ w.heap.size ∧ w.heap.size ≤ w0.heap.size)
    have G0 := hide g0
    clear h h' hl hl' hbp g0 hb
    rw [hw0] at q0
    clear hw0
    go_enter Try.func48, Try.ntmps48
    go_wp2_with fail
    rw [← unhide HW]
    refine (unhide H1).mono ?_
    rintro e w1 ⟨rfl, d1⟩
    have d2 := below_after b0 d1
    have g1 := (unhide G0).below d1 (by have := (unhide G0).lt; omega)
    have c0' := g1.cell 0
    have c1' := g1.cell 1
    simp only [List.getElem?_toArray, List.getElem?_cons_zero, List.getElem?_cons_succ] at c0' c1'
    have hr1 := hr'.below (d1.mono (by have := unhide HU; omega))
    clear H1 HW d1 b0 q0 hr' G0 g1
    go_wp2
    go_loopw [3, 13] (fun l i wr => ∃ k : Nat, k ≤ m ∧ i = .int .i64 k ∧ l = .int .i64 (lastP (J.take k) : Nat) ∧ Drew w1 wr ∧ Hid (PlOK (q.length - 1) (J.take k))) (fun _ i _ => m - (intOf i).toNat)
    case atStart => exact ⟨0, Nat.zero_le _, rfl, by rw [List.take_zero, lastP_nil]; rfl, Drew.refl _, hide (PlOK.nil _)⟩
    case round =>
      obtain ⟨k, hk, rfl, rfl, hd, hs⟩ := hrel
      have c0 := (hd.cell ⟨w.heap.size, 0, none⟩).trans c0'
      have c1 := (hd.cell ⟨w.heap.size, 1, none⟩).trans c1'
      by_cases hlt : k < m
      · obtain ⟨ad, u, rfl, _, hu, hc⟩ := (hr1.ofDrew hd).at_ hlt
        obtain ⟨x, hx, rfl⟩ := i64_at hu
        have HD := hide hd
        have hstep := plok_step (n := q.length - 1) hx
        have hlq := (unhide HL).1
        have hlast := take_last hx
        obtain ⟨l, hl⟩ : ∃ l, lastP (J.take k) = l := ⟨_, rfl⟩
        rw [hl] at hstep ⊢
        by_cases hno : x ≤ (l : Int)
        · obtain rfl : b = false := (unhide HB).symm.trans (near_false (plok_no (k := k + 1) fun h2 => by
            have h3 := (hstep.1 h2).2.1
            omega))
          clear hx hu hs hr1 hd HB hstep c0' c1' hlq hlast hl
          go_wp2
          go_ret
          exact ⟨rfl, d2.trans ((unhide HD).below _)⟩
        · by_cases hge : (n : Int) ≤ x
          · obtain rfl : b = false := (unhide HB).symm.trans (near_false (plok_no (k := k + 1) fun h2 => by
              have h3 := (hstep.1 h2).2.2
              omega))
            clear hx hu hs hr1 hd HB hstep c0' c1' hlq hlast hl
            go_wp2
            go_ret
            exact ⟨rfl, d2.trans ((unhide HD).below _)⟩
          · have hnext := hide (hstep.2 ⟨unhide hs, by omega, by omega⟩)
            have hx' : x = ((x.toNat : Nat) : Int) := by omega
            have HX := hide (show Value.int .i64 x = .int .i64 (lastP (J.take (k + 1)) : Nat) by rw [hlast, ← hx'])
            clear hx hu hs hr1 hd hstep c0' c1' hlq hlast hl hx'
            go_wp2
            go_roundw
            case rel => exact ⟨k + 1, by omega, by go_num, unhide HX, unhide HD, hnext⟩
            case measure => simp [intOf]; omega
      · obtain rfl : m = k := by omega
        obtain rfl : true = b := (near_true (unhide HBP) (by have h := unhide hs; rwa [List.take_of_length_le (by rw [(unhide HL).2]; exact Nat.le_refl _)] at h)).symm.trans (unhide HB)
        clear HB hs hr1
        go_wp2
        go_ret
        exact ⟨rfl, d2.trans (hd.below _)⟩
end Go.Proofs.Ytcoegjhhhnfplaa


/-
  impl.MeshOf by its contract.
-/

namespace Go.Proofs.Ytcoegjhhhnfplaa
set_option maxRecDepth 100000
open Go.RowKit
set_option maxHeartbeats 4000000 in
theorem imof_any (A P : Option Addr) (n c B m d B' : Nat) (q J : List Int) (w : World) (h : Arg w B A n c q) (h' : Arg w B' P m d J) :
    Calls Try.prog 14 #[.agg #[.slice A n c, .slice P m d]] w (GivesXB w (mofQ q J) (mofS q J) (mofOK q J)) := by
  have hl := h.len
  have hl' := h'.len
  obtain ⟨w0, hw0⟩ : ∃ w0, w0 = (w.alloc (.cells #[.slice A n c, .slice P m d] 32)).alloc (.cells #[.slice none 0 0, .slice none 0 0] 27) := ⟨_, rfl⟩
  have b0 : Below w.heap.size w w0 := by rw [hw0]; exact ((Below.refl _ w).alloc (Nat.le_refl _) _).alloc (by simp) _
  have hs0 : w0.heap.size = w.heap.size + 2 := by rw [hw0]; simp
  have gx : Whole w0 w.heap.size 32 #[.slice A n c, .slice P m d] := by rw [hw0]; exact (Whole.new _ _ _).alloc _
  have gr : Whole w0 (w.heap.size + 1) 27 #[.slice none 0 0, .slice none 0 0] := by
    rw [hw0]
    have := Whole.new (w.alloc (.cells #[.slice A n c, .slice P m d] 32)) 27 #[.slice none 0 0, .slice none 0 0]
    rwa [World.size_alloc] at this
  have x0 := gx.cell 0
  have x1 := gx.cell 1
  simp only [List.getElem?_toArray, List.getElem?_cons_zero, List.getElem?_cons_succ] at x0 x1
  obtain ⟨b, hok⟩ : ∃ b, nearOK q J = b := ⟨_, rfl⟩
  have H1 := hide (inear_any A P n c B m d B' q J w0 (h.below b0) (h'.below b0))
  rw [hok] at H1
  have HW := hide hw0
  have HL := hide hl
  have HL' := hide hl'
  have HA := hide h
  have HA' := hide h'
  rw [hw0] at x0 x1
  clear h h' hl hl' hw0
  have hno : ∀ (w1 : World), Below w0.heap.size w0 w1 → Hid (Whole w1 (w.heap.size + 1) 27 #[.slice none 0 0, .slice none 0 0] ∧ Below w.heap.size w w1) := fun w1 d1 => hide ⟨gr.below d1 gr.lt, below_after b0 d1⟩
  cases b with
  | false =>
    obtain ⟨e1, e2, e3⟩ := mof_no (q := q) (J := J) (.inl hok)
    rw [e1, e2, e3]
    clear hok e1 e2 e3
    go_enter Try.func14, Try.ntmps14
    go_wp2_with fail
    rw [← unhide HW]
    refine (unhide H1).mono ?_
    rintro e w1 ⟨rfl, d1⟩
    have HN := hno w1 d1
    obtain ⟨gr1, hb1⟩ := unhide HN
    have r0 := gr1.cell 0
    have r1 := gr1.cell 1
    have g0 := gr1.frozen 0
    have g1 := gr1.frozen 1
    have hltr := gr1.lt
    simp only [List.getElem?_toArray, List.getElem?_cons_zero, List.getElem?_cons_succ] at r0 r1
    clear H1 HW x0 x1 gx gr hno b0 d1 gr1 hb1
    go_wp2
    obtain ⟨gr1, hb1⟩ := unhide HN
    have hWe := (gr1.put 0 (.slice none 0 0)).put 1 (.slice none 0 0)
    refine bodyPost_ret (v := .tuple #[.agg #[.slice none 0 0, .slice none 0 0], .bool false]) (results_mesh Try.results14 _ _ (w.heap.size + 1) 27 _ (0, 0) _ rfl hWe Try.underlying27 rfl meshInfo') rfl ?_
    exact meshB_end false (mesh_nil w1 (w.heap.size + 2)) (by omega) (by omega) hb1
  | true =>
    obtain ⟨hq, hJ⟩ := nearOK_iff.1 hok
    by_cases h4 : q.length ≤ 4
    · obtain ⟨e1, e2, e3⟩ := mof_yes hok h4
      rw [e1, e2, e3]
      have hn4 : n ≤ 4 := by have := unhide HL; omega
      have hm8 : m ≤ 8 := by have := near_short hJ; have := unhide HL'; omega
      have hng : ¬ (4 : Int) < (n : Int) := by omega
      have hwn : IntKind.i64.wrap ((n : Int) + 1) = (n : Int) + 1 := by rw [IntKind.wrap_i64]; omega
      have hbase : w0.heap.size ≤ w0.heap.size := Nat.le_refl _
      have lx := gx.lt
      have H9 := hide (fun w' (hb : Below w.heap.size w w') => clone_any A n c B q w' ((unhide HA).below hb))
      have HG := hide gr
      clear hok e1 e2 e3 hq hJ hno gr
      go_enter Try.func14, Try.ntmps14
      go_wp2_with fail
      rw [← unhide HW] at x0 x1 ⊢
      refine (unhide H1).mono ?_
      rintro e w1 ⟨rfl, d1⟩
      have hb1 := below_after b0 d1
      have z0 := (d1.cell (p := ⟨w.heap.size, 0, none⟩) lx).trans x0
      have z1 := (d1.cell (p := ⟨w.heap.size, 1, none⟩) lx).trans x1
      clear H1 HW gx
      go_wp2
      go_loopw [4, 21] (fun v i wr => ∃ k : Nat, k ≤ m ∧ i = .int .i64 k ∧ Below w0.heap.size w0 wr ∧ IntsS wr w0.heap.size v (colS q.length (J.take k))) (fun _ i _ => m - (intOf i).toNat)
      case atStart => exact ⟨0, Nat.zero_le _, rfl, d1, IntsS.nil _ _⟩
      case round =>
        obtain ⟨k, hk, rfl, hd, hI⟩ := hrel
        have y0 := (hd.cell (p := ⟨w.heap.size, 0, none⟩) lx).trans x0
        have y1 := (hd.cell (p := ⟨w.heap.size, 1, none⟩) lx).trans x1
        have hbw := below_after b0 hd
        obtain ⟨A4, c4, rfl⟩ := hI.slice
        by_cases hlt : k < m
        · obtain ⟨ad, u, rfl, _, hu, hc⟩ := (((unhide HA').below hbw).reads).at_ hlt
          obtain ⟨j, hj, rfl⟩ := i64_at hu
          have HJ := hide (colS_step (n := q.length) hj)
          have hl1 : (colS q.length (J.take k)).length ≤ 40 := by
            rw [colS_length, List.length_take]
            have h1 : min k J.length ≤ 8 := by omega
            have h2 : q.length + 1 ≤ 5 := by omega
            exact Nat.mul_le_mul h1 h2
          have HI := hide hI
          clear hu hj hI
          go_wp2
          go_loopw [4, 29] (fun v i wr => ∃ r : Nat, r ≤ n + 1 ∧ i = .int .i64 r ∧ Below w0.heap.size w0 wr ∧ IntsS wr w0.heap.size v (colS q.length (J.take k) ++ colI j r)) (fun _ i _ => n + 1 - (intOf i).toNat)
          case atStart => exact ⟨0, Nat.zero_le _, rfl, hd, by rw [show colI j 0 = [] from rfl, List.append_nil]; exact unhide HI⟩
          case round =>
            obtain ⟨r, hr, rfl, hd2, hI2⟩ := hrel
            by_cases hlr : r < n + 1
            · have hbel2 := (Below.refl _ wr).alloc (Nat.le_refl _) (.cells #[.int .i64 j, .int .i64 r] 3)
              have hu := Ints.two2 wr _ j r (Nat.le_refl _)
              have hb6 := below_after hd2 hbel2
              have hln : (colS q.length (J.take k) ++ colI j r).length ≤ 1048576 := by rw [List.length_append, colI_length]; omega
              have hsz := hd2.size
              have hlr' : (r : Int) < (n : Int) + 1 := by omega
              go_wp2_with (first
                | (at_builtin; refine wpList_push_row rfl (.tmp 32) (.tmp 36) rfl w0.heap.size w0 _ _ _ _ _ _ rfl ?c1 ?c2 hI2 hbel2 hu hln hb6 hsz ?_))
              case c1 => simp; rfl
              case c2 => simp
              intro v5 w5 hI5 hb5
              have hI7 : Hid (IntsS w5 w0.heap.size v5 (colS q.length (J.take k) ++ colI j (r + 1))) := hide (by rw [colI_step, hs0]; exact hI5)
              have hb5' : Hid (Below w0.heap.size w0 w5) := hide (by rw [hs0]; exact hb5)
              clear hI5 hb5 hI2 hbel2 hu hb6 hln
              go_wp2
              go_roundw
              case rel => exact ⟨r + 1, by omega, by go_num, unhide hb5', unhide hI7⟩
              case measure => simp [intOf]; omega
            · obtain rfl : r = n + 1 := by omega
              have hI7 : Hid (IntsS wr w0.heap.size u4 (colS q.length (J.take (k + 1)))) := hide (by rw [unhide HJ, unhide HL]; rw [unhide HL] at hI2; exact hI2)
              have hlr' : ¬ ((n : Int) + 1 < (n : Int) + 1) := by omega
              clear hI2 HI
              go_wp2
              go_roundw
              case rel => exact ⟨k + 1, by omega, by go_num, hd2, unhide hI7⟩
              case measure => simp [intOf]; omega
        · obtain rfl : m = k := by omega
          have eT : J.take m = J := by rw [← unhide HL', List.take_length]
          rw [eT] at hI ⊢
          have hX := unhide H9 wr hbw
          have HX := hide hX
          have gr1 := (unhide HG).below hd (unhide HG).lt
          have HR := hide (And.intro gr1 (And.intro hI (And.intro hbw hd.size)))
          clear hI hX gr1 H9
          go_wp2_with fail
          refine (unhide HX).mono ?_
          rintro e w5 ⟨A5, c5, rfl, o5, d5⟩
          obtain ⟨gr1, hI, hbw, hsw⟩ := unhide HR
          have gr2 := gr1.below d5 gr1.lt
          have hIn := InfAt.of_new hI hsw d5 o5
          have hb5 := below_after hbw d5
          have r0 := gr2.cell 0
          have r1 := gr2.cell 1
          have g0 := gr2.frozen 0
          have g1 := gr2.frozen 1
          have hltr := gr2.lt
          simp only [List.getElem?_toArray, List.getElem?_cons_zero, List.getElem?_cons_succ] at r0 r1
          have HN := hide (And.intro gr2 (And.intro hIn hb5))
          clear HX HR gr1 hI hsw d5 o5 gr2 hIn hb5 x0 x1 z0 z1 y0 y1 hd
          go_wp2
          obtain ⟨gr2, hIn, hb5⟩ := unhide HN
          have hWe := (gr2.put 0 (.slice A5 q.length c5)).put 1 (.slice A4 (colS q.length J).length c4)
          refine bodyPost_ret (v := .tuple #[.agg #[.slice A5 q.length c5, .slice A4 (colS q.length J).length c4], .bool true]) (results_mesh Try.results14 _ _ (w.heap.size + 1) 27 _ (0, 0) _ rfl hWe Try.underlying27 rfl meshInfo') rfl ?_
          exact meshB_end true hIn (by omega) (by omega) hb5
    · obtain ⟨e1, e2, e3⟩ := mof_no (q := q) (J := J) (.inr h4)
      rw [e1, e2, e3]
      have hng : (4 : Int) < (n : Int) := by have := unhide HL; omega
      clear hok e1 e2 e3 hq hJ
      go_enter Try.func14, Try.ntmps14
      go_wp2_with fail
      rw [← unhide HW] at x0 x1 ⊢
      refine (unhide H1).mono ?_
      rintro e w1 ⟨rfl, d1⟩
      have HN := hno w1 d1
      obtain ⟨gr1, hb1⟩ := unhide HN
      have y0 := (d1.cell (p := ⟨w.heap.size, 0, none⟩) gx.lt).trans x0
      have r0 := gr1.cell 0
      have r1 := gr1.cell 1
      have g0 := gr1.frozen 0
      have g1 := gr1.frozen 1
      have hltr := gr1.lt
      simp only [List.getElem?_toArray, List.getElem?_cons_zero, List.getElem?_cons_succ] at r0 r1
      clear H1 HW x0 x1 gx gr hno b0 d1 gr1 hb1
      go_wp2
      obtain ⟨gr1, hb1⟩ := unhide HN
      have hWe := (gr1.put 0 (.slice none 0 0)).put 1 (.slice none 0 0)
      refine bodyPost_ret (v := .tuple #[.agg #[.slice none 0 0, .slice none 0 0], .bool false]) (results_mesh Try.results14 _ _ (w.heap.size + 1) 27 _ (0, 0) _ rfl hWe Try.underlying27 rfl meshInfo') rfl ?_
      exact meshB_end false (mesh_nil w1 (w.heap.size + 2)) (by omega) (by omega) hb1
end Go.Proofs.Ytcoegjhhhnfplaa


/-
  PLAIN: the boxes turned, in order. Nothing here speaks of the program.
-/

namespace Go.Proofs.Ytcoegjhhhnfplaa
set_option maxRecDepth 100000
theorem swapB_two (x y : Int) : swapB [x, y] = [y, x] := rfl
/-- The boxes turned, in order. -/
def turnS (S : List (List Int)) : List (List Int) := ordL (S.map swapB) S.length
def miQ (q : List Int) (S : List (List Int)) : List Int := if meshOK q S then invL q else []
def miS (q : List Int) (S : List (List Int)) : List (List Int) := if meshOK q S then turnS S else []
theorem mi_no {q : List Int} {S : List (List Int)} (h : meshOK q S = false) : miQ q S = [] ∧ miS q S = [] := ⟨by unfold miQ; rw [h]; rfl, by unfold miS; rw [h]; rfl⟩
theorem mi_yes {q : List Int} {S : List (List Int)} (h : meshOK q S = true) : miQ q S = invL q ∧ miS q S = turnS S := ⟨by unfold miQ; rw [h]; rfl, by unfold miS; rw [h]; rfl⟩
theorem turnS_mem {S : List (List Int)} {x : List Int} : x ∈ turnS S ↔ ∃ s ∈ S, swapB s = x := by
  unfold turnS
  rw [ordL_mem, List.take_of_length_le (by simp), List.mem_map]
theorem turnS_asc (S : List (List Int)) : Asc (turnS S) := ordL_asc _ _
/-- What a mesh's boxes are. -/
structure BoxL (n : Nat) (S : List (List Int)) : Prop where
  two : ∀ s ∈ S, ∃ x y, s = [x, y] ∧ (0 ≤ x ∧ x ≤ (n : Int)) ∧ (0 ≤ y ∧ y ≤ (n : Int))
  asc : Asc S
theorem asc_of_steps : ∀ {S : List (List Int)}, (∀ i, i + 1 < S.length → befL (S.getD i []) (S.getD (i + 1) []) = true) → Asc S
  | [], _ => List.Pairwise.nil
  | [a], _ => List.pairwise_singleton _ _
  | a :: b :: r, h => by
    have h1 : Asc (b :: r) := asc_of_steps fun i hi => by
      have := h (i + 1) (by simpa using hi)
      simpa using this
    have h0 := h 0 (by simp)
    simp at h0
    refine List.pairwise_cons.2 ⟨fun x hx => ?_, h1⟩
    rcases List.mem_cons.1 hx with rfl | hx
    · exact h0
    · exact befL_trans h0 ((List.pairwise_cons.1 h1).1 x hx)
theorem boxL_of {n : Nat} {S : List (List Int)} (h : boxesK n S S.length = true) : BoxL n S := by
  refine ⟨fun s hs => ?_, asc_of_steps fun i hi => boxesK_bef h hi⟩
  obtain ⟨k, hk⟩ := List.getElem?_of_mem hs
  have := boxesK_box h (List.getElem?_eq_some_iff.1 hk).1
  rw [getD_of hk] at this
  unfold boxOK at this
  simp only [Bool.and_eq_true, decide_eq_true_eq] at this
  obtain ⟨⟨h2, hx⟩, hy⟩ := this
  match s, h2 with
  | [x, y], _ => exact ⟨x, y, rfl, hx, hy⟩
theorem boxL_mesh {q : List Int} {S : List (List Int)} (h : meshOK q S = true) : BoxL q.length S := boxL_of (meshOK_iff.1 h).2.2
theorem asc_nodup' {S : List (List Int)} (h : Asc S) : S.Nodup := h.imp fun hab e => by rw [e, befL_irrefl] at hab; cases hab
theorem swap_inj {n : Nat} {S : List (List Int)} (h : BoxL n S) {a b : List Int} (ha : a ∈ S) (hb : b ∈ S) (e : swapB a = swapB b) : a = b := by
  obtain ⟨x, y, rfl, _⟩ := h.two a ha
  obtain ⟨u, v, rfl, _⟩ := h.two b hb
  rw [swapB_two, swapB_two] at e
  simp only [List.cons.injEq, and_true] at e
  rw [e.1, e.2]
/-- A list of the boxes turned in which none stands behind a later one is that in order. -/
theorem turnS_sorted {n : Nat} {S ys : List (List Int)} (h : BoxL n S) (hp : ys.Perm (S.map swapB)) (hs : ∀ (i j : Nat) (x y : List Int), i < j → ys[i]? = some x → ys[j]? = some y → befL y x = false) : ys = turnS S := by
  have hnd : ys.Nodup := by
    rw [hp.nodup_iff, List.nodup_iff_pairwise_ne, List.pairwise_map]
    exact (List.Pairwise.imp_of_mem (fun ha hb hne e => hne (swap_inj h ha hb e)) (List.nodup_iff_pairwise_ne.1 (asc_nodup' h.asc)))
  have ha : Asc ys := by
    unfold Asc
    rw [List.pairwise_iff_getElem]
    intro i j hi hj hij
    refine befL_of_ne (hs i j _ _ hij (List.getElem?_eq_getElem hi) (List.getElem?_eq_getElem hj)) fun e => ?_
    exact (List.pairwise_iff_getElem.1 (List.nodup_iff_pairwise_ne.1 hnd)) i j hi hj hij e
  refine asc_unique ha (turnS_asc S) fun x => ?_
  rw [hp.mem_iff, turnS_mem, List.mem_map]
theorem turnS_len (S : List (List Int)) : (turnS S).length ≤ S.length := by
  have := ordL_len (S.map swapB) S.length
  rwa [List.length_map] at this
theorem turnS_two {n : Nat} {S : List (List Int)} (h : BoxL n S) : ∀ z ∈ turnS S, ∃ x y, z = [x, y] ∧ (0 ≤ x ∧ x ≤ (n : Int)) ∧ (0 ≤ y ∧ y ≤ (n : Int)) := fun z hz => by
  obtain ⟨s, hs, rfl⟩ := turnS_mem.1 hz
  obtain ⟨x, y, rfl, hx, hy⟩ := h.two s hs
  exact ⟨y, x, rfl, hy, hx⟩
/-- All boxes over n numbers. -/
def gridB (n : Nat) : List (List Int) := (List.range (n + 1)).flatMap fun (x : Nat) => (List.range (n + 1)).map fun (y : Nat) => [(x : Int), (y : Int)]
theorem gridB_len : ∀ n, n ≤ 4 → (gridB n).length ≤ 25 := by decide +kernel
theorem boxL_few {n : Nat} {S : List (List Int)} (h : BoxL n S) (hn : n ≤ 4) : S.length ≤ 25 := by
  refine Nat.le_trans (inject_le (fun x => x) (asc_nodup' h.asc) (m := gridB n) (fun s hs => ?_) fun x _ y _ e => e) (gridB_len n hn)
  obtain ⟨x, y, rfl, hx, hy⟩ := h.two s hs
  unfold gridB
  refine List.mem_flatMap.2 ⟨x.toNat, List.mem_range.2 (by omega), List.mem_map.2 ⟨y.toNat, List.mem_range.2 (by omega), ?_⟩⟩
  rw [show ((x.toNat : Nat) : Int) = x by omega, show ((y.toNat : Nat) : Int) = y by omega]
theorem mi_sizes (q : List Int) (S : List (List Int)) (_h : S.length ≤ 1048576) : (miQ q S).length ≤ 1048576 ∧ (miS q S).length ≤ 1048576 ∧ tot (miS q S) ≤ 1048576 := by
  by_cases h : meshOK q S = true
  · obtain ⟨e1, e2⟩ := mi_yes h
    have hb := boxL_mesh h
    have h4 := (meshOK_iff.1 h).2.1
    have h25 := boxL_few hb h4
    have hlen := turnS_len S
    have ht := tot_pairs (zss := turnS S) fun z hz => by obtain ⟨x, y, rfl, _⟩ := turnS_two hb z hz; rfl
    rw [e1, e2, invL_length, ht]
    omega
  · obtain ⟨e1, e2⟩ := mi_no (q := q) (S := S) (by simpa using h)
    rw [e1, e2]
    simp [tot]
end Go.Proofs.Ytcoegjhhhnfplaa


/-
  spec.l3Put into a nil list, by its contract.
-/

namespace Go.Proofs.Ytcoegjhhhnfplaa
set_option maxRecDepth 100000
open Go.RowKit
theorem putL_nil (p : List Int) : putL [] p = [p] := by
  unfold putL
  simp [scanL]
set_option maxHeartbeats 1600000 in
theorem l3putN_any (B : Nat) (A : Option Addr) (m c B' : Nat) (p : List Int) (w : World) (hp : Arg w B' A m c p) (hB : B ≤ w.heap.size) :
    Calls Try.prog 55 #[.slice none 0 0, .slice A m c] w (PutEnds w B [p]) := by
  have hown0 : ∀ W : World, W.ownsRow B 24 1 (.slice none 0 0) 0 [] := fun W => World.ownsRow_nil _ _ _ _
  have HN := hide hown0
  clear hown0
  go_enter Try.func55, Try.ntmps55
  go_wp2
  go_loopw [5] (fun i wr => i = .int .i64 0 ∧ wr = w) (fun i _ => (intOf i).toNat)
  case atStart => exact ⟨rfl, rfl⟩
  case round =>
    obtain ⟨rfl, rfl⟩ := hrel
    have hst := ownS0 wr wr.heap.size (Nat.le_refl _)
    have hbel := (Below.refl wr.heap.size wr).alloc (Nat.le_refl _) (.cells #[] 24)
    have hrest : Reads (wr.alloc (.cells #[] 24)) wr.heap.size none 0 ([] : List Value) := ⟨rfl, fun h => absurd h (by omega)⟩
    go_wp2_with (at_builtin; refine wpList_append_rows rfl (.tmp 34) (.tmp 37) rfl wr.heap.size wr.heap.size 0 0 0 wr _ none [] [] rfl rfl hst hrest (fun _ => rfl) (fun u hu => by cases hu) (by omega) (by omega) hbel hbel.size ?_; intro v6 w6 hown6 hb6 hg6 hnil6)
    rw [Nat.zero_add, List.nil_append] at hown6
    obtain ⟨g6, cap6, rfl, hg6l, hcap6⟩ := own_shape hown6 (fun h => by cases hnil6 h)
    have hA6 := hp.below hb6
    have hst6 := own0 w6 w6.heap.size (Nat.le_refl _)
    have hbel6 := (Below.refl w6.heap.size w6).alloc (Nat.le_refl _) (.cells #[] 3)
    have hA7 := (hA6.below hbel6).drew
    have hs6 := hbel6.size
    have hbw6 := hb6.mono hB
    have hkw6 := KeepI.of_below hb6
    clear hst hbel hrest hp hg6 hnil6
    go_region_held3 (fun _ => True) (trivial)
      (first
       | ((refine step_append_arg (by rfl) (.tmp 42) (.tmp 43) (by rfl) w6.heap.size B' 0 m c w6 _ A [] p (by rfl) (by rfl) hst6 hA7 (by omega) hbel6.drew hs6 ?_); intro v7 w7 hw7 hb7 hg7; clear hg7;
          have hI7 : Ints w7 w6.heap.size v7 p := Ints.of_own hw7;
          obtain ⟨A7, c7, rfl⟩ := hI7.slice;
          have hone7 : ∀ u ∈ [Value.slice A7 p.length c7], u.oneCell' = true := (fun u hu => by (rw [List.mem_singleton] at hu; subst hu; rfl));
          have hrest8 := own_below hown6 hb7;
          have hkw8 := hkw6.trans (KeepI.of_below hb7);
          have hbw8 := hbw6.trans (hb7.mono (Nat.le_trans hB hb6.size));
          have hsz8 : B ≤ w7.heap.size := Nat.le_trans hB (Nat.le_trans hb6.size hb7.size);
          have hx8 := reads_new w7 (.slice A7 p.length c7) 24;
          have hal := (Below.refl w7.heap.size w7).alloc (Nat.le_refl _) (.cells #[.slice A7 p.length c7] 24);
          clear hst6 hbel6 hA7 hs6 hown6 hkw6 hbw6 hw7 hb7)
       | ((refine step_append_rows (by rfl) (.tmp 41) (.tmp 45) (by rfl) B (w7.heap.size + 1) 0 1 1 wr _ (some ⟨w7.heap.size, 0, none⟩) [] [.slice A7 p.length c7] (by rfl) (by rfl) (unhide HN _) hx8 (fun h => by cases h) hone7 (by omega) (by omega) (hbw8.trans (hal.mono hsz8)) (Nat.le_trans hsz8 hal.size) ?_); intro v9 w9 hown9 hb9 hg9 hnil9;
          have hg9' : (w7.alloc (.cells #[.slice A7 p.length c7] 24)).grownBy w9 none := hg9;
          have hk9 := (hkw8.trans (KeepI.of_below hal)).trans (KeepI.of_grown (unhide HN _) hg9);
          have hI9 := (hI7.keepI (KeepI.of_below hal)).keepI (KeepI.of_grown (unhide HN _) hg9);
          have hrest9 := (own_below hrest8 hal).kept hg9 (.inr (fun e => by cases e));
          have hsz9 := Nat.le_trans hsz8 (Nat.le_trans hal.size hg9.size);
          clear hrest8 hkw8 hbw8 hsz8 hx8 hal hI7 hone7 hg9 hg9')
       | ((refine step_append_rows (by rfl) (.tmp 46) (.tmp 47) (by rfl) B w9.heap.size (0 + 1) 0 cap6 wr _ (some ⟨g6, 0, none⟩) ([] ++ [.slice A7 p.length c7]) [] (by rfl) (by rfl) hown9 (Reads.of_own_at hrest9) (fun h => by cases h) (fun u hu => by cases hu) (by omega) (by omega) hb9 hsz9 ?_); intro v10 w10 hown10 hb10 hg10 hnil10;
          have hk10 := hk9.trans (KeepI.of_grown hown9 hg10);
          have hI10 := hI9.keepI (KeepI.of_grown hown9 hg10);
          clear hk9 hI9 hown9 hrest9))
    have hfin : PutS w10 B v10 [p] := by
      obtain ⟨g10, cap10, h10, _, _⟩ := own_shape hown10 (fun h => by
        rcases hown10.2 with ⟨_, h0⟩ | ⟨g', cap', cur, h1, _⟩
        · omega
        · rw [h] at h1; cases h1)
      refine ⟨⟨[.slice A7 p.length c7], by simpa using hown10, ?_⟩, g10, cap10, by simpa using h10⟩
      have := (Inner.nil w10 B).push (hI10.low (Nat.le_trans hB hb6.size)) (fun x hx => by cases hx)
      simpa using this
    clear hown10 hI10 hnil9 hnil10
    go_wp2
    go_ret
    exact ⟨v10, rfl, hfin, hb10, hk10⟩
/-- Into a list at a block's head, or into a nil one. -/
theorem l3putE_any (B : Nat) (zss : List (List Int)) (Aj : Option Addr) (cj : Nat) (A : Option Addr) (m c B' : Nat) (p : List Int) (w : World) (hS : IntsS w B (.slice Aj zss.length cj) zss) (hsh : (Aj = none ∧ cj = 0 ∧ zss = []) ∨ ∃ g, Aj = some ⟨g, 0, none⟩) (hp : Arg w B' A m c p) (hB : B ≤ w.heap.size)
    (hall : ∀ z ∈ zss, z.length ≤ 1048576 ∧ Small z) (hn : zss.length ≤ 1048576) :
    Calls Try.prog 55 #[.slice Aj zss.length cj, .slice A m c] w (PutEnds w B (putL zss p)) := by
  rcases hsh with ⟨rfl, rfl, rfl⟩ | ⟨g, rfl⟩
  · rw [putL_nil]
    exact l3putN_any B A m c B' p w hp hB
  · exact l3putS_any B zss g zss.length cj A m c B' p w hS hp hB hall hn
end Go.Proofs.Ytcoegjhhhnfplaa


/-
  spec.InverseMesh by its contract.
-/

namespace Go.Proofs.Ytcoegjhhhnfplaa
set_option maxRecDepth 100000
open Go.RowKit
theorem keep_boxes {B : Nat} {wr w' : World} {a b c d : Addr} {t u v x : Value} (h1 : wr.cell? a = some t) (h2 : wr.cell? b = some u) (h3 : wr.cell? c = some v) (h4 : wr.cell? d = some x) (ha : a.block < B) (hb : b.block < B) (hc : c.block < B) (hd : d.block < B)
    (h : Below B wr w') : w'.cell? a = some t ∧ w'.cell? b = some u ∧ w'.cell? c = some v ∧ w'.cell? d = some x ∧ Below B wr w' := ⟨(h.cell ha).trans h1, (h.cell hb).trans h2, (h.cell hc).trans h3, (h.cell hd).trans h4, h⟩
/-- A box that lies in the list of an argument. -/
theorem AtS.box {w : World} {P : Option Addr} {m k : Nat} {S : List (List Int)} (hS : AtS w P m S) (hk : k < m) (h2 : ∀ z ∈ S, z.length = 2) :
    ∃ ad ad2 c' x y, P = some ad ∧ S[k]? = some [x, y] ∧ w.cell? (ad.add k) = some (.slice (some ad2) 2 c') ∧ w.cell? ad2 = some (.int .i64 x) ∧ w.cell? ⟨ad2.block, ad2.off + 1, none⟩ = some (.int .i64 y) := by
  obtain ⟨ad, A', c', z, rfl, hz, hcell, hI⟩ := hS.2 w (Below.refl _ _) k hk
  have hz2 := h2 z (List.mem_of_getElem? hz)
  match z, hz2, hz, hcell, hI with
  | [x, y], _, hz, hcell, hI =>
    obtain ⟨ad2, u, hA, _, hu, hx⟩ := hI.reads.at_ (show 0 < [x, y].length by simp)
    obtain ⟨ad3, u3, hA3, _, hu3, hx3⟩ := hI.reads.at_ (show 1 < [x, y].length by simp)
    obtain rfl : ad2 = ad3 := by rw [hA] at hA3; injection hA3
    subst hA
    refine ⟨ad, ad2, c', x, y, rfl, hz, hcell, ?_, ?_⟩
    · rw [show ad2 = ad2.add 0 by unfold Addr.add; split <;> simp_all, hx]; exact hu.symm
    · rw [← show ad2.add 1 = ⟨ad2.block, ad2.off + 1, none⟩ by unfold Addr.add; rw [if_neg (by omega)], hx3]; exact hu3.symm
set_option maxHeartbeats 4000000 in
theorem sinvm_any (A P : Option Addr) (n c B m d : Nat) (q : List Int) (S : List (List Int)) (w : World) (h : Arg w B A n c q) (hS : AtS w P m S) (hm : m ≤ 1048576) :
    Calls Try.prog 17 #[.agg #[.slice A n c, .slice P m d]] w (GivesXB w (miQ q S) (miS q S) (meshOK q S)) := by
  have hl := h.len
  obtain ⟨w0, hw0⟩ : ∃ w0, w0 = (w.alloc (.cells #[.slice A n c, .slice P m d] 27)).alloc (.cells #[.slice none 0 0, .slice none 0 0] 27) := ⟨_, rfl⟩
  have b0 : Below w.heap.size w w0 := by rw [hw0]; exact ((Below.refl _ w).alloc (Nat.le_refl _) _).alloc (by simp) _
  have hs0 : w0.heap.size = w.heap.size + 2 := by rw [hw0]; simp
  have gx : Whole w0 w.heap.size 27 #[.slice A n c, .slice P m d] := by rw [hw0]; exact (Whole.new _ _ _).alloc _
  have gr : Whole w0 (w.heap.size + 1) 27 #[.slice none 0 0, .slice none 0 0] := by
    rw [hw0]
    have := Whole.new (w.alloc (.cells #[.slice A n c, .slice P m d] 27)) 27 #[.slice none 0 0, .slice none 0 0]
    rwa [World.size_alloc] at this
  have x0 := gx.cell 0
  have x1 := gx.cell 1
  simp only [List.getElem?_toArray, List.getElem?_cons_zero, List.getElem?_cons_succ] at x0 x1
  obtain ⟨b, hok⟩ : ∃ b, meshOK q S = b := ⟨_, rfl⟩
  have H1 := hide (smesh_any A P n c B m d q S w0 (h.below b0) (hS.below b0) hm)
  rw [hok] at H1 ⊢
  have HW := hide hw0
  have HL := hide hl
  have HA := hide h
  have HS := hide hS
  rw [hw0] at x0 x1
  clear h hl hS hw0
  cases b with
  | false =>
    obtain ⟨e1, e2⟩ := mi_no (q := q) (S := S) hok
    rw [e1, e2]
    have hno : ∀ (w1 : World), Below w0.heap.size w0 w1 → Hid (Whole w1 (w.heap.size + 1) 27 #[.slice none 0 0, .slice none 0 0] ∧ Below w.heap.size w w1) := fun w1 d1 => hide ⟨gr.below d1 gr.lt, below_after b0 d1⟩
    clear hok e1 e2
    go_enter Try.func17, Try.ntmps17
    go_wp2_with fail
    rw [← unhide HW]
    refine (unhide H1).mono ?_
    rintro e w1 ⟨rfl, d1⟩
    have HN := hno w1 d1
    obtain ⟨gr1, hb1⟩ := unhide HN
    have r0 := gr1.cell 0
    have r1 := gr1.cell 1
    have g0 := gr1.frozen 0
    have g1 := gr1.frozen 1
    have hltr := gr1.lt
    simp only [List.getElem?_toArray, List.getElem?_cons_zero, List.getElem?_cons_succ] at r0 r1
    clear H1 HW x0 x1 gx gr hno b0 d1 gr1 hb1
    go_wp2
    obtain ⟨gr1, hb1⟩ := unhide HN
    have hWe := (gr1.put 0 (.slice none 0 0)).put 1 (.slice none 0 0)
    refine bodyPost_ret (v := .tuple #[.agg #[.slice none 0 0, .slice none 0 0], .bool false]) (results_mesh Try.results17 _ _ (w.heap.size + 1) 27 _ (0, 0) _ rfl hWe Try.underlying27 rfl meshInfo') rfl ?_
    exact meshB_end false (mesh_nil w1 (w.heap.size + 2)) (by omega) (by omega) hb1
  | true =>
    obtain ⟨e1, e2⟩ := mi_yes hok
    rw [e1, e2]
    have hbl := boxL_mesh hok
    have hn4 : n ≤ 4 := by have := (meshOK_iff.1 hok).2.1; have := unhide HL; omega
    have hq := (meshOK_iff.1 hok).1
    have H2 := hide (fun w' (hb : Below w.heap.size w w') => l2inv_any A n c B q w' ((unhide HA).below hb) hq)
    have HBL := hide hbl
    have hlS := (unhide HS).1
    have HLS := hide hlS
    clear hok e1 e2 hq hbl hlS
    go_enter Try.func17, Try.ntmps17
    go_wp2_with fail
    rw [← unhide HW] at x0 x1 ⊢
    refine (unhide H1).mono ?_
    rintro e w1 ⟨rfl, d1⟩
    have hb1 := below_after b0 d1
    have gx1 := gx.below d1 gx.lt
    have gr1 := gr.below d1 gr.lt
    have z0 := gx1.cell 0
    simp only [List.getElem?_toArray, List.getElem?_cons_zero] at z0
    have hs1 : w.heap.size + 2 ≤ w1.heap.size := by have := d1.size; omega
    have H3 := hide (unhide H2 w1 hb1)
    clear H1 H2 HW gx gr x0 x1 b0 d1
    go_wp2_with fail
    refine (unhide H3).mono ?_
    rintro e w2 ⟨A2, c2, rfl, o2, d2⟩
    have hil : (invFill q q.length).length = q.length := invFill_length q _
    rw [hil] at o2 ⊢
    obtain ⟨g, hg⟩ : ∃ g, g = w2.heap.size := ⟨_, rfl⟩
    obtain ⟨w5, hw5⟩ : ∃ w5, w5 = w2.alloc (.cells #[.slice A2 q.length c2, .slice none 0 0] 27) := ⟨_, rfl⟩
    have hb25 : Below w2.heap.size w2 w5 := by rw [hw5]; exact (Below.refl _ w2).alloc (Nat.le_refl _) _
    have hs2 := d2.size
    have hG5 : Whole w5 g 27 #[.slice A2 q.length c2, .slice none 0 0] := by rw [hw5, hg]; exact Whole.new _ _ _
    have hX5 := (gx1.below d2 gx1.lt).below hb25 (by have := gx1.lt; omega)
    have hR5 := (gr1.below d2 gr1.lt).below hb25 (by have := gr1.lt; omega)
    have hU5 : Until g (.slice A2 q.length c2) := by rw [hg]; exact o2.until_
    have hP5 : Ints w5 (w.heap.size + 2) (.slice A2 q.length c2) (invL q) := (o2.below hb25).low (by omega)
    have hB5 : Below w.heap.size w w5 := below_after (below_after hb1 d2) hb25
    have hg1 : w.heap.size + 2 ≤ g := by omega
    have hM : MofAt w g q.length A2 c2 (invL q) 27 #[.slice A n c, .slice P m d] (ordL (S.map swapB) 0) none 0 w5 := ⟨hG5, Fresh.nil_ _ _ _, hX5, hR5, hP5, hB5⟩
    have HW5 := hide (And.intro hw5 hg)
    clear hw5 hb25 gx1 gr1 hb1 d2 o2 hs2 hg hs1 hG5 hX5 hR5 hP5 hB5 z0 H3 hil
    go_wp2
    rw [← (unhide HW5).1, ← (unhide HW5).2]
    clear HW5
    go_loopw [5] (fun i wr => ∃ (k : Nat) (Aj : Option Addr) (cj : Nat), k ≤ m ∧ i = .int .i64 k ∧ MofAt w g q.length A2 c2 (invL q) 27 #[.slice A n c, .slice P m d] (ordL (S.map swapB) k) Aj cj wr ∧
        ((Aj = none ∧ cj = 0 ∧ ordL (S.map swapB) k = []) ∨ ∃ g', Aj = some ⟨g', 0, none⟩)) (fun i _ => m - (intOf i).toNat)
    case atStart => exact ⟨0, none, 0, Nat.zero_le _, rfl, hM, .inl ⟨rfl, rfl, ordL_zero _⟩⟩
    case round =>
      obtain ⟨k, Aj, cj, hk, rfl, hM, hsh⟩ := hrel
      have y0 := hM.hX.cell 0
      have y1 := hM.hX.cell 1
      simp only [List.getElem?_toArray, List.getElem?_cons_zero, List.getElem?_cons_succ] at y0 y1
      by_cases hlt : k < m
      · obtain ⟨ad, ad2, c', x, y, rfl, hz, cr, cx, cy⟩ := AtS.box (unhide HS) hlt (fun z hz => by obtain ⟨x, y, rfl, _⟩ := (unhide HBL).two z hz; rfl)
        have l1 := World.block_lt_of_cell? _ _ cr
        have l2 := World.block_lt_of_cell? _ _ cx
        have l3 := World.block_lt_of_cell? _ _ cy
        have cr := (hM.hB.cell l1).trans cr
        have cx := (hM.hB.cell l2).trans cx
        have cy := (hM.hB.cell l3).trans cy
        have m1 := Nat.lt_succ_of_lt l1
        have m2 := Nat.lt_succ_of_lt l2
        have m3 := Nat.lt_succ_of_lt l3
        have hzz : (S.map swapB)[k]? = some [y, x] := by rw [List.getElem?_map, hz]; rfl
        obtain ⟨zss, hzs⟩ : ∃ zss, zss = ordL (S.map swapB) k := ⟨_, rfl⟩
        obtain ⟨yss, hys⟩ : ∃ yss, yss = ordL (S.map swapB) (k + 1) := ⟨_, rfl⟩
        have hstep : yss = putL zss [y, x] := by rw [hys, hzs]; exact ordL_step hzz
        have hsmall : ∀ z ∈ zss, z.length ≤ 1048576 ∧ Small z := fun z hz' => by
          rw [hzs, ordL_mem] at hz'
          obtain ⟨s, hs, rfl⟩ := List.mem_map.1 (List.mem_of_mem_take hz')
          obtain ⟨u, v, rfl, hu, hv⟩ := (unhide HBL).two s hs
          have := unhide HL
          refine ⟨by simp [swapB], fun t ht => ?_⟩
          rw [swapB_two] at ht
          simp at ht
          rcases ht with rfl | rfl <;> omega
        have hlen : zss.length ≤ 1048576 := by
          rw [hzs]
          have h1 := ordL_len (S.map swapB) k
          rw [List.length_map] at h1
          have := unhide HLS
          omega
        have hxy : -9223372036854775808 ≤ x ∧ x ≤ 9223372036854775807 ∧ -9223372036854775808 ≤ y ∧ y ≤ 9223372036854775807 := by
          obtain ⟨u, v, e, hu, hv⟩ := (unhide HBL).two _ (List.mem_of_getElem? hz)
          simp only [List.cons.injEq, and_true] at e
          obtain ⟨rfl, rfl⟩ := e
          have := unhide HL
          omega
        rw [← hzs] at hM hsh
        have q1 := hM.hG.cell 1
        have f1 := hM.hG.frozen 1
        have hltg := hM.hG.lt
        simp only [List.getElem?_toArray, List.getElem?_cons_zero, List.getElem?_cons_succ] at q1
        have q1e : wr.drew.cell? ⟨g, 1, none⟩ = some (.slice Aj zss.length cj) := q1
        have q1d : ∀ o, (wr.drew.alloc o).cell? ⟨g, 1, none⟩ = some (.slice Aj zss.length cj) := fun o => (((Below.refl wr.heap.size wr).drew.alloc (Nat.le_refl _) o).cell (p := ⟨g, 1, none⟩) hltg).trans q1
        obtain ⟨w4, hw4⟩ : ∃ w4, w4 = wr.drew.alloc (.cells #[.int .i64 y, .int .i64 x] 3) := ⟨_, rfl⟩
        have hb4 : Below wr.heap.size wr w4 := by rw [hw4]; exact (Below.refl wr.heap.size wr).drew.alloc (Nat.le_refl _) _
        have hu4 : Ints w4 wr.heap.size (.slice (some ⟨wr.heap.size, 0, none⟩) 2 2) [y, x] := by rw [hw4]; exact Ints.two2 wr.drew wr.heap.size y x (Nat.le_refl _)
        have ha4 := hu4.arg (by simp) (Nat.le_refl _) (fun t ht => by simp at ht; rcases ht with rfl | rfl <;> omega)
        have hgs : g + 1 ≤ w4.heap.size := by have := hb4.size; omega
        have HPUT := hide (l3putE_any (g + 1) zss Aj cj _ _ _ _ [y, x] w4 (hM.hF.below hb4).intsS hsh ha4 hgs hsmall hlen)
        rw [← hstep, hw4] at HPUT
        have hb4' := hb4.mono (show g + 1 ≤ wr.heap.size by omega)
        rw [hw4] at hb4'
        have HMM := hide hM
        have HY := hide hys
        have hbl : Below (w.heap.size + 1) wr wr.drew := (Below.refl _ _).drew
        have hbl4 := fun o => hbl.alloc (show w.heap.size + 1 ≤ wr.drew.heap.size by show w.heap.size + 1 ≤ wr.heap.size; omega) o
        have lg : w.heap.size + 1 ≤ g := by omega
        have lw : w.heap.size < w.heap.size + 1 := Nat.lt_succ_self _
        clear hz hzz hzs hys hstep hsmall hlen hM hsh hw4 hb4 hu4 ha4 hgs y0
        go_wp2
--REGION
        refine wp_region_held_drew (S := fun w' => w'.cell? ⟨w.heap.size, 1, none⟩ = some (.slice (some ad) m d) ∧ w'.cell? (ad.add k) = some (.slice (some ad2) 2 c') ∧ w'.cell? ad2 = some (.int .i64 x) ∧ w'.cell? ⟨ad2.block, ad2.off + 1, none⟩ = some (.int .i64 y) ∧ Below (w.heap.size + 1) wr w') (by kernel_rfl) ?_ (fun hHeld => ?_)
        · exact keep_boxes y1 cr cx cy lw m1 m2 m3 (hbl)
        refine wpAnyH_take (i := 0) (v := ?_) rfl (by kernel_rfl) (by kernel_rfl) (by kernel_rfl) (fun _ _ _ h => h) (Or.inl ⟨by rfl, ?_⟩) (by assumption) ?_
        rotate_left
        · intro w hSw
          (try dsimp only at hSw)
          go_simp
          all_goals with_reducible rfl
        simp only [Act.put]
        refine wpAnyH_take (i := 2) (v := ?_) rfl (by kernel_rfl) (by kernel_rfl) (by kernel_rfl) (fun _ _ _ h => h) (Or.inl ⟨by rfl, ?_⟩) (by assumption) ?_
        rotate_left
        · intro w hSw
          (try dsimp only at hSw)
          go_simp
          all_goals with_reducible rfl
        simp only [Act.put]
        refine wpAnyH_take (i := 3) (v := ?_) rfl (by kernel_rfl) (by kernel_rfl) (by kernel_rfl) (fun _ _ _ h => h) (Or.inl ⟨by rfl, ?_⟩) (by assumption) ?_
        rotate_left
        · intro w hSw
          (try dsimp only at hSw)
          go_simp
          all_goals with_reducible rfl
        simp only [Act.put]
        refine wpAnyH_take (i := 4) (v := ?_) rfl (by kernel_rfl) (by kernel_rfl) (by kernel_rfl) (fun _ _ _ h => h) (Or.inl ⟨by rfl, ?_⟩) (by assumption) ?_
        rotate_left
        · intro w hSw
          (try dsimp only at hSw)
          go_simp
          all_goals with_reducible rfl
        simp only [Act.put]
        refine wpAnyH_take (i := 5) (v := ?_) rfl (by kernel_rfl) (by kernel_rfl) (by kernel_rfl) (fun _ _ _ h => h) (Or.inl ⟨by rfl, ?_⟩) (by assumption) ?_
        rotate_left
        · intro w hSw
          (try dsimp only at hSw)
          go_simp
          all_goals with_reducible rfl
        simp only [Act.put]
        refine wpAnyH_take (i := 6) (v := ?_) rfl (by kernel_rfl) (by kernel_rfl) (by kernel_rfl) (fun _ _ _ h => h) (Or.inl ⟨by rfl, ?_⟩) (by assumption) ?_
        rotate_left
        · intro w hSw
          (try dsimp only at hSw)
          go_simp
          all_goals with_reducible rfl
        simp only [Act.put]
        refine wpAnyH_take (i := 7) (v := ?_) rfl (by kernel_rfl) (by kernel_rfl) (by kernel_rfl) (fun _ _ _ h => h) (Or.inl ⟨by rfl, ?_⟩) (by assumption) ?_
        rotate_left
        · intro w hSw
          (try dsimp only at hSw)
          go_simp
          all_goals with_reducible rfl
        simp only [Act.put]
        refine wpAnyH_take (i := 8) (v := ?_) rfl (by kernel_rfl) (by kernel_rfl) (by kernel_rfl) (fun _ _ _ h => h) (Or.inl ⟨by rfl, ?_⟩) (by assumption) ?_
        rotate_left
        · intro w hSw
          (try dsimp only at hSw)
          go_simp
          all_goals with_reducible rfl
        simp only [Act.put]
        refine wpAnyH_take (i := 9) (v := ?_) rfl (by kernel_rfl) (by kernel_rfl) (by kernel_rfl) (fun _ _ _ h => h) (Or.inl ⟨by rfl, ?_⟩) (by assumption) ?_
        rotate_left
        · intro w hSw
          (try dsimp only at hSw)
          go_simp
          all_goals with_reducible rfl
        simp only [Act.put]
        refine wpAnyH_take (i := 10) (v := ?_) rfl (by kernel_rfl) (by kernel_rfl) (by kernel_rfl) (fun _ _ _ h => h) (Or.inl ⟨by rfl, ?_⟩) (by assumption) ?_
        rotate_left
        · intro w hSw
          (try dsimp only at hSw)
          go_simp
          all_goals with_reducible rfl
        simp only [Act.put]
        refine wpAnyH_take (i := 11) (v := ?_) rfl (by kernel_rfl) (by kernel_rfl) (by kernel_rfl) (fun _ _ _ h => h) (Or.inl ⟨by rfl, ?_⟩) (by assumption) ?_
        rotate_left
        · intro w hSw
          (try dsimp only at hSw)
          go_simp
          all_goals with_reducible rfl
        simp only [Act.put]
        refine wpAnyH_take (i := 12) (v := ?_) rfl (by kernel_rfl) (by kernel_rfl) (by kernel_rfl) (fun _ _ _ h => h) (Or.inl ⟨by rfl, ?_⟩) (by assumption) ?_
        rotate_left
        · intro w hSw
          (try dsimp only at hSw)
          go_simp
          all_goals with_reducible rfl
        simp only [Act.put]
        refine wpAnyH_take (i := 13) (v := ?_) rfl (by kernel_rfl) (by kernel_rfl) (by kernel_rfl) (fun _ _ _ h => h) (Or.inl ⟨by rfl, ?_⟩) (by assumption) ?_
        rotate_left
        · intro w hSw
          (try dsimp only at hSw)
          go_simp
          all_goals with_reducible rfl
        simp only [Act.put]
        refine wpAnyH_take (i := 14) (v := ?_) rfl (by kernel_rfl) (by kernel_rfl) (by kernel_rfl) (fun _ _ _ h => h) (Or.inl ⟨by rfl, ?_⟩) (by assumption) ?_
        rotate_left
        · intro w hSw
          (try dsimp only at hSw)
          go_simp
          all_goals with_reducible rfl
        simp only [Act.put]
        refine wpAnyH_take (i := 15) (v := ?_) rfl (by kernel_rfl) (by kernel_rfl) (by kernel_rfl) (fun _ _ _ h => h) (Or.inl ⟨by rfl, ?_⟩) (by assumption) ?_
        rotate_left
        · intro w hSw
          (try dsimp only at hSw)
          go_simp
          all_goals with_reducible rfl
        simp only [Act.put]
        refine wpAnyH_ready (rs := [1, 16]) (by kernel_rfl) (by simp) ?_
        refine AllReadyH.cons rfl (fun K hK => ?_) (AllReadyH.cons rfl (fun K hK => ?_) (AllReadyH.nil))
        · skip
          go_simp
          refine hK.out _ _ ?_ (fun hHeld => ?_)
          · (try dsimp only)
            first | exact keep_boxes y1 cr cx cy lw m1 m2 m3 hbl | exact keep_boxes y1 cr cx cy lw m1 m2 m3 (hbl4 _)
          clear hK K
          try simp only [Act.put]
          refine wpAnyH_ready (rs := [16]) (by kernel_rfl) (by simp) ?_
          refine AllReadyH.cons rfl (fun K hK => ?_) (AllReadyH.nil)
          go_simp
          refine hK.out _ _ ?_ (fun hHeld => ?_)
          · (try dsimp only)
            exact keep_boxes y1 cr cx cy lw m1 m2 m3 (hbl4 _)
          clear hK K
          try simp only [Act.put]
          refine wpAnyH_ready (rs := [17]) (by kernel_rfl) (by simp) ?_
          refine AllReadyH.cons rfl (fun K hK => ?_) (AllReadyH.nil)
          go_simp
          go_at_call 55
          refine (unhide HPUT).mono ?_
          rintro e w7 ⟨v7, rfl, ⟨hI7, g7, c7, rfl⟩, hb7', hk7⟩
          have hb7 : Below (w.heap.size + 1) wr w7 := (hb4'.trans hb7').mono (by omega)
          have r1' := ((unhide HMM).hG.below (hb4'.trans hb7') (Nat.lt_succ_self g)).cell 1
          have f1' := ((unhide HMM).hG.below (hb4'.trans hb7') (Nat.lt_succ_self g)).frozen 1
          have l1' := ((unhide HMM).hG.below (hb4'.trans hb7') (Nat.lt_succ_self g)).lt
          simp only [List.getElem?_toArray, List.getElem?_cons_zero, List.getElem?_cons_succ] at r1'
          dsimp only
          refine hK.out _ _ ?_ (fun hHeld => ?_)
          · (try dsimp only)
            exact keep_boxes y1 cr cx cy lw m1 m2 m3 (hb7)
          clear hK K
          try simp only [Act.put]
          refine wpAnyH_ready (rs := [18]) (by kernel_rfl) (by simp) ?_
          refine AllReadyH.cons rfl (fun K hK => ?_) (AllReadyH.nil)
          go_simp
          refine hK.out _ _ ?_ (fun hHeld => ?_)
          · (try dsimp only)
            exact keep_boxes y1 cr cx cy lw m1 m2 m3 (hb7)
          clear hK K
          try simp only [Act.put]
          refine wpAnyH_ready (rs := [19]) (by kernel_rfl) (by simp) ?_
          refine AllReadyH.cons rfl (fun K hK => ?_) (AllReadyH.nil)
          go_simp
          refine hK.out _ _ ?_ (fun hHeld => ?_)
          · (try dsimp only)
            exact keep_boxes y1 cr cx cy lw m1 m2 m3 (hb7.setCell (p := ⟨g, 1, none⟩) (by show w.heap.size + 1 ≤ g; omega) _)
          clear hK K
          try simp only [Act.put]
          refine wpAnyH_done (by kernel_rfl) ?_ _
          have hM' := (unhide HMM).next hU5 hg1 (hb4'.trans hb7') (Fresh.of_under hI7 hU5)
          have HN := hide (show MofAt w g q.length A2 c2 (invL q) 27 #[.slice A n c, .slice (some ad) m d] (ordL (S.map swapB) (k + 1)) (some ⟨g7, 0, none⟩) c7 (w7.setCell ⟨g, 1, none⟩ (.slice (some ⟨g7, 0, none⟩) yss.length c7)) from by rw [← unhide HY]; exact hM')
          clear hM' HMM q1 f1 q1e q1d r1' f1' l1' hb7 hb7' hb4' hI7 hk7 HY hltg y1 cr cx cy l1 l2 l3 m1 m2 m3 HPUT hbl hbl4 hHeld
          generalize w7.setCell ⟨g, 1, none⟩ (.slice (some ⟨g7, 0, none⟩) yss.length c7) = w8 at HN ⊢
          go_wp2
          go_roundw
          case rel => exact ⟨k + 1, _, c7, by omega, by go_num, unhide HN, .inr ⟨g7, rfl⟩⟩
          case measure => simp [intOf]; omega
        · skip
          go_simp
          refine hK.out _ _ ?_ (fun hHeld => ?_)
          · (try dsimp only)
            exact keep_boxes y1 cr cx cy lw m1 m2 m3 (hbl4 _)
          clear hK K
          try simp only [Act.put]
          refine wpAnyH_ready (rs := [1]) (by kernel_rfl) (by simp) ?_
          refine AllReadyH.cons rfl (fun K hK => ?_) (AllReadyH.nil)
          go_simp
          refine hK.out _ _ ?_ (fun hHeld => ?_)
          · (try dsimp only)
            first | exact keep_boxes y1 cr cx cy lw m1 m2 m3 hbl | exact keep_boxes y1 cr cx cy lw m1 m2 m3 (hbl4 _)
          clear hK K
          try simp only [Act.put]
          refine wpAnyH_ready (rs := [17]) (by kernel_rfl) (by simp) ?_
          refine AllReadyH.cons rfl (fun K hK => ?_) (AllReadyH.nil)
          go_simp
          go_at_call 55
          refine (unhide HPUT).mono ?_
          rintro e w7 ⟨v7, rfl, ⟨hI7, g7, c7, rfl⟩, hb7', hk7⟩
          have hb7 : Below (w.heap.size + 1) wr w7 := (hb4'.trans hb7').mono (by omega)
          have r1' := ((unhide HMM).hG.below (hb4'.trans hb7') (Nat.lt_succ_self g)).cell 1
          have f1' := ((unhide HMM).hG.below (hb4'.trans hb7') (Nat.lt_succ_self g)).frozen 1
          have l1' := ((unhide HMM).hG.below (hb4'.trans hb7') (Nat.lt_succ_self g)).lt
          simp only [List.getElem?_toArray, List.getElem?_cons_zero, List.getElem?_cons_succ] at r1'
          dsimp only
          refine hK.out _ _ ?_ (fun hHeld => ?_)
          · (try dsimp only)
            exact keep_boxes y1 cr cx cy lw m1 m2 m3 (hb7)
          clear hK K
          try simp only [Act.put]
          refine wpAnyH_ready (rs := [18]) (by kernel_rfl) (by simp) ?_
          refine AllReadyH.cons rfl (fun K hK => ?_) (AllReadyH.nil)
          go_simp
          refine hK.out _ _ ?_ (fun hHeld => ?_)
          · (try dsimp only)
            exact keep_boxes y1 cr cx cy lw m1 m2 m3 (hb7)
          clear hK K
          try simp only [Act.put]
          refine wpAnyH_ready (rs := [19]) (by kernel_rfl) (by simp) ?_
          refine AllReadyH.cons rfl (fun K hK => ?_) (AllReadyH.nil)
          go_simp
          refine hK.out _ _ ?_ (fun hHeld => ?_)
          · (try dsimp only)
            exact keep_boxes y1 cr cx cy lw m1 m2 m3 (hb7.setCell (p := ⟨g, 1, none⟩) (by show w.heap.size + 1 ≤ g; omega) _)
          clear hK K
          try simp only [Act.put]
          refine wpAnyH_done (by kernel_rfl) ?_ _
          have hM' := (unhide HMM).next hU5 hg1 (hb4'.trans hb7') (Fresh.of_under hI7 hU5)
          have HN := hide (show MofAt w g q.length A2 c2 (invL q) 27 #[.slice A n c, .slice (some ad) m d] (ordL (S.map swapB) (k + 1)) (some ⟨g7, 0, none⟩) c7 (w7.setCell ⟨g, 1, none⟩ (.slice (some ⟨g7, 0, none⟩) yss.length c7)) from by rw [← unhide HY]; exact hM')
          clear hM' HMM q1 f1 q1e q1d r1' f1' l1' hb7 hb7' hb4' hI7 hk7 HY hltg y1 cr cx cy l1 l2 l3 m1 m2 m3 HPUT hbl hbl4 hHeld
          generalize w7.setCell ⟨g, 1, none⟩ (.slice (some ⟨g7, 0, none⟩) yss.length c7) = w8 at HN ⊢
          go_wp2
          go_roundw
          case rel => exact ⟨k + 1, _, c7, by omega, by go_num, unhide HN, .inr ⟨g7, rfl⟩⟩
          case measure => simp [intOf]; omega
--END-REGION
      · obtain rfl : m = k := by omega
        have eT : ordL (S.map swapB) m = turnS S := by unfold turnS; rw [unhide HLS]
        rw [eT] at hM
        have r0 := hM.hG.cell 0
        have r1 := hM.hG.cell 1
        have s0 := hM.hR.cell 0
        have s1 := hM.hR.cell 1
        have e0 := hM.hR.frozen 0
        have e1 := hM.hR.frozen 1
        have hltr := hM.hR.lt
        simp only [List.getElem?_toArray, List.getElem?_cons_zero, List.getElem?_cons_succ] at r0 r1 s0 s1
        have hil : (invL q).length = q.length := invL_length q
        have HM := hide hM
        have HIL := hide hil
        clear hM eT hsh hil
        go_wp2
        have hM := unhide HM
        have hWe := (hM.hR.put 0 (.slice A2 q.length c2)).put 1 (.slice Aj (turnS S).length cj)
        refine bodyPost_ret (v := .tuple #[.agg #[.slice A2 q.length c2, .slice Aj (turnS S).length cj], .bool true]) (results_mesh Try.results17 _ _ (w.heap.size + 1) 27 _ (0, 0) _ rfl hWe Try.underlying27 rfl meshInfo') rfl ?_
        exact meshB_end true (hM.end_ hg1) (by omega) (by omega) hM.hB
end Go.Proofs.Ytcoegjhhhnfplaa


/-
  slices.SortFunc over rows of rows, under impl.comparePerms.
-/

namespace Go.Proofs.Ytcoegjhhhnfplaa
set_option maxRecDepth 100000
open Go.RowKit

/-! rows, each with what it holds -/
abbrev Pr := Value × List Int
structure RowPrs (w : World) (B : Nat) (xs : List Pr) : Prop where
  row : ∀ q ∈ xs, Ints w B q.1 q.2
  away : xs.Pairwise fun a b => Away a.1 b.1
theorem RowPrs.inner {w : World} {B : Nat} {xs : List Pr} (h : RowPrs w B xs) : Inner w B (xs.map (·.1)) (xs.map (·.2)) := by
  refine ⟨by simp, fun i u zs hu hz => ?_, ?_⟩
  · rw [List.getElem?_map] at hu hz
    cases hq : xs[i]? with
    | none => rw [hq] at hu; cases hu
    | some q =>
      rw [hq] at hu hz
      cases hu; cases hz
      exact h.row q (List.mem_of_getElem? hq)
  · rw [List.pairwise_map]
    exact h.away
theorem Inner.prs {w : World} {B : Nat} {vs : List Value} {zss : List (List Int)} (h : Inner w B vs zss) : ∃ xs : List Pr, xs.map (·.1) = vs ∧ xs.map (·.2) = zss ∧ RowPrs w B xs := by
  have h1 : (vs.zip zss).map (·.1) = vs := List.map_fst_zip (by rw [h.len]; exact Nat.le_refl _)
  have h2 : (vs.zip zss).map (·.2) = zss := List.map_snd_zip (by rw [h.len]; exact Nat.le_refl _)
  refine ⟨vs.zip zss, h1, h2, fun q hq => ?_, ?_⟩
  · obtain ⟨i, hi, rfl⟩ := List.getElem_of_mem hq
    rw [List.length_zip] at hi
    exact h.row i _ _ (by rw [List.getElem_zip]; exact List.getElem?_eq_getElem (by omega)) (by rw [List.getElem_zip]; exact List.getElem?_eq_getElem (by omega))
  · have := h.away
    rw [← h1, List.pairwise_map] at this
    exact this
theorem RowPrs.sub {w : World} {B : Nat} {xs ys : List Pr} (h : RowPrs w B xs) (hs : ys.Sublist xs) : RowPrs w B ys := ⟨fun q hq => h.row q (hs.subset hq), h.away.sublist hs⟩
theorem RowPrs.perm {w : World} {B : Nat} {xs ys : List Pr} (h : RowPrs w B xs) (hp : ys.Perm xs) : RowPrs w B ys :=
  ⟨fun q hq => h.row q (hp.subset hq), (hp.pairwise_iff (fun {_ _} h => h.symm)).2 h.away⟩
theorem RowPrs.keepI {w w' : World} {B : Nat} {xs : List Pr} (h : RowPrs w B xs) (hk : KeepI w w') : RowPrs w' B xs := ⟨fun q hq => (h.row q hq).keepI hk, h.away⟩

/-! the sort -/
structure El (w : World) (B : Nat) where
  q : Pr
  row : Ints w B q.1 q.2
  perm : isP q.2 = true
def El.enc {w : World} {B : Nat} (x : El w B) : Value := x.q.1
def El.cf {w : World} {B : Nat} (x y : El w B) : Int := cmpV x.q.2 y.q.2
theorem els {w : World} {B : Nat} : ∀ xs : List Pr, (∀ q ∈ xs, Ints w B q.1 q.2 ∧ isP q.2 = true) → ∃ ds : List (El w B), ds.map (·.q) = xs
  | [], _ => ⟨[], rfl⟩
  | q :: xs, h => by
    obtain ⟨ds, hd⟩ := els xs fun q hq => h q (by simp [hq])
    exact ⟨⟨q, (h q (by simp)).1, (h q (by simp)).2⟩ :: ds, by rw [List.map_cons, hd]⟩
theorem El.one {w : World} {B : Nat} : OneCell (El.enc (w := w) (B := B)) := fun x => by
  obtain ⟨A, c, h⟩ := x.row.slice
  unfold El.enc
  rw [h]; rfl
theorem El.swo {w : World} {B : Nat} : Sort.SWO (ltOf (El.cf (w := w) (B := B))) where
  irrefl x := by unfold ltOf El.cf; rw [cmpV_befL]; exact befL_irrefl _
  trans x y z h1 h2 := by unfold ltOf El.cf at *; rw [cmpV_befL] at *; exact befL_trans h1 h2
  ntrans x y z h1 h2 := by
    unfold ltOf El.cf at *
    rw [cmpV_befL] at *
    cases h3 : befL x.q.2 z.q.2 with
    | false => rfl
    | true =>
      have h4 := befL_le_lt h1 h3
      rw [h2] at h4; cases h4
theorem take_put {α : Type} [Inhabited α] (enc : α → Value) (cur : Array Value) (d : Array α) (h : d.size ≤ cur.size) : (Sort.putCells enc 0 d cur).toList.take d.size = d.toList.map enc := by
  apply List.ext_getElem?
  intro j
  by_cases hj : j < d.size
  · rw [List.getElem?_take_of_lt hj, Array.getElem?_toList]
    simp [Sort.putCells, hj, show j < cur.size by omega]
  · rw [List.getElem?_take_eq_none (by omega), List.getElem?_eq_none (by simp; omega)]
theorem heap_put {α : Type} [Inhabited α] (enc : α → Value) {w : World} {g m : Nat} {os : Array Obj} {cur : Array Value} {e : TypeId} {fr : Nat × Nat} (d : Array α) (hb : w.heap[g]? = some (.cells cur e fr)) :
    (sortWorld enc w g 0 m d os).heap[g]? = some (.cells (Sort.putCells enc 0 d cur) e fr) := by
  have hg : g < w.heap.size := (Array.getElem?_eq_some_iff.1 hb).1
  unfold sortWorld
  rw [Sort.heap_grow_old _ _ (by simpa using hg)]
  simp [Sort.putRow, Sort.mapBlock, Sort.ahead, Array.getElem?_modify, hb, Sort.onCells]
theorem heap_far {α : Type} [Inhabited α] (enc : α → Value) {w : World} {g m : Nat} {os : Array Obj} (d : Array α) {i : Nat} (hi : i < w.heap.size) (hne : g ≠ i) : (sortWorld enc w g 0 m d os).heap[i]? = w.heap[i]? := by
  unfold sortWorld
  rw [Sort.heap_grow_old _ _ (by simpa using hi)]
  simp [Sort.putRow, Sort.mapBlock, Sort.ahead, Array.getElem?_modify, hne]
theorem size_sorted {α : Type} [Inhabited α] (enc : α → Value) (w : World) (g m : Nat) (os : Array Obj) (d : Array α) : w.heap.size ≤ (sortWorld enc w g 0 m d os).heap.size := by unfold sortWorld; simp
theorem grown_sorted {α : Type} [Inhabited α] (enc : α → Value) (w : World) (g m : Nat) (os : Array Obj) (d : Array α) : w.grownBy (sortWorld enc w g 0 m d os) (some g) :=
  ⟨rfl, rfl, rfl, size_sorted enc w g m os d, fun _ hk hne => heap_far enc d hk fun e => hne (by rw [e])⟩
theorem own_sorted {α : Type} [Inhabited α] (enc : α → Value) {w : World} {B g n cap m : Nat} {e : TypeId} {os : Array Obj} {xs : List Value} (d : Array α) (hd : d.size = n) (h : w.ownsRow B e 1 (.slice (some ⟨g, 0, none⟩) n cap) n xs) :
    (sortWorld enc w g 0 m d os).ownsRow B e 1 (.slice (some ⟨g, 0, none⟩) n cap) n (d.toList.map enc) := by
  refine ⟨by simp [hd], ?_⟩
  rcases h.2 with ⟨hv, _⟩ | ⟨g', cap', cur, hv, hb, hg, hnc, hc, hsz, ht⟩
  · cases hv
  · injection hv with h1 h2 h3
    injection h1 with h1
    injection h1 with h1
    subst h1; subst h3
    exact .inr ⟨g, cap, _, rfl, hb, heap_put enc d hg, hnc, hc, by simpa [Sort.putCells] using hsz, by rw [Nat.mul_one, ← hd]; exact take_put enc cur d (by omega)⟩
theorem holds_own {α : Type} [Inhabited α] (enc : α → Value) {w : World} {B g n cap : Nat} {e : TypeId} (ds : List α) (h : w.ownsRow B e 1 (.slice (some ⟨g, 0, none⟩) n cap) n (ds.map enc)) : Sort.Holds enc w g 0 ds.toArray := by
  have hl : ds.length = n := by simpa using h.1
  intro j hj
  have hj' : j < ds.length := by simpa using hj
  refine ⟨?_, by rw [Nat.zero_add]; exact h.frozenAt j⟩
  rw [Nat.zero_add, h.cellAt j (by omega)]
  simp [hj']

/-- A row of rows, sorted: the same rows, in order. -/
def Sorted (w : World) (B g n cap : Nat) (xs : List Pr) (e : Ending) (w' : World) : Prop :=
  e = .returned (.tuple #[]) ∧ ∃ ys : List Pr, ys.Perm xs ∧ (∀ (i j : Nat) (x y : Pr), i < j → ys[i]? = some x → ys[j]? = some y → befL y.2 x.2 = false) ∧
    w'.ownsRow B 24 1 (.slice (some ⟨g, 0, none⟩) n cap) n (ys.map (·.1)) ∧ w.grownBy w' (some g)
end Go.Proofs.Ytcoegjhhhnfplaa


/-
  slices.SortFunc over rows of two, under slices.Compare.
-/

namespace Go.Proofs.Ytcoegjhhhnfplaa
set_option maxRecDepth 100000
open Go.RowKit
structure El2 (w : World) (B : Nat) where
  q : Pr
  row : Ints w B q.1 q.2
  two : q.2.length = 2
  small : Small q.2
def El2.enc {w : World} {B : Nat} (x : El2 w B) : Value := x.q.1
def El2.cf {w : World} {B : Nat} (x y : El2 w B) : Int := lexV x.q.2 y.q.2
theorem els2 {w : World} {B : Nat} : ∀ xs : List Pr, (∀ q ∈ xs, Ints w B q.1 q.2 ∧ q.2.length = 2 ∧ Small q.2) → ∃ ds : List (El2 w B), ds.map (·.q) = xs
  | [], _ => ⟨[], rfl⟩
  | q :: xs, h => by
    obtain ⟨ds, hd⟩ := els2 xs fun q hq => h q (by simp [hq])
    exact ⟨⟨q, (h q (by simp)).1, (h q (by simp)).2.1, (h q (by simp)).2.2⟩ :: ds, by rw [List.map_cons, hd]⟩
theorem El2.one {w : World} {B : Nat} : OneCell (El2.enc (w := w) (B := B)) := fun x => by
  obtain ⟨A, c, h⟩ := x.row.slice
  unfold El2.enc
  rw [h]; rfl
theorem lexV_befL {p q : List Int} (h : p.length = q.length) : decide (lexV p q < 0) = befL p q := by rw [lexV_lexL h, befL_eq h]
theorem El2.lt {w : World} {B : Nat} (x y : El2 w B) : ltOf (El2.cf (w := w) (B := B)) x y = befL x.q.2 y.q.2 := by
  unfold ltOf El2.cf
  exact lexV_befL (by rw [x.two, y.two])
theorem El2.swo {w : World} {B : Nat} : Sort.SWO (ltOf (El2.cf (w := w) (B := B))) where
  irrefl x := by rw [El2.lt]; exact befL_irrefl _
  trans x y z h1 h2 := by rw [El2.lt] at *; exact befL_trans h1 h2
  ntrans x y z h1 h2 := by
    rw [El2.lt] at *
    cases h3 : befL x.q.2 z.q.2 with
    | false => rfl
    | true =>
      have h4 := befL_le_lt h1 h3
      rw [h2] at h4; cases h4
theorem sortB_any (w : World) (B g n cap : Nat) (xs : List Pr) (hown : w.ownsRow B 24 1 (.slice (some ⟨g, 0, none⟩) n cap) n (xs.map (·.1))) (hx : RowPrs w B xs) (hP : ∀ q ∈ xs, q.2.length = 2 ∧ Small q.2) (hn : n ≤ 1048576) :
    Calls Try.prog 51 #[.slice (some ⟨g, 0, none⟩) n cap, .func (.func 52) #[] #[]] w (Sorted w B g n cap xs) := by
  have hl : xs.length = n := by simpa using hown.1
  cases xs with
  | nil =>
    obtain rfl : n = 0 := by simpa using hl.symm
    refine (Try.slices_SortFunc_none (α := Unit) _ _ _ w).mono ?_
    rintro e w' ⟨rfl, rfl⟩
    exact ⟨rfl, [], List.Perm.refl _, fun i j x y _ h => by simp at h, hown, World.grownBy.refl _ _⟩
  | cons q xs =>
    obtain ⟨ds, hds⟩ := els2 (q :: xs) fun p hp => ⟨hx.row p hp, hP p hp⟩
    have hq := hx.row q (by simp)
    have hqP := hP q (by simp)
    letI : Inhabited (El2 w B) := ⟨⟨q, hq, hqP.1, hqP.2⟩⟩
    have henc : ds.map El2.enc = (q :: xs).map (·.1) := by rw [← hds, List.map_map]; rfl
    have hdl : ds.length = n := by rw [← hl, ← hds, List.length_map]
    have hg := (hown.lt g rfl).2
    have eg : ∀ args w, (callFunc 52 args).run Try.prog w = .ok (.enter 52 args) w := enters_of Try.func52 (by kernel_rfl) rfl
    have hcmp : CmpLays1 Try.prog 52 #[] (El2.enc (w := w) (B := B)) El2.cf g 0 ds.toArray.size w := fun m os dk hs x y => by
      have hk : KeepI w (sortWorld El2.enc w g 0 m dk os) := by
        have hgr := grown_sorted (El2.enc (w := w) (B := B)) w g m os dk
        exact KeepI.of_grown hown hgr
      obtain ⟨A1, c1, h1⟩ := x.row.slice
      obtain ⟨A2, c2, h2⟩ := y.row.slice
      have i1 := x.row.keepI hk
      have i2 := y.row.keepI hk
      show Calls _ _ #[x.q.1, y.q.1] _ _
      rw [h1] at i1 ⊢
      rw [h2] at i2 ⊢
      exact (compare_any A1 A2 _ c1 _ _ c2 _ x.q.2 y.q.2 _ (i1.arg (by rw [x.two]; omega) i1.cap x.small) (i2.arg (by rw [y.two]; omega) i2.cap y.small)).mono fun e w' h => ⟨h.1, 0, #[], by rw [← h.2, Sort.grow_empty]; rfl⟩
    have hcon := Try.slices_SortFunc (El2.enc (w := w) (B := B)) El2.one El2.cf El2.swo 52 #[] g 0 cap ds.toArray w eg hcmp (holds_own El2.enc ds (by rw [henc]; exact hown)) hg (by simp; omega)
    rw [show ds.toArray.size = n by simpa using hdl] at hcon
    refine hcon.mono ?_
    rintro e w' ⟨rfl, d', m, os, hp, hs, rfl⟩
    obtain ⟨p1, _, p3⟩ := hp
    have hd' : d'.size = n := by rw [p1]; simpa using hdl
    have hperm : d'.toList.Perm ds := by
      have h1 : d'.extract 0 n = d' := by rw [← hd']; simp
      have h2 : ds.toArray.extract 0 n = ds.toArray := by rw [← hdl]; simp
      rw [h1, h2] at p3
      simpa using p3
    refine ⟨rfl, d'.toList.map (·.q), by rw [← hds]; exact hperm.map _, fun i j x y hij hi hj => ?_, ?_, grown_sorted _ _ _ _ _ _⟩
    · rw [List.getElem?_map] at hi hj
      have hjn : j < n := by
        cases hq : d'.toList[j]? with
        | none => rw [hq] at hj; cases hj
        | some u => have := (List.getElem?_eq_some_iff.1 hq).1; simpa [hd'] using this
      have := hs i j (Nat.zero_le _) hij hjn
      rw [El2.lt] at this
      rw [getElem!_pos d' i (by omega), getElem!_pos d' j (by omega)] at this
      rw [List.getElem?_eq_getElem (by simp; omega)] at hi hj
      simp at hi hj
      subst hi; subst hj
      exact this
    · rw [List.map_map]
      exact own_sorted El2.enc d' hd' hown
end Go.Proofs.Ytcoegjhhhnfplaa
