/-
  Words and contracts that the laws lean on, bundled: ConI, BackT, Turn, RevI, Big, LaidU.
-/
import Derived.Test.YtichenjbkclljaaDoorB5
import Derived.Test.YtichenjbkclljaaDoorB9
import Derived.Test.YtichenjbkclljaaDoorB3
import Derived.Test.YtichenjbkclljaaDoorShelfR
import Derived.Sort.OwnSortedInts
import Derived.Test.YtichenjbkclljaaDoorB8
import Derived.Test.YtichenjbkclljaaDoorB6
import Derived.Maps.AppendAt
import Derived.Stop.RegionWithIn
import Derived.Test.YtichenjbkclljaaDoorProg
import Derived.Test.YtichenjbkclljaaDoorB1
import Derived.Test.YtichenjbkclljaaDoorCards
import Derived.Test.YtichenjbkclljaaDoorTie
import Derived.Test.YtichenjbkclljaaDoorB4
import Derived.Deep.DeepHandedRow
import Derived.Deep.DeepWitnessRowRef

/-
  impl.ConsecutiveOf, by its contract.
-/

namespace Go.Proofs.YtichenjbkclljaaDoor
set_option maxRecDepth 100000
open Go.RowKit

theorem conJ_id {n : Nat} (hn : n ≤ 8) : conJ n = idR ((n : Int) - 1) := by
  have : ∀ m, m ≤ 8 → conJ m = idR ((m : Int) - 1) := by decide
  exact this n hn
set_option maxHeartbeats 1600000 in
theorem iconn_any (A : Option Addr) (n c B : Nat) (q : List Int) (w : World) (h : Arg w B A n c q) :
    Calls Tryd.prog 13 #[.slice A n c] w (GivesNB w (conQ q) (conR q) (isP q)) := by
  have hl := h.len
  obtain ⟨b, hb⟩ : ∃ b, isP q = b := ⟨_, rfl⟩
  have hbel := (Below.refl w.heap.size w).alloc (Nat.le_refl _) (.cells #[.slice none 0 0, .slice none 0 0] 26)
  have hW := Whole.new w 26 #[.slice none 0 0, .slice none 0 0]
  have H0 := hide (iisperm_any A n c B q b hb _ (h.below hbel).reads (h.below hbel).under h.le h.small)
  cases b with
  | false =>
    rw [show conQ q = [] by unfold conQ; rw [hb]; rfl, show conR q = [] by unfold conR; rw [hb]; rfl, hb]
    clear h hl hb
    go_enter Tryd.func13, Tryd.ntmps13
    go_wp2_with fail
    refine (unhide H0).mono ?_
    rintro e w1 ⟨rfl, hd⟩
    have hs1 : w.heap.size + 1 ≤ w1.heap.size := by have := hd.size; simpa using this
    have hW1 := hW.below hd (by simp)
    have hb1 := below_after hbel hd
    have r0 := hW1.cell 0
    have r1 := hW1.cell 1
    have g0 := hW1.frozen 0
    have g1 := hW1.frozen 1
    have hltr := hW1.lt
    simp only [List.getElem?_toArray, List.getElem?_cons_zero, List.getElem?_cons_succ] at r0 r1
    clear hd H0 hW hbel hs1
    go_wp2_with fail
    have hWe := (hW1.put 0 (.slice none 0 0)).put 1 (.slice none 0 0)
    refine bodyPost_ret (v := .tuple #[.agg #[.slice none 0 0, .slice none 0 0], .bool false]) (results_near Tryd.results13 _ _ w.heap.size 26 _ (0, 0) _ rfl hWe Tryd.underlying26 rfl nearInfo) rfl ?_
    exact nearB_end false (NearAt.none_ w1 (w.heap.size + 1)) (Nat.lt_succ_self _) hb1
  | true =>
    have hn8 : n ≤ 8 := by have := isP_le hb; omega
    rw [show conQ q = q by unfold conQ; rw [hb]; rfl, show conR q = idR ((n : Int) - 1) by unfold conR; rw [hb, hl]; exact conJ_id hn8, hb]
    have H1 := hide (show ∀ w1, Below w.heap.size w w1 → _ from fun w1 d => clone_any A n c B q w1 (h.below d))
    have hwn : IntKind.i64.wrap ((n : Int) - 1) = (n : Int) - 1 := by rw [IntKind.wrap_i64]; omega
    have H2 := hide (fun w2 => iid_any ((n : Int) - 1) (by omega) w2)
    have HL := hide hl
    clear h hl hb
    go_enter Tryd.func13, Tryd.ntmps13
    go_wp2_with fail
    refine (unhide H0).mono ?_
    rintro e w1 ⟨rfl, hd⟩
    have hs1 : w.heap.size + 1 ≤ w1.heap.size := by have := hd.size; simpa using this
    have hW1 := hW.below hd (by simp)
    have hb1 := below_after hbel hd
    have H3 := hide (unhide H1 w1 hb1)
    clear hd H0 hW hbel H1
    go_wp2_with fail
    refine (unhide H3).mono ?_
    rintro e w2 ⟨A2, c2, rfl, o2, d2⟩
    have H4 := hide (unhide H2 w2)
    clear H3 H2
    go_wp2_with fail
    refine (unhide H4).mono ?_
    rintro e w3 ⟨A3, c3, rfl, o3, d3⟩
    have hN : NearAt w3 (w.heap.size + 1) (.slice A2 q.length c2) (.slice A3 (idR ((n : Int) - 1)).length c3) q (idR ((n : Int) - 1)) := ⟨(o2.below d3).low hs1, o3.low (by have := d2.size; omega), apart o2.until_ o3.since (Nat.le_refl _)⟩
    have hR := (hW1.below d2 (by omega)).below d3 (by have := d2.size; omega)
    have hB := below_after (below_after hb1 d2) d3
    have r0 := hR.cell 0
    have r1 := hR.cell 1
    have g0 := hR.frozen 0
    have g1 := hR.frozen 1
    have hltr := hR.lt
    simp only [List.getElem?_toArray, List.getElem?_cons_zero, List.getElem?_cons_succ] at r0 r1
    have HN := hide (⟨hR, hN, hB⟩ : Whole w3 w.heap.size 26 #[.slice none 0 0, .slice none 0 0] ∧ NearAt w3 (w.heap.size + 1) (.slice A2 q.length c2) (.slice A3 (idR ((n : Int) - 1)).length c3) q (idR ((n : Int) - 1)) ∧ Below w.heap.size w w3)
    clear hR hN hB H4 o2 o3 d2 d3 hW1 hb1 hs1
    go_wp2_with fail
    obtain ⟨hR, hN, hB⟩ := unhide HN
    have hWe := (hR.put 0 (.slice A2 q.length c2)).put 1 (.slice A3 (idR ((n : Int) - 1)).length c3)
    refine bodyPost_ret (v := .tuple #[.agg #[.slice A2 q.length c2, .slice A3 (idR ((n : Int) - 1)).length c3], .bool true]) (results_near Tryd.results13 _ _ w.heap.size 26 _ (0, 0) _ rfl hWe Tryd.underlying26 rfl nearInfo) rfl ?_
    exact nearB_end true hN (Nat.lt_succ_self _) hB
end Go.Proofs.YtichenjbkclljaaDoor


/-
  slices.Backward at []int: an iterator over a list from its end.
-/

namespace Go.Proofs.YtichenjbkclljaaDoor
set_option maxRecDepth 100000
open Go.RowKit Go.Shelf
attribute [local go_sem] Oper.semAt_some

theorem arg_kept' {w w' : World} {B n c : Nat} {A : Option Addr} {zs : List Int} (h : Arg w B A n c zs) (hs : w.heap.size ≤ w'.heap.size) (hk : ∀ k, k < B → w'.heap[k]? = w.heap[k]?) : Arg w' B A n c zs :=
  ⟨h.reads.keep fun p hp => by unfold World.cell?; rw [hk p.block hp], Nat.le_trans h.under hs, h.le, h.cap, h.small, h.nil⟩
theorem back_made (A : Option Addr) (n c : Nat) (w : World) :
    Calls Tryd.prog 37 #[.slice A n c] w fun e w' => e = .returned (.func (.func 67) #[] #[.pointer (some ⟨w.heap.size, 0, none⟩)]) ∧ w' = w.alloc (.cells #[.slice A n c] 24) := by
  go_enter Tryd.func37, Tryd.ntmps37
  go_wp2
  go_ret
  exact ⟨rfl, rfl⟩
set_option maxRecDepth 100000 in
set_option maxHeartbeats 2000000 in
theorem back_tell (A : Option Addr) (n c B : Nat) (zs : List Int) (P : Nat → Prop) (bp N : Nat) (w : World) (h : Arg w B A n c zs) (hbp : Boxed w bp 24 (.slice A n c)) (hP : (∀ k, k < B → P k) ∧ P bp) (m : Nat) (hN : zs.length ≤ N) :
    TellsZ Fence.wide m Tryd.prog 67 #[.pointer (some ⟨bp, 0, none⟩)] 0 (fun x : Int × Int => #[.int .i64 x.1, .int .i64 x.2]) (fun _ x _ => x.2 ∈ zs) (Keep P) (fun xs => xs.map (·.2) = zs.reverse) (fun _ => True) N w := by
  intro l J Jx W hW hsz hJ hJx hY h0
  change CallsIn Fence.wide m Tryd.prog 67 #[.func (.yield l) #[] #[], .pointer (some ⟨bp, 0, none⟩)] W _
  have hle := h.le
  have hl := h.len
  have hA := h.below hW
  have hB := boxed_later hbp hW
  have hcW := Boxed.cell hB
  have hwn : IntKind.i64.wrap ((n : Int) - 1) = (n : Int) - 1 := by rw [IntKind.wrap_i64]; omega
  have HY := hide hY
  have HP := hide hP
  have HL := hide hl
  have HZ := hide hsz
  refine callsIn_of_wp Tryd.func67 rfl trivial ?_ rfl
  simp only [Tryd.ntmps67, List.size_toArray, List.length_cons, List.length_nil, Nat.reduceAdd, Nat.reduceSub, Array.replicate_succ, Array.replicate_zero, List.push_toArray, List.append_toArray, List.nil_append, List.cons_append]
  clear hJ hJx hY h hbp hP hl hsz hW
  gi_wp2
  gi_loopw [3] (fun i wr => ∃ (r : Nat) (pre : List (Int × Int)), r ≤ n ∧ i = .int .i64 ((r : Int) - 1) ∧ pre.map (·.2) = (zs.drop r).reverse ∧ J pre wr ∧ Arg wr B A n c zs ∧ Boxed wr bp 24 (.slice A n c) ∧ W.heap.size ≤ wr.heap.size) (fun i _ => (intOf i + 1).toNat)
  case atStart => exact ⟨n, [], Nat.le_refl _, rfl, by rw [List.drop_of_length_le (Nat.le_of_eq (unhide HL))]; rfl, h0, hA, hB, Nat.le_refl _⟩
  case round =>
    obtain ⟨r, pre, hr, rfl, hpre, hj, hAr, hBr, hs⟩ := hrel
    clear h0 hA hB hcW
    by_cases h0 : r = 0
    · subst h0
      have hneg : ¬ ((0 : Int) ≤ ((0 : Nat) : Int) - 1) := by omega
      rw [List.drop_zero] at hpre
      have HPRE := hide hpre
      clear hpre
      gi_wp2
      go_end0
      exact ⟨⟨_, rfl⟩, .inl ⟨pre, unhide HPRE, hj⟩⟩
    · obtain ⟨k, rfl⟩ : ∃ k, r = k + 1 := ⟨r - 1, by omega⟩
      have e1 : (((k + 1 : Nat) : Int) - 1) = (k : Int) := by omega
      rw [e1]
      obtain ⟨ad, u, rfl, _, hu, hc⟩ := hAr.reads.at_ (show k < n by omega)
      obtain ⟨z, hz, rfl⟩ := i64_at hu
      have hcell := hBr.cell
      have hlen : pre.length < N := by
        have h1 := congrArg List.length hpre
        rw [List.length_map, List.length_reverse, List.length_drop] at h1
        have := unhide HL
        omega
      obtain ⟨fn, tmps, assign, body, hy, hR⟩ := unhide HY pre ((k : Int), z) wr wr hj (by have := unhide HZ; omega) (Below.refl _ _) (List.mem_of_getElem? hz) hlen
      have hnext : (pre ++ [((k : Int), z)]).map (·.2) = (zs.drop k).reverse := by rw [List.map_append, hpre, rev_step hz]; rfl
      have hk0 : (0 : Int) ≤ (k : Int) := by omega
      have hkn : (k : Int) < (n : Int) := by omega
      have hwk : IntKind.i64.wrap ((k : Int) - 1) = (k : Int) - 1 := by rw [IntKind.wrap_i64]; omega
      have HN := hide (⟨hnext, hAr, hBr, hs⟩ : (pre ++ [((k : Int), z)]).map (·.2) = (zs.drop k).reverse ∧ Arg wr B (some ad) n c zs ∧ Boxed wr bp 24 (.slice (some ad) n c) ∧ W.heap.size ≤ wr.heap.size)
      dsimp only at hy hR
      clear hnext hAr hBr hs hpre hj e1 hu hz hlen HY h0
      gi_wp2_with fail
      refine And.intro (fun h => absurd h (by decide)) ?_
      refine hR.mono ?_
      rintro e V (⟨rfl, hj2, hk2⟩ | ⟨rfl, hx2, _⟩)
      · obtain ⟨hnext, hAr, hBr, hs⟩ := unhide HN
        have hP := unhide HP
        have hAr2 := arg_kept' hAr hk2.size fun i hi => hk2.block i (by have := hAr.under; omega) (hP.1 i hi)
        have hBr2 := hk2.boxed hBr hP.2
        have hs2 := Nat.le_trans hs hk2.size
        have HN2 := hide hnext
        clear hR hy hnext hAr hBr hs hP hk2 HN hcell hc
        gi_wp2
        go_roundw
        case rel => exact ⟨k, pre ++ [((k : Int), z)], by omega, by go_num, unhide HN2, hj2, hAr2, hBr2, hs2⟩
        case measure => simp [intOf]
      · clear hR hy HN hcell hc
        gi_wp2
        exact bodyPost_ret (results_none rfl _ _ _) rfl ⟨⟨_, rfl⟩, .inr ⟨_, trivial, hx2⟩⟩
end Go.Proofs.YtichenjbkclljaaDoor


/-
  impl.ReversePerm, by its contract.
-/

namespace Go.Proofs.YtichenjbkclljaaDoor
set_option maxRecDepth 100000
open Go.RowKit

/-- A row on which other numbers have been laid. -/
theorem Ints.laid {w : World} {B g n cap : Nat} {zs : List Int} (h : Ints w B (.slice (some ⟨g, 0, none⟩) n cap) zs) (ts : List Int) (hl : ts.length = zs.length) (k : Nat) :
    Ints (Sort.putRow (Value.int .i64) (Sort.ahead w k) g 0 ts.toArray) B (.slice (some ⟨g, 0, none⟩) n cap) ts ∧ w.grownBy (Sort.putRow (Value.int .i64) (Sort.ahead w k) g 0 ts.toArray) (some g) := by
  have hg := grownBy_sortedI (w := w) (g := g) (n := k) (os := #[]) ts.toArray
  rw [Sort.grow_empty] at hg
  refine ⟨?_, hg⟩
  have hn := h.len
  rcases h.2 with ⟨hv, _⟩ | ⟨g', cap', cur, e, hv, hb, hgg, hs, ht, he⟩
  · cases hv
  · injection hv with h1 h2 h3
    injection h1 with h1
    injection h1 with h1
    subst h1; subst h3
    have hh := heap_sortedI (w := w) (g := g) (n := k) (os := #[]) ts.toArray hgg
    rw [Sort.grow_empty] at hh
    refine ⟨by rw [i64_length], .inr ⟨g, cap, _, e, by rw [hl, ← hn], hb, hh, ⟨by omega, by unfold Sort.putCells; rw [Array.size_mapIdx]; omega⟩, ?_, he⟩⟩
    exact take_putCellsI cur ts (by omega)
theorem Ints.holds {w : World} {B g n cap : Nat} {zs : List Int} (h : Ints w B (.slice (some ⟨g, 0, none⟩) n cap) zs) : Sort.Holds (Value.int .i64) w g 0 zs.toArray := by
  rcases h.2 with ⟨hv, _⟩ | ⟨g', cap', cur, e, hv, hb, hgg, hs, ht, he⟩
  · cases hv
  · injection hv with h1 h2 h3
    injection h1 with h1
    injection h1 with h1
    subst h1
    exact holds_of_blockI hgg ht
set_option maxHeartbeats 400000 in
theorem irev_any (A : Option Addr) (n c B : Nat) (zs : List Int) (w : World) (h : Arg w B A n c zs) :
    Calls Tryd.prog 38 #[.slice A n c] w (GivesI w (revR zs)) := by
  obtain ⟨b, hb⟩ : ∃ b, isP zs = b := ⟨_, rfl⟩
  have H1 := hide (iisperm_any A n c B zs b hb w h.reads h.under h.le h.small)
  cases b with
  | false =>
    rw [revR_no hb]
    clear hb h
    go_enter Tryd.func38, Tryd.ntmps38
    go_wp2_with fail
    refine (unhide H1).mono ?_
    rintro e w1 ⟨rfl, hb⟩
    clear H1
    go_wp2
    go_ret
    exact GivesI.mk (v := .slice none 0 0) (Ints.nil _ _) hb
  | true =>
    rw [revR_yes hb]
    have h8 := isP_le hb
    have H2 := hide (fun w' (hb' : Below w.heap.size w w') => clone_any A n c B zs w' (h.below hb'))
    clear hb h
    go_enter Tryd.func38, Tryd.ntmps38
    go_wp2_with fail
    refine (unhide H1).mono ?_
    rintro e w1 ⟨rfl, hb⟩
    have H3 := hide (unhide H2 w1 hb)
    clear H1 H2
    go_wp2_with fail
    refine (unhide H3).mono ?_
    rintro e w2 ⟨A2, c2, rfl, own2, hb2⟩
    have hs := hb.size
    have hb3 := below_after hb hb2
    clear H3 hb hb2
    have own2 := own2.low hs
    rcases own2.2 with ⟨hv, h0⟩ | ⟨g, cap, cur, e, hv, hg, _⟩
    · injection hv with e1 e2 e3
      subst e1; subst e3
      obtain rfl := List.eq_nil_of_length_eq_zero h0
      have H4 := hide (Tryd.slices_Reverse_int_empty none 0 w2)
      clear h0 own2
      go_wp2_with fail
      refine (unhide H4).mono ?_
      rintro e w3 ⟨rfl, hw3⟩
      rw [hw3]
      clear hw3 H4
      go_wp2
      go_ret
      exact GivesI.mk (v := .slice none 0 0) (Ints.nil _ _) hb3
    · injection hv with e1 e2 e3
      subst e1; subst e3
      have H4 := hide (Tryd.slices_Reverse_int g 0 c2 zs w2 own2.holds (by omega))
      have L := hide (fun k => own2.laid zs.reverse (by rw [List.length_reverse]) k)
      have hB := hb3.size
      have hgs := own2.since
      clear own2
      go_wp2_with fail
      refine (unhide H4).mono ?_
      rintro e w3 ⟨rfl, k, hw3⟩
      obtain ⟨l1, l2⟩ := unhide L k
      rw [← hw3] at l1 l2
      have hb4 := hb3.grown l2 hB (fun q hq => hgs q (by rw [← hq]; rfl))
      clear hw3 H4 L hb3
      go_wp2
      go_ret
      exact GivesI.mk l1 hb4
end Go.Proofs.YtichenjbkclljaaDoor


/-
  impl.ReverseNear: a loop over the joined places from their end.
-/

namespace Go.Proofs.YtichenjbkclljaaDoor
set_option maxRecDepth 100000
open Go.RowKit Go.Shelf
attribute [local go_sem] Oper.semAt_some

theorem rev_sizes (q J : List Int) : (revQ q J).length ≤ 1048576 ∧ (revJJ q J).length ≤ 1048576 := by
  unfold revQ revJJ
  cases h : nearOK q J with
  | true =>
    obtain ⟨hq, hJ⟩ := nearOK_iff.1 h
    have h8 := isP_le hq
    have h9 := plOK_len hJ
    simp [plRev]; omega
  | false => simp
theorem own_but {W W' : World} {lo hi B n k : Nat} {e : TypeId} {v : Value} {xs : List Value} (h : W.ownsRow B e k v n xs) (hb : But lo hi W W') (hB : hi ≤ B) : W'.ownsRow B e k v n xs := by
  refine ⟨h.1, ?_⟩
  rcases h.2 with hn | ⟨g, cap, cur, rfl, hg, hgg, hr⟩
  · exact .inl hn
  · exact .inr ⟨g, cap, cur, rfl, hg, (hb.block g (Array.getElem?_eq_some_iff.1 hgg).1 (by omega)).trans hgg, hr⟩
theorem Whole.but {W W' : World} {lo hi b : Nat} {t : TypeId} {cs : Array Value} (h : Whole W b t cs) (hb : But lo hi W W') (hz : b < lo ∨ hi ≤ b) : Whole W' b t cs := (hb.block b h.lt hz).trans h
/-- The joined places of the reverse, as they come. -/
def backJ (n : Nat) (pre : List (Int × Int)) : List Int := pre.map fun x => (n : Int) - x.2
theorem backJ_snoc (n : Nat) (pre : List (Int × Int)) (x : Int × Int) : backJ n (pre ++ [x]) = backJ n pre ++ [(n : Int) - x.2] := by unfold backJ; rw [List.map_append]; rfl
theorem backJ_all {q J : List Int} {n : Nat} {xs : List (Int × Int)} (hl : q.length = n) (hok : nearOK q J = true) (h : xs.map (·.2) = J.reverse) : backJ n xs = plRev (q.length - 1) J := by
  rw [← revP_all hok, hl]
  unfold backJ revP
  rw [List.take_of_length_le (by rw [List.length_reverse]; exact Nat.le_refl _), ← h, List.map_map]
  rfl
/-- A code that ends by its end alone: what its panics would leave is not asked. -/
def onlyN (Q : Exit → Act → World → Prop) : Exit → Act → World → Prop
  | .normal, a, w => Q .normal a w
  | _, _, _ => False
theorem onlyN_in {F : Fence} {n : Nat} {P : Program} {c : Code} {Q : Exit → Act → World → Prop} {a : Act} {w : World} (h : c.wpIn F n P (onlyN Q) a w) : c.wpIn F n P Q a w :=
  wpIn_mono h fun e a w h => by cases e <;> first | exact h | exact h.elim
theorem own_slice {W : World} {B n k : Nat} {e : TypeId} {v : Value} {xs : List Value} (h : W.ownsRow B e k v n xs) : ∃ A c, v = .slice A n c := by
  rcases h.2 with ⟨rfl, rfl⟩ | ⟨g, cap, _, rfl, _⟩
  · exact ⟨_, _, rfl⟩
  · exact ⟨_, _, rfl⟩
set_option maxRecDepth 100000 in
set_option maxHeartbeats 4000000 in
theorem revn_yes (A P : Option Addr) (n c B m d B' : Nat) (q J : List Int) (w : World) (h : Arg w B A n c q) (h' : Arg w B' P m d J) (hok : nearOK q J = true) :
    Calls Tryd.prog 10 #[.agg #[.slice A n c, .slice P m d]] w (GivesNB w (revQ q J) (revJJ q J) true) := by
  obtain ⟨i0, hi, hz0, hz1, hz2⟩ := info_parts intInfo
  obtain ⟨hq, hJ⟩ := nearOK_iff.1 hok
  have hl := h.len
  have hl' := h'.len
  have hn8 : n ≤ 8 := by have := isP_le hq; omega
  have hm8 : m ≤ 8 := by have := plOK_len hJ; omega
  have hBu := h.under
  have hBu' := h'.under
  rw [show revQ q J = q.reverse by unfold revQ; rw [hok]; rfl, show revJJ q J = plRev (q.length - 1) J by unfold revJJ; rw [hok]; rfl]
  obtain ⟨w0, hw0⟩ : ∃ w0, w0 = (w.alloc (.cells #[.slice A n c, .slice P m d] 26)).alloc (.cells #[.slice none 0 0, .slice none 0 0] 26) := ⟨_, rfl⟩
  have b0 : Below w.heap.size w w0 := by rw [hw0]; exact ((Below.refl _ w).alloc (Nat.le_refl _) _).alloc (by simp) _
  have gx : Whole w0 w.heap.size 26 #[.slice A n c, .slice P m d] := by rw [hw0]; exact (Whole.new _ _ _).alloc _
  have gr : Whole w0 (w.heap.size + 1) 26 #[.slice none 0 0, .slice none 0 0] := by
    rw [hw0]
    have := Whole.new (w.alloc (.cells #[.slice A n c, .slice P m d] 26)) 26 #[.slice none 0 0, .slice none 0 0]
    rwa [World.size_alloc] at this
  have x0 := gx.cell 0
  have x1 := gx.cell 1
  simp only [List.getElem?_toArray, List.getElem?_cons_zero, List.getElem?_cons_succ] at x0 x1
  have H1 := hide (inear_any A P n c B m d B' q J w0 (h.below b0) (h'.below b0))
  rw [hok] at H1
  have H4 := hide (fun w2 => back_made P m d w2)
  have HT := hide (show ∀ w5, Below w.heap.size w w5 → ∀ bj, bj + 1 = w5.heap.size → w.heap.size < bj → TellsZ Fence.wide 3 Tryd.prog 67 #[.pointer (some ⟨w5.heap.size, 0, none⟩)] 0 (fun x : Int × Int => #[.int .i64 x.1, .int .i64 x.2]) (fun _ x _ => x.2 ∈ J)
      (Keep (fun k => k < bj + 4 ∧ k ≠ bj ∧ k ≠ bj + 2 ∧ k ≠ bj + 3)) (fun xs => xs.map (·.2) = J.reverse) (fun _ => True) m (w5.alloc (.cells #[.slice P m d] 24)) from fun w2 d2 bj hbj hlt => by
    have d3 : Below w2.heap.size w2 (w2.alloc (.cells #[.slice P m d] 24)) := (Below.refl _ w2).alloc (Nat.le_refl _) _
    exact back_tell P m d B' J _ w2.heap.size m _ (h'.below (below_after d2 d3)) (Boxed.new w2 _ _) ⟨fun k hk => by omega, by omega⟩ 3 (by omega))
  have HV := hide (show ∀ w2, Below w.heap.size w w2 → _ from fun w2 d2 => irev_any A n c B q w2 (h.below d2))
  rw [show revR q = q.reverse by unfold revR; rw [if_pos hq]] at HV
  have HJ := hide (show ∀ x ∈ J, 1 ≤ x ∧ x ≤ 8 from fun x hx => by have := hJ.1 x hx; omega)
  have HA := hide (fun (xs : List (Int × Int)) (h : xs.map (·.2) = J.reverse) => backJ_all (q := q) (n := n) hl hok h)
  refine (callsIn_wide (n := 4)).1 ?_
  refine callsIn_of_wp_marks Tryd.func10 rfl trivial ?_ rfl
  simp only [Tryd.ntmps10, List.size_toArray, List.length_cons, List.length_nil, Nat.reduceAdd, Nat.reduceSub, Array.replicate_succ, Array.replicate_zero, List.push_toArray, List.append_toArray, List.nil_append, List.cons_append]
  have HW0 := hide hw0
  have HL := hide hl
  rw [hw0] at x0 x1
  clear h h' hq hok hJ hBu hBu' hl' hl hw0
  gi_wp2_with fail
  rw [← unhide HW0]
  refine ⟨trivial, ?_⟩
  refine (callsIn_wide.2 (unhide H1)).mono ?_
  rintro e w1 ⟨rfl, d1⟩
  have d1' := below_after b0 d1
  have gx1 := gx.below d1 gx.lt
  have gr1 := gr.below d1 gr.lt
  obtain ⟨bj, hbj⟩ : ∃ b, b = w1.heap.size := ⟨_, rfl⟩
  have hbjw : w.heap.size + 1 < bj := by have := gr1.lt; omega
  obtain ⟨w2, hw2⟩ : ∃ w2, w2 = w1.alloc (.cells #[.slice none 0 0] 24) := ⟨_, rfl⟩
  have hs2 : w2.heap.size = bj + 1 := by rw [hw2]; simp [hbj]
  have b12 : Below w1.heap.size w1 w2 := by rw [hw2]; exact (Below.refl _ w1).alloc (Nat.le_refl _) _
  have d2 := below_after d1' b12
  have gx2 := gx1.below b12 gx1.lt
  have gr2 := gr1.below b12 gr1.lt
  have cj2 : Boxed w2 bj 24 (.slice none 0 0) := by rw [hw2, hbj]; exact Boxed.new w1 _ _
  have y1 := gx2.cell 1
  simp only [List.getElem?_toArray, List.getElem?_cons_zero, List.getElem?_cons_succ] at y1
  rw [hw2] at y1
  have HW2 := hide hw2
  have HG2 := hide (⟨d2, gx2, gr2, cj2, hs2⟩ : Below w.heap.size w w2 ∧ Whole w2 w.heap.size 26 #[.slice A n c, .slice P m d] ∧ Whole w2 (w.heap.size + 1) 26 #[.slice none 0 0, .slice none 0 0] ∧ Boxed w2 bj 24 (.slice none 0 0) ∧ w2.heap.size = bj + 1)
  have HBJ := hide hbj
  clear H1 HW0 x0 x1 gx gr b0 d1 d1' gx1 gr1 b12 d2 gx2 gr2 cj2 hs2 hw2 hbj
  gi_wp2_with fail
  refine ⟨trivial, ?_⟩
  refine (callsIn_wide.2 (unhide H4 _)).mono ?_
  rintro e w3 ⟨rfl, hw3⟩
  rw [← unhide HW2] at hw3
  obtain ⟨d2, gx2, gr2, cj2, hs2⟩ := unhide HG2
  have hseq := unhide HT w2 d2 bj hs2.symm (by omega)
  rw [← unhide HW2, ← unhide HBJ, hs2]
  rw [← hw3, hs2] at hseq
  have hs3 : w3.heap.size = bj + 2 := by rw [hw3]; simp [hs2]
  have b23 : Below w2.heap.size w2 w3 := by rw [hw3]; exact (Below.refl _ w2).alloc (Nat.le_refl _) _
  have cj3 : Boxed w3 bj 24 (.slice none 0 0) := by rw [hw3]; exact Boxed.alloc cj2 _
  have gx3 := gx2.below b23 gx2.lt
  have gr3 := gr2.below b23 gr2.lt
  have d3 : Below w.heap.size w w3 := below_after d2 b23
  clear H4 HT HW2 HBJ HG2 hw3 d2 gx2 gr2 cj2 hs2 b23 y1
  gi_wp2
  refine range_zone rfl (by decide) (gf := 67) (lb := #[.pointer (some ⟨bj + 1, 0, none⟩)]) rfl trivial (enters_of Tryd.func67 (by kernel_rfl) rfl)
    hseq (fun h k => h.trans k) (fun W r r' hd => Keep.putObj W (by omega) _) (fun _ => rfl) (fun U V x r r' hdU hdV h => h)
    (fun pre V => (∃ v, Boxed V bj 24 v ∧ V.ownsRow (bj + 4) 3 1 v pre.length (i64s (backJ n pre))) ∧ Whole V w.heap.size 26 #[.slice A n c, .slice P m d] ∧ Whole V (w.heap.size + 1) 26 #[.slice none 0 0, .slice none 0 0] ∧ Below w.heap.size w V ∧ bj + 2 ≤ V.heap.size)
    (fun _ _ _ => False)
    (fun pre U V h hb' => by
      obtain ⟨⟨v, h1, h2⟩, h3, h4, h5, h6⟩ := h
      exact ⟨⟨v, Boxed.but h1 hb' (by omega), own_but h2 hb' (by omega)⟩, Whole.but h3 hb' (by omega), Whole.but h4 hb' (by omega), h5.trans (hb'.below (by omega) (by omega)), Nat.le_trans h6 hb'.size⟩)
    (fun _ _ _ _ h _ => h)
    ⟨⟨_, cj3, World.ownsRow_nil _ _ _ _⟩, gx3, gr3, d3, by omega⟩
    (fun x => { tmps := #[.agg #[.slice A n c, .slice P m d], .pointer (some ⟨w.heap.size, 0, none⟩), .pointer (some ⟨w.heap.size + 1, 0, none⟩), .bool false, .pointer (some ⟨bj, 0, none⟩), undef, .int .i64 x.2, .agg #[.slice A n c, .slice P m d], .bool true, .bool false, undef, .pointer (some ⟨w.heap.size, 1, none⟩), .slice P m d, .func (.func 67) #[] #[.pointer (some ⟨bj + 1, 0, none⟩)], .int .i64 x.1, .int .i64 x.2, undef, undef, undef, undef, undef, undef, undef, undef, undef, undef, undef, undef, undef], defers := [] }) ?assign ?body ?done ?stop
  case assign =>
    intro l x W K hK
    gi_wp2
    exact hK
  case body =>
    rintro l pre ⟨i, z⟩ U W ⟨⟨v, hcU, hOU⟩, hxU, hrU, hBU, hsU⟩ hzU hbU hin hlen
    dsimp only at hin ⊢
    obtain ⟨k, hk⟩ : ∃ k, k = pre.length := ⟨_, rfl⟩
    rw [← hk] at hOU
    obtain ⟨Av, cv, rfl⟩ := own_slice hOU
    have hzr := unhide HJ z hin
    have hc := boxed_later hcU hbU
    have hO := own_below hOU hbU
    have hx := hxU.below hbU hxU.lt
    have hr := hrU.below hbU hrU.lt
    have hB := below_after hBU hbU
    have hsW : bj + 4 ≤ W.heap.size := by have := hbU.size; omega
    have hcell := hc.cell
    have hfz := hc.frozen
    have x0 := hx.cell 0
    simp only [List.getElem?_toArray, List.getElem?_cons_zero] at x0
    have hkm : k < 9 := by omega
    have hwz : IntKind.i64.wrap ((n : Int) - z) = (n : Int) - z := by rw [IntKind.wrap_i64]; omega
    have hd3 := d3.size
    have HEND := hide (show ∀ (g' cap' : Nat) (w1 : World), w1.ownsRow (bj + 4) 3 1 (.slice (some ⟨g', 0, none⟩) (k + 1) cap') (k + 1) (i64s (backJ n pre) ++ [.int .i64 ((n : Int) - z)]) → Below (bj + 4) W w1 →
        (∀ r, Desk w3.heap.size r W → Desk w3.heap.size r (w1.setCell ⟨bj, 0, none⟩ (.slice (some ⟨g', 0, none⟩) (k + 1) cap'))) ∧ Keep (fun k => k < bj + 4 ∧ k ≠ bj ∧ k ≠ bj + 2 ∧ k ≠ bj + 3) W (w1.setCell ⟨bj, 0, none⟩ (.slice (some ⟨g', 0, none⟩) (k + 1) cap')) ∧
        ((∃ v, Boxed (w1.setCell ⟨bj, 0, none⟩ (.slice (some ⟨g', 0, none⟩) (k + 1) cap')) bj 24 v ∧ (w1.setCell ⟨bj, 0, none⟩ (.slice (some ⟨g', 0, none⟩) (k + 1) cap')).ownsRow (bj + 4) 3 1 v (pre ++ [(i, z)]).length (i64s (backJ n (pre ++ [(i, z)])))) ∧ Whole (w1.setCell ⟨bj, 0, none⟩ (.slice (some ⟨g', 0, none⟩) (k + 1) cap')) w.heap.size 26 #[.slice A n c, .slice P m d] ∧ Whole (w1.setCell ⟨bj, 0, none⟩ (.slice (some ⟨g', 0, none⟩) (k + 1) cap')) (w.heap.size + 1) 26 #[.slice none 0 0, .slice none 0 0] ∧ Below w.heap.size w (w1.setCell ⟨bj, 0, none⟩ (.slice (some ⟨g', 0, none⟩) (k + 1) cap')) ∧ bj + 2 ≤ (w1.setCell ⟨bj, 0, none⟩ (.slice (some ⟨g', 0, none⟩) (k + 1) cap')).heap.size) from fun g' cap' w1 h1 h2 => by
      have hg := grownBy_setCell' w1 bj (.slice (some ⟨g', 0, none⟩) (k + 1) cap')
      have hsz := h2.size
      have hsz2 := hg.size
      have hblk : ∀ j, j < W.heap.size → j < bj + 4 → j ≠ bj → (w1.setCell ⟨bj, 0, none⟩ (.slice (some ⟨g', 0, none⟩) (k + 1) cap')).heap[j]? = W.heap[j]? := fun j h3 h4 h5 => (hg.block j (by omega) (by simp; omega)).trans (h2.block j h4)
      refine ⟨fun r hd => ⟨(hblk _ hd.lt (by omega) (by omega)).trans hd.rec_, (hblk _ (by have := hd.lt; omega) (by omega) (by omega)).trans hd.marks⟩, ⟨by omega, fun j h3 h4 => hblk j h3 (by omega) (by omega)⟩, ⟨_, Boxed.set _ ((h2.block bj (by omega)).trans hc), ?_⟩, (hblk _ hx.lt (by omega) (by omega)).trans hx, (hblk _ hr.lt (by omega) (by omega)).trans hr, ?_, by omega⟩
      · rw [backJ_snoc, ← i64_snoc, List.length_append, List.length_singleton, ← hk]
        exact own_past h1 (p := ⟨bj, 0, none⟩) (by show bj < bj + 4; omega) _
      · exact (hB.trans (h2.mono (by omega))).setCell (p := ⟨bj, 0, none⟩) (by show w.heap.size ≤ bj; omega) _)
    have HI0 := hide (⟨hi, hz0, hz1, hz2⟩ : Tryd.prog.info? 3 = some i0 ∧ i0.zero = some (.int .i64 0) ∧ i0.size = 1 ∧ i0.bytes = 8)
    clear hcU hOU hxU hrU hBU hsU hzU hbU hin hlen hk hc hx hr hB hseq d3 cj3 gx3 gr3 hs3
    gi_wp2_with (first
      | (gi_at_builtin; refine wpListIn_append_own _ rfl (.tmp 16) (.tmp 22) 24 rfl (bj + 4) 3 i0 (.int .i64 0) 1 8 Tryd.underlying24 (unhide HI0).1 (unhide HI0).2.1 (unhide HI0).2.2.1 (unhide HI0).2.2.2 rfl (by decide) _ k _ rfl (hO.alloc _) ⟨W.heap.size, 0, none⟩ 1 1 [.int .i64 ((n : Int) - z)] rfl rfl (cell_one_new _ _ _) (by simp [Value.oneCell']) (by unfold maxLen; omega) (by omega) (by simp; omega) ?_; intro v' w1 hO1 hg1 _; obtain ⟨g', cap', rfl⟩ := ownsRow_succ hO1; have hb1 : Below (bj + 4) W w1 := ((Below.refl (bj + 4) W).alloc hsW _).grown hg1 (by simp; omega) (fun k e => (hO.lt k e).1); have hcell1 := (hb1.cell (p := ⟨bj, 0, none⟩) (show bj < bj + 4 by omega)).trans hcell; have hfz1 := (hb1.frozen (p := ⟨bj, 0, none⟩) (show bj < bj + 4 by omega)).trans hfz; have hend := unhide HEND g' cap' w1 hO1 hb1))
    exact hend
  case done =>
    rintro ys W hS ⟨⟨v, hc, hO⟩, hx, hr, hB, hs⟩ hK
    have hje := unhide HA ys hS
    have hyl : ys.length = (plRev (q.length - 1) J).length := by rw [← hje]; simp [backJ]
    rw [hje, hyl] at hO
    obtain ⟨Av, cv, rfl⟩ := own_slice hO
    have hs3e := hs3
    rw [hs3] at hK ⊢
    have hlt3 : bj + 2 < W.heap.size := (Array.getElem?_eq_some_iff.1 hK).1
    have hO9 : ∀ k, (Value.slice Av (plRev (q.length - 1) J).length cv).ownBlock = some k → bj + 4 ≤ k ∧ k < W.heap.size := fun k hk => hO.lt k hk
    have hIJ : Ints W (bj + 4) (.slice Av (plRev (q.length - 1) J).length cv) (plRev (q.length - 1) J) := Ints.of_own hO
    have hcell := hc.cell
    have x0 := hx.cell 0
    simp only [List.getElem?_toArray, List.getElem?_cons_zero] at x0
    have HC := hide (unhide HV W.drew hB.drew)
    have HFIN := hide (show ∀ (A4 : Option Addr) (c4 : Nat) (w4 : World), Ints w4 W.drew.heap.size (.slice A4 q.length c4) q.reverse → Below W.drew.heap.size W.drew w4 →
        ((w4.setCell ⟨w.heap.size + 1, 0, none⟩ (.slice A4 q.length c4)).setCell ⟨w.heap.size + 1, 1, none⟩ (.slice Av (plRev (q.length - 1) J).length cv)).heap[bj + 2]? = some (.deferred (some [])) ∧ Whole (((w4.setCell ⟨w.heap.size + 1, 0, none⟩ (.slice A4 q.length c4)).setCell ⟨w.heap.size + 1, 1, none⟩ (.slice Av (plRev (q.length - 1) J).length cv)).putObj (bj + 2) (.deferred none)) (w.heap.size + 1) 26 #[.slice A4 q.length c4, .slice Av (plRev (q.length - 1) J).length cv] ∧
        GivesNB w q.reverse (plRev (q.length - 1) J) true (.returned (.tuple #[.agg #[.slice A4 q.length c4, .slice Av (plRev (q.length - 1) J).length cv], .bool true])) (((w4.setCell ⟨w.heap.size + 1, 0, none⟩ (.slice A4 q.length c4)).setCell ⟨w.heap.size + 1, 1, none⟩ (.slice Av (plRev (q.length - 1) J).length cv)).putObj (bj + 2) (.deferred none)) from fun A4 c4 w4 o4 d4 => by
      have hsz : W.heap.size ≤ w4.heap.size := d4.size
      have hr4 : Whole w4 (w.heap.size + 1) 26 #[.slice none 0 0, .slice none 0 0] := hr.below (show Below W.heap.size W w4 from (Below.drew (Below.refl _ W)).trans d4) hr.lt
      have hWe := (hr4.put 0 (.slice A4 q.length c4)).put 1 (.slice Av (plRev (q.length - 1) J).length cv)
      have hd4 : Below W.heap.size W w4 := (Below.drew (Below.refl _ W)).trans d4
      have o4' : Ints w4 W.heap.size (.slice A4 q.length c4) q.reverse := o4
      have hK4 : ((w4.setCell ⟨w.heap.size + 1, 0, none⟩ (.slice A4 q.length c4)).setCell ⟨w.heap.size + 1, 1, none⟩ (.slice Av (plRev (q.length - 1) J).length cv)).heap[bj + 2]? = some (.deferred (some [])) := by
        rw [Below.heap_setCell _ _ _ (bj + 2) (by simp; omega), Below.heap_setCell _ _ _ (bj + 2) (by simp; omega), hd4.block _ hlt3]
        exact hK
      have hbut : ∀ V : World, But (bj + 2) (bj + 3) V (V.putObj (bj + 2) (.deferred none)) := fun V => But.putObj V (Nat.le_refl _) (by omega) _
      refine ⟨hK4, Whole.but hWe (hbut _) (by omega), GivesNB.mk true ⟨?_, ?_, apart' o4'.since hIJ.until_ (Nat.le_refl _)⟩ ?_⟩
      · exact (((o4'.past (by show w.heap.size + 1 < _; omega) _).past (by show w.heap.size + 1 < _; omega) _).but (hbut _) (by omega)).low (by omega)
      · exact ((((hIJ.below hd4).past (by show w.heap.size + 1 < _; omega) _).past (by show w.heap.size + 1 < _; omega) _).but (hbut _) (by omega)).low (by omega)
      · refine Below.trans (((below_after hB hd4).setCell (p := ⟨w.heap.size + 1, 0, none⟩) (by show w.heap.size ≤ w.heap.size + 1; omega) _).setCell (p := ⟨w.heap.size + 1, 1, none⟩) (by show w.heap.size ≤ w.heap.size + 1; omega) _) ((Below.refl _ _).grown (grownBy_putObj' _ _ _) (by simp; have := hB.size; omega) (fun k e => by cases e; omega)))
    have HCC := hide (show ∀ w4, Below W.drew.heap.size W.drew w4 → w4.cell? ⟨bj, 0, none⟩ = some (.slice Av (plRev (q.length - 1) J).length cv) ∧ (∀ j, w4.frozen? ⟨w.heap.size + 1, j, none⟩ = false) ∧ w4.cell? ⟨w.heap.size + 1, 0, none⟩ = some (.slice none 0 0) ∧ w4.cell? ⟨w.heap.size + 1, 1, none⟩ = some (.slice none 0 0) ∧ w.heap.size + 1 < w4.heap.size from fun w4 d4 => by
      have hd4 : Below W.heap.size W w4 := (Below.drew (Below.refl _ W)).trans d4
      have hr4 := hr.below hd4 hr.lt
      have r0 := hr4.cell 0
      have r1 := hr4.cell 1
      simp only [List.getElem?_toArray, List.getElem?_cons_zero, List.getElem?_cons_succ] at r0 r1
      exact ⟨(boxed_later hc hd4).cell, fun j => hr4.frozen j, r0, r1, hr4.lt⟩)
    have x0' : W.drew.cell? ⟨w.heap.size, 0, none⟩ = some (.slice A n c) := x0
    have hcell' : W.drew.cell? ⟨bj, 0, none⟩ = some (.slice Av (plRev (q.length - 1) J).length cv) := hcell
    clear hc hO hx hr hB hs hseq d3 cj3 gx3 gr3 hs3 hs3e hje hyl hO9 hIJ hK hS HA HV x0 hcell
    gi_wp2_with fail
    refine onlyN_in ?_
    gi_region_with
      (first
        | (refine ⟨trivial, ?_⟩; gi_at_call 38; refine (callsIn_wide.2 (unhide HC)).mono ?_; rintro e w4 ⟨A4, c4, rfl, o4, d4⟩; obtain ⟨e1, e2, e3, e4, e5⟩ := unhide HCC w4 d4; have e20 := e2 0; have e21 := e2 1))
    all_goals simp only [onlyN]
    all_goals rw [List.length_reverse] at o4
    all_goals obtain ⟨hK4, hWe, hG⟩ := unhide HFIN A4 c4 w4 o4 d4
    all_goals gi_wp2
    all_goals refine ⟨by simp, .inl ⟨_, _, rfl, run_takeDeferred hK4, ?_⟩⟩
    all_goals exact ⟨_, results_near Tryd.results10 _ _ (w.heap.size + 1) 26 _ (0, 0) _ rfl hWe Tryd.underlying26 rfl nearInfo, hG⟩
  case stop =>
    rintro c pre W _ h _
    exact h.elim
set_option maxHeartbeats 800000 in
theorem irevn_any (A P : Option Addr) (n c B m d B' : Nat) (q J : List Int) (w : World) (h : Arg w B A n c q) (h' : Arg w B' P m d J) :
    Calls Tryd.prog 10 #[.agg #[.slice A n c, .slice P m d]] w (GivesNB w (revQ q J) (revJJ q J) (nearOK q J)) := by
  obtain ⟨b, hok⟩ : ∃ b, nearOK q J = b := ⟨_, rfl⟩
  cases b with
  | true => rw [hok]; exact revn_yes A P n c B m d B' q J w h h' hok
  | false =>
    rw [show revQ q J = [] by unfold revQ; rw [hok]; rfl, show revJJ q J = [] by unfold revJJ; rw [hok]; rfl, hok]
    obtain ⟨w0, hw0⟩ : ∃ w0, w0 = (w.alloc (.cells #[.slice A n c, .slice P m d] 26)).alloc (.cells #[.slice none 0 0, .slice none 0 0] 26) := ⟨_, rfl⟩
    have b0 : Below w.heap.size w w0 := by rw [hw0]; exact ((Below.refl _ w).alloc (Nat.le_refl _) _).alloc (by simp) _
    have gx : Whole w0 w.heap.size 26 #[.slice A n c, .slice P m d] := by rw [hw0]; exact (Whole.new _ _ _).alloc _
    have gr : Whole w0 (w.heap.size + 1) 26 #[.slice none 0 0, .slice none 0 0] := by
      rw [hw0]
      have := Whole.new (w.alloc (.cells #[.slice A n c, .slice P m d] 26)) 26 #[.slice none 0 0, .slice none 0 0]
      rwa [World.size_alloc] at this
    have x0 := gx.cell 0
    have x1 := gx.cell 1
    simp only [List.getElem?_toArray, List.getElem?_cons_zero, List.getElem?_cons_succ] at x0 x1
    have H1 := hide (inear_any A P n c B m d B' q J w0 (h.below b0) (h'.below b0))
    rw [hok] at H1
    have HW0 := hide hw0
    have HGR := hide gr
    rw [hw0] at x0 x1
    clear h h' hok hw0 gx gr
    go_enter Tryd.func10, Tryd.ntmps10
    go_wp2_with fail
    rw [← unhide HW0]
    refine (unhide H1).mono ?_
    rintro e w1 ⟨rfl, d1⟩
    have hR := (unhide HGR).below d1 (unhide HGR).lt
    have hB := below_after b0 d1
    have r0 := hR.cell 0
    have r1 := hR.cell 1
    have g0 := hR.frozen 0
    have g1 := hR.frozen 1
    have hltr := hR.lt
    simp only [List.getElem?_toArray, List.getElem?_cons_zero, List.getElem?_cons_succ] at r0 r1
    have HN := hide (⟨hR, hB⟩ : Whole w1 (w.heap.size + 1) 26 #[.slice none 0 0, .slice none 0 0] ∧ Below w.heap.size w w1)
    clear H1 HW0 HGR b0 d1 hR hB x0 x1
    go_wp2_with fail
    obtain ⟨hR, hB⟩ := unhide HN
    have hWe := (hR.put 0 (.slice none 0 0)).put 1 (.slice none 0 0)
    refine bodyPost_ret (v := .tuple #[.agg #[.slice none 0 0, .slice none 0 0], .bool false]) (results_near Tryd.results10 _ _ (w.heap.size + 1) 26 _ (0, 0) _ rfl hWe Tryd.underlying26 rfl nearInfo) rfl ?_
    exact GivesNB.mk false (NearAt.none_ _ _) ((hB.setCell (p := ⟨w.heap.size + 1, 0, none⟩) (Nat.le_succ _) _).setCell (p := ⟨w.heap.size + 1, 1, none⟩) (Nat.le_succ _) _)
end Go.Proofs.YtichenjbkclljaaDoor


/-
  laws.big, by its contract.
-/

namespace Go.Proofs.YtichenjbkclljaaDoor
set_option maxRecDepth 100000
open Go.RowKit
theorem big_any (A : Option Addr) (n c : Nat) (hn : n ≤ 9223372036854775807) (w : World) :
    Calls Tryd.prog 4 #[.slice A n c] w fun e w' => e = .returned (.bool (decide (1048576 < n))) ∧ w = w' := by
  go_enter Tryd.func4, Tryd.ntmps4
  go_wp2
  go_ret
  exact ⟨ret_bool (by simp; omega), rfl⟩
end Go.Proofs.YtichenjbkclljaaDoor


/-
  One world in which the tables of unicode/utf8 are laid (for the witness), where the row lists no table of strconv.
-/

namespace Go.Proofs.YtichenjbkclljaaDoor
set_option maxRecDepth 100000
open Go.ChangeShapes Go.WideShapes Go.ChangeAt Go.RowKit

def onCells (cs : Array Value) : Obj → Obj
  | .cells _ t frozen => .cells cs t frozen
  | o => o
/-- A datum as cells, one after the other. -/
noncomputable def flat1 : DataW Unit → List Value
  | .lit (.int k z) => [.int k z]
  | _ => []
noncomputable def flat2 : DataW Unit → List Value
  | .lit (.int k z) => [.int k z]
  | .agg xs => xs.flatMap flat1
  | _ => []
noncomputable def flat : DataW Unit → List Value
  | .agg xs => xs.flatMap flat2
  | _ => []
noncomputable def laidWorldS (os : Os) : World :=
  { World.holding Tryd.prog os ⟨#[], #[], []⟩ with heap := ((World.holding Tryd.prog os ⟨#[], #[], []⟩).heap.modify 2 (onCells (flat Rows.laid_unicode_utf8_acceptRanges).toArray)).modify 1 (onCells (flat Rows.laid_unicode_utf8_first).toArray) }
end Go.Proofs.YtichenjbkclljaaDoor
