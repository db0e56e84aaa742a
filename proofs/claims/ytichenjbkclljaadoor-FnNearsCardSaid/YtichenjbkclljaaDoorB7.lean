/-
  Words and contracts that the laws lean on, bundled: TxtM, TxtS, Draw8, SplitM, ParM, RunS, PPerm, ParS, NearF.
-/
import Derived.Test.YtichenjbkclljaaDoorB6
import Derived.Test.YtichenjbkclljaaDoorB3
import Derived.Test.YtichenjbkclljaaDoorB4
import Derived.Deep.RegionLaw
import Derived.Lib.Split
import Derived.Lib.SplitLaws
import Derived.Lib.IndexBytes
import Derived.Lib.Join
import Derived.Test.YtichenjbkclljaaDoorB1
import Derived.Test.YtichenjbkclljaaDoorB5
import Derived.Test.YtichenjbkclljaaDoorB2

/-
  PLAIN: the bytes of a text with gaps put between them. Nothing here speaks of the program.
-/

namespace Go.Proofs.YtichenjbkclljaaDoor
set_option maxRecDepth 100000

/-- The first k bytes with a gap ahead of each whose place is not joined. -/
def gapB (J : List Int) (L : List UInt8) : Nat → List UInt8
  | 0 => []
  | k + 1 => gapB J L k ++ ((if 0 < k ∧ ¬ (k : Int) ∈ J then [95] else []) ++ [L.getD k 0])
theorem gapB_len (J : List Int) (L : List UInt8) : ∀ k, (gapB J L k).length ≤ 2 * k
  | 0 => Nat.le_refl _
  | k + 1 => by
    have := gapB_len J L k
    rw [gapB]; split <;> simp <;> omega
theorem gapB_yes {J : List Int} {L : List UInt8} {k : Nat} {b : UInt8} (hb : L[k]? = some b) (h : 0 < k ∧ ¬ (k : Int) ∈ J) : gapB J L (k + 1) = (gapB J L k ++ [95]) ++ [b] := by
  rw [gapB, if_pos h, List.getD_eq_getElem?_getD, hb, List.append_assoc]; rfl
theorem gapB_no {J : List Int} {L : List UInt8} {k : Nat} {b : UInt8} (hb : L[k]? = some b) (h : ¬ (0 < k ∧ ¬ (k : Int) ∈ J)) : gapB J L (k + 1) = gapB J L k ++ [b] := by
  rw [gapB, if_neg h, List.getD_eq_getElem?_getD, hb, List.nil_append]; rfl
theorem gapB_near (q J : List Int) : ∀ k, k ≤ q.length → gapB J (textL q) k = nearB q J k
  | 0, _ => rfl
  | k + 1, h => by
    have h1 : (textL q)[k]? = some (dgt (at0 q k)) := by unfold textL; rw [List.getElem?_map, at0_some (by omega)]; rfl
    rw [gapB, nearB, gapB_near q J k (by omega), List.getD_eq_getElem?_getD, h1]
    rfl
/-- The bytes of a permutation's text. -/
def ptextL (q : List Int) : List UInt8 := if q = [] then [45] else textL q
theorem ptext_list {q : List Int} (h : isP q = true) : ptext q = ⟨(ptextL q).toArray⟩ := by
  unfold ptextL
  by_cases h0 : q = []
  · rw [if_pos h0, ptext_nil h (by rw [h0]; rfl)]
  · rw [if_neg h0, ptext_yes h (fun e => h0 (List.eq_nil_of_length_eq_zero e))]
theorem ptextL_len {q : List Int} (h : isP q = true) : 1 ≤ (ptextL q).length ∧ (ptextL q).length ≤ 8 := by
  unfold ptextL
  have := isP_le h
  by_cases h0 : q = []
  · rw [if_pos h0]; simp
  · rw [if_neg h0, textL_length]
    have : q.length ≠ 0 := fun e => h0 (List.eq_nil_of_length_eq_zero e)
    omega
theorem gapB_text {q J : List Int} (h : nearOK q J = true) : ByteArray.mk (gapB J (ptextL q) (ptextL q).length).toArray = ntext q J := by
  unfold ptextL
  by_cases h0 : q = []
  · subst h0
    rw [if_pos rfl, ntext_nil h rfl]
    rfl
  · rw [if_neg h0, ntext_yes h (fun e => h0 (List.eq_nil_of_length_eq_zero e)), textL_length, gapB_near q J _ (Nat.le_refl _)]
end Go.Proofs.YtichenjbkclljaaDoor


/-
  spec.NearText, by its contract.
-/

namespace Go.Proofs.YtichenjbkclljaaDoor
set_option maxRecDepth 100000
open Go.RowKit

theorem nearB_yes {q J : List Int} {k : Nat} (h : 0 < k ∧ ¬ (k : Int) ∈ J) : nearB q J (k + 1) = (nearB q J k ++ [95]) ++ [dgt (at0 q k)] := by rw [nearB, if_pos h, List.append_assoc]
theorem nearB_no {q J : List Int} {k : Nat} (h : ¬ (0 < k ∧ ¬ (k : Int) ∈ J)) : nearB q J (k + 1) = nearB q J k ++ [dgt (at0 q k)] := by rw [nearB, if_neg h, List.nil_append]
set_option maxHeartbeats 1600000 in
theorem sntxt_any (A P : Option Addr) (n c B m d B' : Nat) (q J : List Int) (w : World) (h : Arg w B A n c q) (h' : Arg w B' P m d J) :
    Calls Tryd.prog 20 #[.agg #[.slice A n c, .slice P m d]] w (GivesS w (ntext q J)) := by
  obtain ⟨b, hok⟩ : ∃ b, nearOK q J = b := ⟨_, rfl⟩
  obtain ⟨w0, hw0⟩ : ∃ w0, w0 = w.alloc (.cells #[.slice A n c, .slice P m d] 26) := ⟨_, rfl⟩
  have b0 : Below w.heap.size w w0 := by rw [hw0]; exact (Below.refl _ w).alloc (Nat.le_refl _) _
  have g0 : Whole w0 w.heap.size 26 #[.slice A n c, .slice P m d] := by rw [hw0]; exact Whole.new _ _ _
  have H1 := hide (snear_any A P n c B m d B' q J w0 (h.below b0) (h'.below b0))
  rw [hok] at H1
  have x0 := g0.cell 0
  have x1 := g0.cell 1
  simp only [List.getElem?_toArray, List.getElem?_cons_zero, List.getElem?_cons_succ] at x0 x1
  cases b with
  | false =>
    rw [ntext_no hok]
    have HW0 := hide hw0
    clear h h' hok g0
    rw [hw0] at x0 x1
    clear hw0
    go_enter Tryd.func20, Tryd.ntmps20
    go_wp2_with fail
    rw [← unhide HW0]
    refine (unhide H1).mono ?_
    rintro e w1 ⟨rfl, d1⟩
    have d := below_after b0 d1
    clear H1 HW0 b0 d1
    go_wp2
    go_ret
    exact ⟨rfl, d⟩
  | true =>
    obtain ⟨hq, hJ⟩ := nearOK_iff.1 hok
    have hl := h.len
    by_cases h0 : n = 0
    · subst h0
      rw [ntext_nil hok hl]
      have HW0 := hide hw0
      have G0 := hide g0
      clear h h' hok g0 hq hJ hl
      rw [hw0] at x0 x1
      clear hw0
      go_enter Tryd.func20, Tryd.ntmps20
      go_wp2_with fail
      rw [← unhide HW0]
      refine (unhide H1).mono ?_
      rintro e w1 ⟨rfl, d1⟩
      have d := below_after b0 d1
      have y0 := ((unhide G0).below d1 (unhide G0).lt).cell 0
      simp only [List.getElem?_toArray, List.getElem?_cons_zero] at y0
      clear H1 HW0 b0 d1 x0 x1 G0
      go_wp2
      go_ret
      exact ⟨rfl, d⟩
    · rw [ntext_yes hok (by omega)]
      have hn8 : n ≤ 8 := by have := isP_le hq; omega
      have HP := hide (fun k z hz => isP_range hq (k := k) (z := z) hz)
      have HL := hide hl
      have h0' : ((n : Int) == 0) = false := by simp; omega
      have HW0 := hide hw0
      have G0 := hide g0
      have HU := hide (⟨h.under, h'.under, b0.size⟩ : B ≤ w.heap.size ∧ B' ≤ w.heap.size ∧ w.heap.size ≤ w0.heap.size)
      have hr := (h.below b0).reads
      have hr' := (h'.below b0).reads
      have hm := h'.le
      clear h h' hok g0 hq hJ hl
      rw [hw0] at x0 x1
      clear hw0
      go_enter Tryd.func20, Tryd.ntmps20
      go_wp2_with fail
      rw [← unhide HW0]
      refine (unhide H1).mono ?_
      rintro e w1 ⟨rfl, d1⟩
      have dd := below_after b0 d1
      have g1 := (unhide G0).below d1 (unhide G0).lt
      have c0' := g1.cell 0
      have c1' := g1.cell 1
      have hg1 := g1.lt
      simp only [List.getElem?_toArray, List.getElem?_cons_zero, List.getElem?_cons_succ] at c0' c1'
      have hr1 := hr.below (d1.mono (by have := unhide HU; omega))
      have hr1' := hr'.below (d1.mono (by have := unhide HU; omega))
      have hu1 : B ≤ w1.heap.size ∧ B' ≤ w1.heap.size := by have := unhide HU; have := d1.size; omega
      have HU1 := hide hu1
      clear H1 HW0 b0 d1 x0 x1 G0 hr hr' HU g1 hu1
      go_wp2
      go_loopw [3, 4] (fun o i wr => ∃ k : Nat, k ≤ n ∧ i = .int .i64 k ∧ o = .string ⟨(nearB q J k).toArray⟩ ∧ Below w1.heap.size w1 wr) (fun _ i _ => n - (intOf i).toNat)
      case atStart => exact ⟨0, Nat.zero_le _, rfl, rfl, Below.refl _ _⟩
      case round =>
        obtain ⟨k, hk, rfl, rfl, hb⟩ := hrel
        have htl : (nearB q J k).length ≤ 16 := by have := nearB_len q J k; omega
        have c0 := (hb.cell (p := ⟨w.heap.size, 0, none⟩) hg1).trans c0'
        have c1 := (hb.cell (p := ⟨w.heap.size, 1, none⟩) hg1).trans c1'
        by_cases hlt : k < n
        · obtain ⟨ad, u, rfl, had, hu, hc⟩ := (hr1.below (hb.mono (unhide HU1).1)).at_ hlt
          obtain ⟨z, hz, rfl⟩ := i64_at hu
          obtain ⟨hz1, hz2⟩ := unhide HP k z hz
          rw [unhide HL] at hz2
          have hz8 : z ≤ 8 := by omega
          have H2 := hide (fun w' => fmt1_any z hz1 hz8 w')
          have ez : at0 q k = z := at0_of hz
          have hr2 := hr1'.below (hb.mono (unhide HU1).2)
          by_cases hins : 0 < k ∧ ¬ (k : Int) ∈ J
          · have hst := nearB_yes (q := q) hins
            rw [ez] at hst
            have HST := hide hst
            have HC := hide (l2has_any P m d B' J (k : Int) false (decide_eq_false hins.2) wr hr2 (by omega))
            have hk0 : (0 : Int) < (k : Int) := by have := hins.1; omega
            clear hst hins hu hz ez hr1 hr1' hr2 hz1 hz2 hz8
            go_wp2_with fail
            refine (unhide HC).mono ?_
            rintro e w5 ⟨rfl, hw5⟩
            subst hw5
            clear HC
            go_wp2_with fail
            refine (unhide H2 _).mono ?_
            rintro e w2 ⟨rfl, hb2⟩
            have hb3 := below_after hb hb2
            clear H2 hb2 hb c0 c1 hc
            go_wp2
            go_roundw
            case rel => exact ⟨k + 1, by omega, by go_num, str_eq (by rw [unhide HST, ← cat_list, ← cat_list]), hb3⟩
            case measure => simp [intOf]; omega
          · have hst := nearB_no (q := q) hins
            rw [ez] at hst
            have HST := hide hst
            by_cases hk00 : k = 0
            · subst hk00
              have hc0 : wr.cell? ad = some (.int .i64 z) := by rw [show ad = ad.add 0 by unfold Addr.add; split <;> simp_all]; exact hc
              clear hst hins hu hz ez hr1 hr1' hr2 hz1 hz2 hz8
              go_wp2_with fail
              refine (unhide H2 _).mono ?_
              rintro e w2 ⟨rfl, hb2⟩
              have hb3 := below_after hb hb2
              clear H2 hb2 hb c0 c1 hc hc0
              go_wp2
              go_roundw
              case rel => exact ⟨0 + 1, by omega, by go_num, str_eq (by rw [unhide HST, ← cat_list]), hb3⟩
              case measure => simp [intOf]; omega
            · have hin : (k : Int) ∈ J := by
                by_cases hi : (k : Int) ∈ J
                · exact hi
                · exact absurd ⟨by omega, hi⟩ hins
              have hk0 : (0 : Int) < (k : Int) := by omega
              have HC := hide (l2has_any P m d B' J (k : Int) true (decide_eq_true hin) wr hr2 (by omega))
              clear hst hins hu hz ez hr1 hr1' hr2 hz1 hz2 hz8 hin hk00
              go_wp2_with fail
              refine (unhide HC).mono ?_
              rintro e w5 ⟨rfl, hw5⟩
              subst hw5
              clear HC
              go_wp2_with fail
              refine (unhide H2 _).mono ?_
              rintro e w2 ⟨rfl, hb2⟩
              have hb3 := below_after hb hb2
              clear H2 hb2 hb c0 c1 hc
              go_wp2
              go_roundw
              case rel => exact ⟨k + 1, by omega, by go_num, str_eq (by rw [unhide HST, ← cat_list]), hb3⟩
              case measure => simp [intOf]; omega
        · obtain rfl : n = k := by omega
          have hend := dd.trans (hb.mono dd.size)
          have e := unhide HL
          clear hb hr1 hr1' dd
          go_wp2
          go_ret
          exact ⟨ret_str (by rw [e]), hend⟩
end Go.Proofs.YtichenjbkclljaaDoor


/-
  THE DRAWS OF CHAPTER 8: spec.l8Draw, spec.DrawCountNear, spec.DrawParseNear, spec.DrawConsecutiveOf, by their contracts.
-/

namespace Go.Proofs.YtichenjbkclljaaDoor
set_option maxRecDepth 100000
open Go.RowKit

/-- A drawn struct of two short rows. -/
def DrawnN (B cb : Nat) (w : World) (e : Ending) (w' : World) : Prop :=
  ∃ A c P d q J, e = .returned (.agg #[.slice A q.length c, .slice P J.length d]) ∧ Lite 9 q ∧ Lite 9 J ∧ NearAt w' w.heap.size (.slice A q.length c) (.slice P J.length d) q J ∧ Cur w' B cb ∧ w.grownBy w' (some cb)
/-- What stands while it is drawn. -/
structure At8 (w : World) (B cb g : Nat) (A : Option Addr) (c : Nat) (q : List Int) (P : Option Addr) (d : Nat) (J : List Int) (wr : World) : Prop where
  x : Whole wr g 26 #[.slice A q.length c, .slice P J.length d]
  o : wr.ownsRow (g + 1) 3 1 (.slice P J.length d) J.length (i64s J)
  r : Whole wr w.heap.size 26 #[.slice none 0 0, .slice none 0 0]
  p : Ints wr (w.heap.size + 1) (.slice A q.length c) q
  u : Until g (.slice A q.length c)
  s : Side B cb w wr
  g : w.heap.size < g
section
variable {w wr w' : World} {B cb g c d : Nat} {A P : Option Addr} {q J : List Int}
theorem At8.drawn (h : At8 w B cb g A c q P d J wr) (hc : Cur w' B cb) (hg : wr.grownBy w' (some cb)) : At8 w B cb g A c q P d J w' := by
  have h1 := h.s.lt
  have h2 := h.g
  exact ⟨h.x.grown hg (fun e => by injection e with e; omega), own_drawn h.o hg (by omega), h.r.grown hg (fun e => by injection e with e; omega), h.p.drawn hg (by omega), h.u, h.s.drawn hc hg, h.g⟩
theorem At8.push {P' : Option Addr} {d' : Nat} {z : Int} (h : At8 w B cb g A c q P d J wr) (hb : Below (g + 1) wr w') (ho : w'.ownsRow (g + 1) 3 1 (.slice P' (J.length + 1) d') (J.length + 1) (i64s (J ++ [z]))) :
    At8 w B cb g A c q P' d' (J ++ [z]) (w'.setCell ⟨g, 1, none⟩ (.slice P' (J.length + 1) d')) := by
  have h2 := h.g
  have hl : (J ++ [z]).length = J.length + 1 := by simp
  refine ⟨?_, ?_, ?_, ?_, h.u, ?_, h.g⟩
  · rw [hl]; exact (h.x.below hb (Nat.lt_succ_self g)).put 1 (.slice P' (J.length + 1) d')
  · rw [hl]; exact own_past ho (p := ⟨g, 1, none⟩) (Nat.lt_succ_self g) _
  · exact (h.r.below hb (by omega)).far (p := ⟨g, 1, none⟩) (by simp; omega) _
  · exact (ints_under h.p h.u hb).kept (grownBy_setCellA w' ⟨g, 1, none⟩ (.slice P' (J.length + 1) d')) (away_block h.u)
  · exact h.s.low ((hb.mono (by omega)).setCell (p := ⟨g, 1, none⟩) (by show w.heap.size ≤ g; omega) _)
theorem At8.done (h : At8 w B cb g A c q P d J wr) (hq : Lite 9 q) (hJ : Lite 9 J) : DrawnN B cb w (.returned (.agg #[.slice A q.length c, .slice P J.length d])) ((wr.setCell ⟨w.heap.size, 0, none⟩ (.slice A q.length c)).setCell ⟨w.heap.size, 1, none⟩ (.slice P J.length d)) := by
  have h2 := h.g
  have hI : Ints wr (g + 1) (.slice P J.length d) J := Ints.of_own h.o
  have hS := h.s.low (((Below.refl w.heap.size wr).setCell (p := ⟨w.heap.size, 0, none⟩) (Nat.le_refl _) (.slice A q.length c)).setCell (p := ⟨w.heap.size, 1, none⟩) (Nat.le_refl _) (.slice P J.length d))
  refine ⟨A, c, P, d, q, J, rfl, hq, hJ, ⟨?_, ?_, apart h.u hI.since (by omega)⟩, hS.cur, hS.gr⟩
  · exact ((h.p.past (by show w.heap.size < _; omega) _).past (by show w.heap.size < _; omega) _).low (by omega)
  · exact ((hI.past (by show w.heap.size < _; omega) _).past (by show w.heap.size < _; omega) _).low (by omega)
end
/-- 'append(s, z)' at a step of a region that has drawn its order ahead of the new block. -/
theorem step_append_one0 {ops : Array Oper} {o : Oper} {a : Act} {W : World} {K : Act → World → Prop} {Q : Exit → Act → World → Prop} {E : Prop} (hgd : o.guard = none) (s x : Operand)
    (ho : o.op = .call { callee := .builtin .append, args := #[s, x], argTypes := #[24, 24] })
    (base m : Nat) (w0 wr : World) (v : Value) (xs : List Int) (z : Int) (hs : a.eval s = v) (hx : a.eval x = .slice (some ⟨wr.heap.size, 0, none⟩) 1 1) (hW : W = wr.alloc (.cells #[.int .i64 z] 3)) (hown : wr.ownsRow base 3 1 v m (i64s xs))
    (hz : -9223372036854775808 ≤ z ∧ z ≤ 9223372036854775807) (hm : m ≤ 1099511627776) (hb : Below base w0 wr) (hbase : base ≤ wr.heap.size)
    (hK : ∀ v' w', w'.ownsRow base 3 1 v' (m + 1) (i64s (xs ++ [z])) → Below base w0 w' → K (a.put o.dst v') w') :
    if Region.wanted o (yielded ops a.tmps) = true then Oper.wp Tryd.prog o a W K Q else E := by
  subst hW
  have hal := (Below.refl wr.heap.size wr).alloc (Nat.le_refl _) (.cells #[.int .i64 z] 3)
  refine step_append_arg hgd s x ho base (wr.heap.size + 1) m 1 1 w0 v (some ⟨wr.heap.size, 0, none⟩) xs [z] hs hx (own_below hown hal) ?_ hm (hb.trans (hal.mono hbase)) (Nat.le_trans hbase hal.size) fun v' w' h1 h2 _ => hK v' w' h1 h2
  refine ⟨reads_new wr (.int .i64 z) 3, by simp, by omega, Nat.le_refl _, fun y hy => ?_, fun e => by cases e⟩
  rw [List.mem_singleton] at hy
  subst hy
  exact hz
theorem lite9 {zs : List Int} (hl : zs.length ≤ 9) (h : ∀ z ∈ zs, 0 ≤ z ∧ z ≤ 8) : Lite 9 zs := ⟨hl, fun z hz => by have := h z hz; omega⟩
set_option maxHeartbeats 800000 in
theorem l8draw_any (B cb : Nat) (w : World) (hc : Cur w B cb) : Calls Tryd.prog 26 #[.pointer (some ⟨cb, 0, none⟩)] w (DrawnN B cb w) := by
  obtain ⟨i0, hi, hz0, hz1, hz2⟩ := info_parts intInfo
  obtain ⟨w0, hw0⟩ : ∃ w0, w0 = w.alloc (.cells #[.slice none 0 0, .slice none 0 0] 26) := ⟨_, rfl⟩
  have hR0 : Whole w0 w.heap.size 26 #[.slice none 0 0, .slice none 0 0] := by rw [hw0]; exact Whole.new _ _ _
  have hs0 : w0.heap.size = w.heap.size + 1 := by rw [hw0]; simp
  have b0 : Below w.heap.size w w0 := by rw [hw0]; exact (Below.refl _ w).alloc (Nat.le_refl _) _
  have hal := (Below.refl w0.heap.size w0).alloc (Nat.le_refl _) (.cells ([0, 1, 2, 3, 3, 4].map (Value.int .i64)).toArray 3)
  have hS := ((Side.start hc).below b0).below hal
  have hcl := hc.lt
  have hne : w.heap.size + 1 ≠ cb := by omega
  have hblk : Blk (w0.alloc (.cells ([0, 1, 2, 3, 3, 4].map (Value.int .i64)).toArray 3)) (w.heap.size + 1) 3 ([0, 1, 2, 3, 3, 4].map (Value.int .i64)).toArray := by
    have := Blk.new w0 3 ([0, 1, 2, 3, 3, 4].map (Value.int .i64)).toArray
    rwa [hs0] at this
  have H1 := hide (pickInt_any B cb (w.heap.size + 1) 6 6 [0, 1, 2, 3, 3, 4] _ hS.cur hblk hne rfl (by omega) (by omega))
  have hR1 := hR0.below hal (by omega)
  simp only [List.map_cons, List.map_nil] at hS H1 hR1
  have HI0 := hide (⟨hi, hz0, hz1, hz2⟩ : Tryd.prog.info? 3 = some i0 ∧ i0.zero = some (.int .i64 0) ∧ i0.size = 1 ∧ i0.bytes = 8)
  rw [hw0] at H1
  have hs1 : w.heap.size + 1 ≤ w0.heap.size := by omega
  have HW0 := hide hw0
  clear hal hc hR0 b0 hs0 hw0 hi hz0 hz1 hz2 hblk
  go_enter Tryd.func26, Tryd.ntmps26
  go_wp2_with fail
  refine (unhide H1).mono ?_
  rintro e w1 ⟨v, rfl, ⟨x, hx, rfl⟩, hc1, hg1⟩
  rw [← unhide HW0] at hg1
  have hx4 : 0 ≤ x ∧ x ≤ 4 := by
    simp only [List.mem_cons, List.not_mem_nil, or_false] at hx
    omega
  obtain ⟨m, rfl⟩ : ∃ m : Nat, x = m := ⟨x.toNat, by omega⟩
  have hm : m ≤ 4 := by omega
  have hS1 := hS.drawn hc1 hg1
  have hR1' := hR1.grown hg1 (fun e => by injection e with e; omega)
  have H2 := hide (l2draw_any B cb m (by omega) w1 hc1)
  have hs2 := hg1.size
  clear H1 hx hx4 hS hc1 hg1 hR1
  go_wp2_with fail
  refine (unhide H2).mono ?_
  rintro e w2 ⟨A2, c2, q, rfl, hl, hown, hc2, hg2⟩
  have hS2 := hS1.drawn hc2 hg2
  have hR2 := hR1'.grown hg2 (fun e => by injection e with e; omega)
  have hI2 : Ints w2 w1.heap.size (.slice A2 q.length c2) q := Ints.of_own hown
  have hs3 := hg2.size
  have hw1s : w.heap.size + 1 ≤ w1.heap.size := by simp at hs2; omega
  obtain ⟨g, hg⟩ : ∃ g, g = w2.heap.size := ⟨_, rfl⟩
  obtain ⟨w3, hw3⟩ : ∃ w3, w3 = w2.alloc (.cells #[.slice A2 q.length c2, .slice none 0 0] 26) := ⟨_, rfl⟩
  have b23 : Below w2.heap.size w2 w3 := by rw [hw3]; exact (Below.refl _ w2).alloc (Nat.le_refl _) _
  have hAt : At8 w B cb g A2 c2 q none 0 [] w3 := by
    have hxw : Whole w3 w2.heap.size 26 #[.slice A2 q.length c2, .slice none 0 0] := by rw [hw3]; exact Whole.new _ _ _
    exact ⟨by rw [hg]; exact hxw, World.ownsRow_nil _ _ _ _, hR2.below b23 hR2.lt, (hI2.below b23).low hw1s, by rw [hg]; exact hI2.until_, hS2.below b23, by omega⟩
  have hql : q.length ≤ 4 := by have := hl.1; omega
  have HQ := hide hl.2
  have HW3 := hide hw3
  have HG := hide hg
  clear H2 hl hc2 hg2 hS1 hS2 hR1' hR2 hI2 hown b23 hw3 hg HW0
  go_wp2
  rw [← unhide HW3, ← unhide HG]
  clear HW3 HG
  go_loopw [4] (fun i wr => ∃ (k : Nat) (P : Option Addr) (d : Nat) (J : List Int), 1 ≤ k ∧ k ≤ 5 ∧ i = .int .i64 k ∧ J.length + 1 ≤ k ∧ Hid (∀ z ∈ J, 0 ≤ z ∧ z ≤ 8) ∧ At8 w B cb g A2 c2 q P d J wr) (fun i _ => 5 - (intOf i).toNat)
  case atStart => exact ⟨1, none, 0, [], Nat.le_refl _, by omega, rfl, Nat.le_refl _, hide (fun z hz => by simp at hz), hAt⟩
  case round =>
    obtain ⟨k, P, d, J, hk1, hk5, rfl, hJk, hJ, hA⟩ := hrel
    clear hAt
    have x0 := hA.x.cell 0
    have x1 := hA.x.cell 1
    have xl := hA.x.lt
    simp only [List.getElem?_toArray, List.getElem?_cons_zero, List.getElem?_cons_succ] at x0 x1
    by_cases hlt : k < q.length
    · have H3 := hide (once_any B cb 2 (by omega) wr hA.s.cur)
      have HA := hide hA
      clear hA
      go_wp2_with fail
      refine (unhide H3).mono ?_
      rintro e w4 ⟨v, rfl, ⟨b, rfl⟩, hc4, hg4⟩
      have hA4 := (unhide HA).drawn hc4 hg4
      clear H3 hc4 hg4 x0 x1 xl HA
      cases b with
      | false =>
        go_wp2
        go_roundw
        case rel => exact ⟨k + 1, P, d, J, by omega, by omega, by go_num, by omega, hJ, hA4⟩
        case measure => simp [intOf]; omega
      | true =>
        have x1 := hA4.x.cell 1
        have f1 := hA4.x.frozen 1
        have xl := hA4.x.lt
        have hO := hA4.o
        simp only [List.getElem?_toArray, List.getElem?_cons_zero, List.getElem?_cons_succ] at x1
        have HA := hide hA4
        obtain ⟨hi, hz0, hz1, hz2⟩ := unhide HI0
        obtain ⟨jl, hjl⟩ : ∃ j, j = J.length := ⟨_, rfl⟩
        rw [← hjl] at x1 hO hJk
        have HJL := hide hjl
        clear hA4 hjl
        go_wp2_with (at_builtin; refine wpList_append_one rfl (.tmp 21) (.tmp 23) 24 rfl (g + 1) 3 i0 (.int .i64 0) 8 Tryd.underlying24 hi hz0 hz1 hz2 rfl w4 w4 _ jl (i64s J) rfl hO (.int .i64 (k : Int)) rfl rfl rfl (by omega) (by unfold maxLen; omega) (Below.refl _ _) xl ?_)
        intro v' w' hO' hb' hg'
        obtain ⟨P', d', rfl⟩ : ∃ P' d', v' = .slice P' (jl + 1) d' := by
          obtain ⟨g9, c9, e, _⟩ := own_first hO' (by omega)
          exact ⟨_, _, e⟩
        have hX1 := (unhide HA).x.below hb' (Nat.lt_succ_self g)
        have r1' := hX1.cell 1
        have f1' := hX1.frozen 1
        have l1' := hX1.lt
        simp only [List.getElem?_toArray, List.getElem?_cons_zero, List.getElem?_cons_succ] at r1'
        rw [← unhide HJL] at r1'
        have hA5 : At8 w B cb g A2 c2 q P' d' (J ++ [(k : Int)]) (w'.setCell ⟨g, 1, none⟩ (.slice P' (jl + 1) d')) := by
          rw [unhide HJL] at hO' ⊢
          rw [i64_snoc2] at hO'
          exact (unhide HA).push hb' hO'
        have hJ2 := hide (show ∀ z ∈ J ++ [(k : Int)], 0 ≤ z ∧ z ≤ 8 from fun z hz => by
          rcases List.mem_append.1 hz with hz | hz
          · exact unhide hJ z hz
          · rw [List.mem_singleton] at hz; subst hz; omega)
        have hJl2 := hide (show (J ++ [(k : Int)]).length + 1 ≤ k + 1 from by rw [List.length_append, List.length_singleton, ← unhide HJL]; omega)
        clear x1 f1 xl hO hO' hb' hg' hX1 HA hi hz0 hz1 hz2 hJ
        go_wp2
        go_roundw
        case rel => exact ⟨k + 1, P', d', J ++ [(k : Int)], by omega, by omega, by go_num, unhide hJl2, hJ2, hA5⟩
        case measure => simp [intOf]; omega
    · have H3 := hide (once_any B cb 14 (by omega) wr hA.s.cur)
      have HA := hide hA
      clear hA
      go_wp2_with fail
      refine (unhide H3).mono ?_
      rintro e w4 ⟨v, rfl, ⟨b, rfl⟩, hc4, hg4⟩
      have hA4 := (unhide HA).drawn hc4 hg4
      have hLq : Lite 9 q := ⟨by omega, unhide HQ⟩
      clear H3 hc4 hg4 x0 x1 xl HA
      have x0 := hA4.x.cell 0
      have x1 := hA4.x.cell 1
      simp only [List.getElem?_toArray, List.getElem?_cons_zero, List.getElem?_cons_succ] at x0 x1
      cases b with
      | false =>
        have hLJ : Lite 9 J := lite9 (by omega) (unhide hJ)
        have q0 := hA4.r.cell 0
        have q1 := hA4.r.cell 1
        have e0 := hA4.r.frozen 0
        have e1 := hA4.r.frozen 1
        have hltr := hA4.r.lt
        simp only [List.getElem?_toArray, List.getElem?_cons_zero, List.getElem?_cons_succ] at q0 q1
        have HE := hide (hA4.done hLq hLJ)
        have hWe := (hA4.r.put 0 (.slice A2 q.length c2)).put 1 (.slice P J.length d)
        have HWE := hide hWe
        clear hA4 hLq hLJ hWe hJ
        go_wp2_with fail
        have hWe := unhide HWE
        refine bodyPost_ret (v := .agg #[.slice A2 q.length c2, .slice P J.length d]) (results_cell_row Tryd.results26 _ _ w.heap.size 26 _ (0, 0) _ rfl hWe Tryd.underlying26 rfl nearInfo) rfl ?_
        exact unhide HE
      | true =>
        have f1 := hA4.x.frozen 1
        have xl := hA4.x.lt
        have bd : Below w4.heap.size w4 w4.drew := (Below.refl _ w4).drew
        have hcd : Cur w4.drew B cb := hA4.s.cur.below bd
        have hAd : At8 w B cb g A2 c2 q P d J w4.drew := hA4.drawn hcd ⟨rfl, rfl, rfl, Nat.le_refl _, fun _ _ _ => rfl⟩
        have x1d : w4.drew.cell? ⟨g, 1, none⟩ = some (.slice P J.length d) := x1
        have H4 := hide (below_any B cb 5 (by omega) w4.drew hcd)
        have HAd := hide hAd
        have hJ4 : J.length ≤ 8 := by omega
        have HJ := hJ
        clear hA4 bd hcd hAd hJ
        go_wp2_with fail
        go_region_law
          (first
            | (go_simp; go_at_call 42; refine (unhide H4).mono ?_; rintro e w5 ⟨v, rfl, ⟨y, rfl, hy0, hy1⟩, hc5, hg5⟩; rw [if_pos (by omega)] at hy1; have hA5 := hide ((unhide HAd).drawn hc5 hg5); have x5 := (unhide hA5).x.cell 1; simp only [List.getElem?_toArray, List.getElem?_cons_zero, List.getElem?_cons_succ] at x5; have l5 := (unhide hA5).x.lt; have x5a := fun o => (((Below.refl w5.heap.size w5).alloc (Nat.le_refl _) o).cell (p := ⟨g, 1, none⟩) l5).trans x5; have o5 := (unhide hA5).o; clear hc5 hg5)
            | (refine step_append_one0 (by rfl) (.tmp 29) (.tmp 32) (by rfl) (g + 1) J.length w5 w5 _ J y (by rfl) (by rfl) (by rfl) o5 (by omega) (by omega) (Below.refl _ _) l5 ?_; intro v' w' hO' hb'; obtain ⟨g9, c9, rfl, _⟩ := own_first hO' (Nat.succ_pos _); have hX1 := (unhide hA5).x.below hb' (Nat.lt_succ_self g); have r1' := hX1.cell 1; have f1' := hX1.frozen 1; have l1' := hX1.lt; simp only [List.getElem?_toArray, List.getElem?_cons_zero, List.getElem?_cons_succ] at r1'; have hA6 := hide ((unhide hA5).push hb' hO'); clear hX1 hO' hb'))
        all_goals
          have hA7 := unhide hA6
          have hJ2 : ∀ z ∈ J ++ [y], 0 ≤ z ∧ z ≤ 8 := fun z hz => by
            rcases List.mem_append.1 hz with hz | hz
            · exact unhide HJ z hz
            · rw [List.mem_singleton] at hz; subst hz; omega
          have hjl : (J ++ [y]).length = J.length + 1 := by simp
          have hLJ : Lite 9 (J ++ [y]) := lite9 (by rw [hjl]; omega) hJ2
          have q0 := hA7.r.cell 0
          have q1 := hA7.r.cell 1
          have e0 := hA7.r.frozen 0
          have e1 := hA7.r.frozen 1
          have hltr := hA7.r.lt
          have p0 := hA7.x.cell 0
          have p1 := hA7.x.cell 1
          simp only [List.getElem?_toArray, List.getElem?_cons_zero, List.getElem?_cons_succ] at q0 q1 p0 p1
          have HE := hA7.done hLq hLJ
          have hWe := (hA7.r.put 0 (.slice A2 q.length c2)).put 1 (.slice (some ⟨g9, 0, none⟩) (J ++ [y]).length c9)
          rw [hjl] at p1 HE hWe
          have HEE := hide HE
          have HWE := hide hWe
          clear hA7 hJ2 hjl hLJ HE hWe hA5 hA6 o5 x5 x5a l5 HAd H4 r1' f1' l1' x1d x0 x1 f1 xl
          go_wp2_with fail
          have hWe := unhide HWE
          refine bodyPost_ret (v := .agg #[.slice A2 q.length c2, .slice (some ⟨g9, 0, none⟩) (J.length + 1) c9]) (results_cell_row Tryd.results26 _ _ w.heap.size 26 _ (0, 0) _ rfl hWe Tryd.underlying26 rfl nearInfo) rfl ?_
          exact unhide HEE
theorem results_tmp_cell {P : Program} {fn : Func} {p u : Tmp} {ty : TypeId} (h : fn.results = #[.tmp u, .cell p ty]) (tmps : Array Value) (w : World) (g : Nat) (t : TypeId) (cs : Array Value) (fr : Nat × Nat) (d : TypeDesc)
    (hp : tmps.getD p undef = .pointer (some ⟨g, 0, none⟩)) (hg : w.heap[g]? = some (.cells cs t fr))
    (hu : P.underlying ty = some d) (hd : (match d with | .struct _ | .array _ _ => true | _ => false) = true) (hi : (P.info? ty).map (·.size) = some cs.size) :
    (results fn tmps).run P w = .ok (.tuple #[tmps.getD u undef, .agg cs]) w := by
  have e : (results fn tmps).run P w = ((asAddr (tmps.getD p undef)).run P w).andThen fun a w₁ => ((loadVar ty a).run P w₁).andThen fun v w₂ => .ok (.tuple #[tmps.getD u undef, v]) w₂ := by
    simp only [results, h]
    simp [Sem.run_bind, Result.andThen]
  rw [e, hp]
  simp [asAddr, Result.andThen, run_loadVar_row w g t ty cs fr d hg hu hd hi]
/-- A row and a struct of two rows, drawn from the bytes. -/
def DrewIN (w : World) (e : Ending) (w' : World) : Prop :=
  ∃ A0 c0 p A c P d q J, e = .returned (.tuple #[.slice A0 p.length c0, .agg #[.slice A q.length c, .slice P J.length d]]) ∧ Lite 9 p ∧ Lite 9 q ∧ Lite 9 J ∧ Ints w' w.heap.size (.slice A0 p.length c0) p ∧ NearAt w' w.heap.size (.slice A q.length c) (.slice P J.length d) q J ∧ Below w.heap.size w w'
set_option maxHeartbeats 800000 in
theorem dcntn_any (A : Option Addr) (n c B : Nat) (bs : List UInt8) (w : World) (hr : Reads w B A n (u8s bs)) (hn : n ≤ 1048576) (hB : B ≤ w.heap.size) :
    Calls Tryd.prog 5 #[.slice A n c] w (DrewIN w) := by
  obtain ⟨w0, hw0⟩ : ∃ w0, w0 = w.alloc (.cells #[.slice none 0 0, .slice none 0 0] 26) := ⟨_, rfl⟩
  have hR0 : Whole w0 w.heap.size 26 #[.slice none 0 0, .slice none 0 0] := by rw [hw0]; exact Whole.new _ _ _
  have hs0 : w0.heap.size = w.heap.size + 1 := by rw [hw0]; simp
  have b0 : Below w.heap.size w w0 := by rw [hw0]; exact (Below.refl _ w).alloc (Nat.le_refl _) _
  have H1 := hide (new_any A n c B bs w0 (hr.below (b0.mono hB)) hn (by omega))
  have HW0 := hide hw0
  clear hr hw0
  go_enter Tryd.func5, Tryd.ntmps5
  go_wp2_with fail
  rw [← unhide HW0]
  refine (unhide H1).mono ?_
  rintro e w1 ⟨cb, rfl, hcb, hc1, hb1⟩
  have hB1 := below_after b0 hb1
  have hR1 := hR0.below hb1 hR0.lt
  have hS1 := Side.start hc1
  have H2 := hide (l2bent_any B cb w1 hc1)
  have hs1 := hb1.size
  clear H1 HW0 hb1 hc1 b0 hR0
  go_wp2_with fail
  refine (unhide H2).mono ?_
  rintro e w2 ⟨A2, c2, p, rfl, hlp, o2, hc2, hg2⟩
  have hS2 := hS1.drawn hc2 hg2
  have hR2 := hR1.grown hg2 (fun e => by injection e with e; omega)
  have hs2 := hg2.size
  have hlt1 := hS1.lt
  have H3 := hide (l8draw_any B cb w2 hc2)
  have HLP := hide hlp
  clear H2 hS1 hR1 hc2 hg2 hlp
  go_wp2_with fail
  refine (unhide H3).mono ?_
  rintro e w3 ⟨A3, c3, P3, d3, q, J, rfl, hlq, hlJ, hN, hc3, hg3⟩
  have hS3 := hS2.drawn hc3 hg3
  have hR3 := hR2.grown hg3 (fun e => by injection e with e; omega)
  have o3 := o2.drawn hg3 hlt1
  have hB3 := hS3.under hB1 (by omega)
  have q0 := hR3.cell 0
  have q1 := hR3.cell 1
  have e0 := hR3.frozen 0
  have e1 := hR3.frozen 1
  have hltr := hR3.lt
  simp only [List.getElem?_toArray, List.getElem?_cons_zero, List.getElem?_cons_succ] at q0 q1
  have hWe := (hR3.put 0 (.slice A3 q.length c3)).put 1 (.slice P3 J.length d3)
  have hP : ∀ v : Value, ∀ B9 zs, w.heap.size < B9 → Ints w3 B9 v zs → Ints ((w3.setCell ⟨w.heap.size, 0, none⟩ (.slice A3 q.length c3)).setCell ⟨w.heap.size, 1, none⟩ (.slice P3 J.length d3)) w.heap.size v zs := fun v B9 zs h9 h => ((h.past (by show w.heap.size < _; omega) _).past (by show w.heap.size < _; omega) _).low (by omega)
  have HF := hide (⟨hlq, hlJ, hP _ _ _ (by omega) o3, ⟨hP _ _ _ (by omega) hN.p, hP _ _ _ (by omega) hN.j, hN.away⟩, (hB3.setCell (p := ⟨w.heap.size, 0, none⟩) (Nat.le_refl _) (.slice A3 q.length c3)).setCell (p := ⟨w.heap.size, 1, none⟩) (Nat.le_refl _) (.slice P3 J.length d3)⟩ : Lite 9 q ∧ Lite 9 J ∧ _ ∧ NearAt _ _ _ _ _ _ ∧ Below _ _ _)
  have HWE := hide hWe
  clear hP hWe hB3 o3 hR3 hS3 hg3 hc3 hN hlq hlJ hR2 hS2 o2 hB1 H3
  go_wp2_with fail
  have hWe := unhide HWE
  obtain ⟨h1, h2, h3, h4, h5⟩ := unhide HF
  exact bodyPost_ret (v := .tuple #[.slice A2 p.length c2, .agg #[.slice A3 q.length c3, .slice P3 J.length d3]]) (results_tmp_cell Tryd.results5 _ _ w.heap.size 26 _ (0, 0) _ rfl hWe Tryd.underlying26 rfl nearInfo) rfl ⟨A2, c2, p, A3, c3, P3, d3, q, J, rfl, unhide HLP, h1, h2, h3, h4, h5⟩
theorem ntext_size (q J : List Int) : (ntext q J).size ≤ 16 := by
  unfold ntext
  cases h : nearOK q J with
  | false => simp
  | true =>
    have h8 := isP_le (nearOK_iff.1 h).1
    have h9 := nearB_len q J q.length
    rw [if_pos rfl]
    split
    · decide
    · show (nearB q J q.length).toArray.size ≤ 16
      rw [List.size_toArray]; omega
def marks5 : List ByteArray := [⟨#[95]⟩, ⟨#[49]⟩, ⟨#[50]⟩, ⟨#[45]⟩, ⟨#[51]⟩]
theorem marks5_short : ∀ t ∈ marks5, t.size ≤ 100 := by
  intro t ht
  simp only [marks5, List.mem_cons, List.not_mem_nil, or_false] at ht
  rcases ht with rfl | rfl | rfl | rfl | rfl <;> decide
set_option maxHeartbeats 800000 in
theorem dparn_any (A : Option Addr) (n c B : Nat) (bs : List UInt8) (w : World) (hr : Reads w B A n (u8s bs)) (hn : n ≤ 1048576) (hB : B ≤ w.heap.size) :
    Calls Tryd.prog 7 #[.slice A n c] w fun e w' => ∃ r : ByteArray, e = .returned (.string r) ∧ r.size ≤ 300 ∧ Below w.heap.size w w' := by
  have H1 := hide (new_any A n c B bs w hr hn hB)
  clear hr
  go_enter Tryd.func7, Tryd.ntmps7
  go_wp2_with fail
  refine (unhide H1).mono ?_
  rintro e w1 ⟨cb, rfl, hcb, hc1, hb1⟩
  have hS0 := Side.start hc1
  have H2 := hide (l8draw_any B cb w1 hc1)
  clear H1 hc1
  go_wp2_with fail
  refine (unhide H2).mono ?_
  rintro e w2 ⟨A2, c2, P2, d2, q, J, rfl, hlq, hlJ, hN, hc2, hg2⟩
  have hS2 := hS0.drawn hc2 hg2
  have H3 := hide (sntxt_any A2 P2 q.length c2 w2.heap.size J.length d2 w2.heap.size q J w2 (hlq.arg hN.p (by omega)) (hlJ.arg hN.j (by omega)))
  clear H2 hS0 hlq hlJ hN hc2 hg2
  go_wp2_with fail
  refine (unhide H3).mono ?_
  rintro e w3 ⟨rfl, hb3⟩
  have hS3 := hS2.below hb3
  have hps := ntext_size q J
  obtain ⟨s, hs⟩ : ∃ s, s = ntext q J := ⟨_, rfl⟩
  rw [← hs] at hps ⊢
  have hal := (Below.refl w3.heap.size w3).alloc (Nat.le_refl _) (.cells (marks5.map Value.string).toArray 9)
  have hS4 := hS3.below hal
  have hlt := hS3.cur.lt
  have H4 := hide (turned_any B cb w3.heap.size 5 5 marks5 s _ hS4.cur (Blk.new w3 _ _) (by omega) rfl (by omega) (by omega) (by omega) marks5_short)
  clear H3 hs hb3 hal hS3 hS2
  simp only [marks5, List.map_cons, List.map_nil] at hS4 H4
  go_wp2_with fail
  refine (unhide H4).mono ?_
  rintro e w5 ⟨v, rfl, ⟨r, rfl, hz⟩, hc5, hg5⟩
  have hb5 := (hS4.drawn hc5 hg5).under hb1 hcb
  clear H4 hS4 hc5 hg5
  go_wp2
  go_ret
  exact ⟨r, rfl, hz, hb5⟩
set_option maxHeartbeats 800000 in
theorem dcon_any (A : Option Addr) (n c B : Nat) (bs : List UInt8) (w : World) (hr : Reads w B A n (u8s bs)) (hn : n ≤ 1048576) (hB : B ≤ w.heap.size) :
    Calls Tryd.prog 12 #[.slice A n c] w (DrewI w 9) := by
  have H1 := hide (new_any A n c B bs w hr hn hB)
  clear hr
  go_enter Tryd.func12, Tryd.ntmps12
  go_wp2_with fail
  refine (unhide H1).mono ?_
  rintro e w1 ⟨cb, rfl, hcb, hc1, hb1⟩
  have hS0 := Side.start hc1
  have H2 := hide (once_any B cb 4 (by omega) w1 hc1)
  have hsz := hb1.size
  clear H1 hc1
  go_wp2_with fail
  refine (unhide H2).mono ?_
  rintro e w2 ⟨v, rfl, ⟨b, rfl⟩, hc2, hg2⟩
  have hS2 := hS0.drawn hc2 hg2
  have hs2 := hg2.size
  clear H2 hg2
  cases b with
  | true =>
    have H3 := hide (l2bent_any B cb w2 hc2)
    clear hc2
    go_wp2_with fail
    refine (unhide H3).mono ?_
    rintro e w3 ⟨A3, c3, q, rfl, hl, o3, hc3, hg3⟩
    have hb5 := (hS2.drawn hc3 hg3).under hb1 hcb
    have o4 := o3.low (show w.heap.size ≤ w2.heap.size by omega)
    have HL := hide hl
    clear H3 hS2 hS0 hc3 hg3 o3 hl
    go_wp2
    go_ret
    exact DrewI.mk o4 (unhide HL) hb5
  | false =>
    have H3 := hide (below_any B cb 5 (by omega) w2 hc2)
    clear hc2
    go_wp2_with fail
    refine (unhide H3).mono ?_
    rintro e w3 ⟨v, rfl, ⟨x, rfl, hx0, hx1⟩, hc3, hg3⟩
    rw [if_pos (by omega)] at hx1
    have hS3 := hS2.drawn hc3 hg3
    have hs3 := hg3.size
    obtain ⟨m, rfl⟩ : ∃ m : Nat, x = m := ⟨x.toNat, by omega⟩
    have hm : m ≤ 4 := by omega
    have H4 := hide (l2draw_any B cb m (by omega) w3 hc3)
    clear H3 hS2 hS0 hg3 hx0 hx1 hc3
    go_wp2_with fail
    refine (unhide H4).mono ?_
    rintro e w4 ⟨A4, c4, q, rfl, hl, hown, hc4, hg4⟩
    have hb5 := (hS3.drawn hc4 hg4).under hb1 hcb
    have o4 : Ints w4 w.heap.size (.slice A4 q.length c4) q := (Ints.of_own hown).low (by omega)
    have HL := hide (hl.more (show m ≤ 9 by omega))
    clear H4 hS3 hc4 hg4 hown hl
    go_wp2
    go_ret
    exact DrewI.mk o4 (unhide HL) hb5
end Go.Proofs.YtichenjbkclljaaDoor


/-
  PLAIN: splitting a list at a byte, round for round and by the first place. Nothing here speaks of the program.
-/

namespace Go.Proofs.YtichenjbkclljaaDoor
set_option maxRecDepth 100000

def splitL (c : UInt8) : List UInt8 → List (List UInt8)
  | [] => [[]]
  | x :: r => if x = c then [] :: splitL c r else match splitL c r with
    | h :: t => (x :: h) :: t
    | [] => [[x]]
theorem splitL_ne (c : UInt8) : ∀ l, splitL c l ≠ []
  | [] => by simp [splitL]
  | x :: r => by
    unfold splitL
    split
    · simp
    · split <;> simp
/-- pre ahead of the first piece. -/
def glue (pre : List UInt8) : List (List UInt8) → List (List UInt8)
  | h :: t => (pre ++ h) :: t
  | [] => [pre]
theorem glue_nil {ps : List (List UInt8)} (h : ps ≠ []) : glue [] ps = ps := by cases ps with
  | nil => exact absurd rfl h
  | cons a b => rfl
theorem split_hit (c : UInt8) (pre r : List UInt8) : glue pre (splitL c (c :: r)) = pre :: splitL c r := by
  rw [splitL, if_pos rfl]; simp [glue]
theorem split_miss {c x : UInt8} (h : x ≠ c) (pre r : List UInt8) : glue pre (splitL c (x :: r)) = glue (pre ++ [x]) (splitL c r) := by
  rw [splitL, if_neg h]
  cases hs : splitL c r with
  | nil => exact absurd hs (splitL_ne c r)
  | cons a b => simp [glue]
theorem splitL_no {c : UInt8} : ∀ {l : List UInt8}, c ∉ l → splitL c l = [l]
  | [], _ => rfl
  | x :: r, h => by
    rw [splitL, if_neg (fun e => h (by simp [e])), splitL_no (fun e => h (by simp [e]))]
theorem splitL_at {c : UInt8} : ∀ {a b : List UInt8}, c ∉ a → splitL c (a ++ c :: b) = a :: splitL c b
  | [], b, _ => by rw [List.nil_append, splitL, if_pos rfl]
  | x :: r, b, h => by
    rw [List.cons_append, splitL, if_neg (fun e => h (by simp [e])), splitL_at (fun e => h (by simp [e]))]

theorem splitK_eq (c : UInt8) : ∀ (k : Nat) (l : List UInt8), l.count c = k → Lib.splitK [c] 0 k l = splitL c l
  | 0, l, h => by
    rw [splitL_no (List.count_eq_zero.1 h)]; rfl
  | k + 1, l, h => by
    have hm : c ∈ l := List.count_pos_iff.1 (by omega)
    have hge := Lib.indexByte_ge l c
    have hne : Lib.indexByte l c ≠ -1 := fun e => by
      obtain ⟨i, hi, he⟩ := List.getElem_of_mem hm
      exact Lib.indexByte_none e i (by rw [List.getElem?_eq_getElem hi, he])
    obtain ⟨i, hi⟩ : ∃ i : Nat, Lib.indexByte l c = i := ⟨(Lib.indexByte l c).toNat, by omega⟩
    obtain ⟨h1, h2⟩ := Lib.indexByte_some hi
    obtain ⟨hil, hic⟩ := List.getElem?_eq_some_iff.1 h1
    have hno : c ∉ l.take i := fun hmem => by
      obtain ⟨j, hj, he⟩ := List.getElem_of_mem hmem
      rw [List.length_take] at hj
      rw [List.getElem_take] at he
      exact h2 j (by omega) (by rw [List.getElem?_eq_getElem (by omega), he])
    have hsplit : l = l.take i ++ c :: l.drop (i + 1) := by
      conv => lhs; rw [← List.take_append_drop i l, List.drop_eq_getElem_cons hil, hic]
    have hcount : (l.drop (i + 1)).count c = k := by
      have e := congrArg (List.count c) hsplit
      rw [List.count_append, List.count_cons_self, List.count_eq_zero.2 hno, h] at e
      omega
    have e1 : (Lib.index l [c] == -1) = false := by rw [Lib.index_one, beq_eq_false_iff_ne]; exact hne
    have e2 : (Lib.index l [c]).toNat = i := by rw [Lib.index_one, hi]; rfl
    rw [Lib.splitK, e1, e2]
    simp only [Bool.false_eq_true, if_false, Nat.add_zero, List.length_singleton]
    rw [splitK_eq c k _ hcount]
    conv => rhs; rw [hsplit, splitL_at hno]
theorem splitB_eq (s : ByteArray) (c : UInt8) : (Lib.splitB ⟨#[c]⟩ 0 (Lib.countB s ⟨#[c]⟩) s).map (·.data.toList) = splitL c s.data.toList := by
  rw [Lib.splitB_data]
  have h : Lib.countB s ⟨#[c]⟩ = s.data.toList.count c := Lib.count_one c s.data.toList
  rw [h]
  exact splitK_eq c _ _ rfl
theorem bytes_inj_list : ∀ {xs ys : List ByteArray}, xs.map (·.data.toList) = ys.map (·.data.toList) → xs = ys
  | [], [], _ => rfl
  | [], _ :: _, h => by cases h
  | _ :: _, [], h => by cases h
  | x :: xs, y :: ys, h => by
    simp only [List.map_cons, List.cons.injEq] at h
    rw [bytes_inj_list h.2]
    congr 1
    cases x; cases y
    simpa using h.1
/-- The pieces of s at c. -/
def pieces (s : ByteArray) (c : UInt8) : List ByteArray := (splitL c s.data.toList).map fun l => ⟨l.toArray⟩
theorem pieces_data (s : ByteArray) (c : UInt8) : (pieces s c).map (·.data.toList) = splitL c s.data.toList := by
  unfold pieces
  rw [List.map_map]
  exact (List.map_congr_left (fun l _ => by simp)).trans (List.map_id _)
theorem splitB_pieces (s : ByteArray) (c : UInt8) : Lib.splitB ⟨#[c]⟩ 0 (Lib.countB s ⟨#[c]⟩) s = pieces s c :=
  bytes_inj_list ((splitB_eq s c).trans (pieces_data s c).symm)
theorem pieces_length (s : ByteArray) (c : UInt8) : (pieces s c).length = Lib.countB s ⟨#[c]⟩ + 1 := by
  rw [← splitB_pieces]
  exact Lib.splitB_all ⟨#[c]⟩ (Nat.le_refl 1) 0 _ s rfl
theorem splitL_length (c : UInt8) : ∀ l, (splitL c l).length = l.count c + 1
  | [] => rfl
  | x :: r => by
    have ih := splitL_length c r
    unfold splitL
    by_cases h : x = c
    · rw [if_pos h, List.length_cons, ih, h, List.count_cons_self]
    · rw [if_neg h]
      rw [List.count_cons_of_ne h]
      cases hs : splitL c r with
      | nil => exact absurd hs (splitL_ne c r)
      | cons a b => rw [hs] at ih; simpa using ih
theorem pieces_le (s : ByteArray) (c : UInt8) : (pieces s c).length ≤ s.size + 1 := by
  have h1 : (pieces s c).length = (splitL c s.data.toList).length := by unfold pieces; rw [List.length_map]
  have h2 := List.count_le_length (a := c) (l := s.data.toList)
  have h3 : s.data.toList.length = s.size := by rw [Array.length_toList]; rfl
  rw [h1, splitL_length]
  omega

theorem split_parts (c : UInt8) : ∀ (l : List UInt8), ∀ p ∈ splitL c l, c ∉ p ∧ p.length ≤ l.length
  | [], p, h => by
    obtain rfl := List.mem_singleton.1 h
    exact ⟨by simp, by simp⟩
  | x :: r, p, h => by
    have ih := split_parts c r
    rw [splitL] at h
    by_cases hx : x = c
    · rw [if_pos hx] at h
      rcases List.mem_cons.1 h with rfl | h
      · exact ⟨by simp, by simp⟩
      · have := ih p h; exact ⟨this.1, by rw [List.length_cons]; omega⟩
    · rw [if_neg hx] at h
      cases hs : splitL c r with
      | nil => exact absurd hs (splitL_ne c r)
      | cons a b =>
        rw [hs] at h ih
        rcases List.mem_cons.1 h with rfl | h
        · have := ih a (by simp)
          refine ⟨fun hm => ?_, by rw [List.length_cons, List.length_cons]; omega⟩
          rcases List.mem_cons.1 hm with rfl | hm
          · exact hx rfl
          · exact this.1 hm
        · have := ih p (by simp [h]); exact ⟨this.1, by rw [List.length_cons]; omega⟩
theorem pieces_parts {s : ByteArray} {c : UInt8} {p : ByteArray} (h : p ∈ pieces s c) : (pieces p c).length = 1 ∧ p.size ≤ s.size := by
  unfold pieces at h
  obtain ⟨l, hl, rfl⟩ := List.mem_map.1 h
  have hp := split_parts c _ l hl
  have e : s.data.toList.length = s.size := by rw [Array.length_toList]; rfl
  refine ⟨?_, ?_⟩
  · unfold pieces
    rw [List.length_map]
    show (splitL c l).length = 1
    rw [splitL_no hp.1]; rfl
  · show l.toArray.size ≤ s.size
    rw [List.size_toArray]; omega
theorem join_split (c : UInt8) : ∀ l, Lib.join (splitL c l) [c] = l
  | [] => Lib.join_one _ _
  | x :: r => by
    have ih := join_split c r
    rw [splitL]
    by_cases hx : x = c
    · rw [if_pos hx, Lib.join_cons, List.nil_append]
      cases hs : splitL c r with
      | nil => exact absurd hs (splitL_ne c r)
      | cons a b =>
        rw [hs, Lib.join_cons] at ih
        simp only [Lib.joinTail, List.map_cons, List.flatten_cons] at ih ⊢
        rw [List.append_assoc, ih, hx]; rfl
    · rw [if_neg hx]
      cases hs : splitL c r with
      | nil => exact absurd hs (splitL_ne c r)
      | cons a b =>
        rw [hs, Lib.join_cons] at ih
        show Lib.join ((x :: a) :: b) [c] = x :: r
        rw [Lib.join_cons, List.cons_append, ih]
theorem join_pieces (s : ByteArray) (c : UInt8) : Lib.join ((pieces s c).map (·.data.toList)) [c] = s.data.toList := by rw [pieces_data]; exact join_split c _
end Go.Proofs.YtichenjbkclljaaDoor


/-
  PLAIN: the runs of a text and what they tell of joined places. Nothing here speaks of the program.
-/

namespace Go.Proofs.YtichenjbkclljaaDoor
set_option maxRecDepth 100000

theorem splitL_snoc_hit (c : UInt8) : ∀ l, splitL c (l ++ [c]) = splitL c l ++ [[]]
  | [] => by simp [splitL]
  | y :: r => by
    have ih := splitL_snoc_hit c r
    rw [List.cons_append, splitL, splitL, ih]
    by_cases h : y = c
    · rw [if_pos h, if_pos h]; rfl
    · rw [if_neg h, if_neg h]
      cases hs : splitL c r with
      | nil => exact absurd hs (splitL_ne c r)
      | cons a b => rfl
theorem splitL_snoc_miss {c x : UInt8} (hx : x ≠ c) : ∀ (l : List UInt8) (I : List (List UInt8)) (L : List UInt8), splitL c l = I ++ [L] → splitL c (l ++ [x]) = I ++ [L ++ [x]]
  | [], I, L, h => by
    have h2 : I ++ [L] = [[]] := by rw [← h]; rfl
    cases I with
    | nil => simp at h2; subst h2; simp [splitL, hx]
    | cons a b => simp at h2
  | y :: r, I, L, h => by
    rw [List.cons_append, splitL]
    rw [splitL] at h
    by_cases hy : y = c
    · rw [if_pos hy] at h ⊢
      cases I with
      | nil =>
        exfalso
        have := congrArg List.length h
        have h3 := splitL_ne c r
        cases hs : splitL c r with
        | nil => exact h3 hs
        | cons a b => rw [hs] at this; simp at this
      | cons a I2 =>
        rw [List.cons_append] at h
        injection h with h1 h2
        rw [splitL_snoc_miss hx r I2 L h2, ← h1]
        rfl
    · rw [if_neg hy] at h ⊢
      cases hs : splitL c r with
      | nil => exact absurd hs (splitL_ne c r)
      | cons a b =>
        rw [hs] at h
        dsimp only at h
        cases I with
        | nil =>
          rw [List.nil_append] at h
          injection h with h1 h2
          subst h2
          rw [splitL_snoc_miss hx r [] a hs]
          rw [← h1]; rfl
        | cons a2 I2 =>
          rw [List.cons_append] at h
          injection h with h1 h2
          have h4 : splitL c r = (a :: I2) ++ [L] := by rw [hs, h2]; rfl
          rw [splitL_snoc_miss hx r (a :: I2) L h4]
          dsimp only [List.cons_append]
          rw [← h1]
theorem splitL_last (c : UInt8) (l : List UInt8) : ∃ I L, splitL c l = I ++ [L] := by
  have h := splitL_ne c l
  exact ⟨(splitL c l).dropLast, (splitL c l).getLast h, (List.dropLast_concat_getLast h).symm⟩
theorem flat_split (c : UInt8) : ∀ l, (splitL c l).flatten = l.filter fun b => decide (b ≠ c)
  | [] => rfl
  | y :: r => by
    have ih := flat_split c r
    rw [splitL]
    by_cases h : y = c
    · rw [if_pos h, List.flatten_cons, ih, List.filter_cons_of_neg (by simp [h])]; rfl
    · rw [if_neg h, List.filter_cons_of_pos (by simp [h]), ← ih]
      cases hs : splitL c r with
      | nil => exact absurd hs (splitL_ne c r)
      | cons a b => rfl
/-- The places of all but the last of a run of L behind p. -/
def runJ (p L : Nat) : List Int := (List.range (L - 1)).map fun (i : Nat) => ((p + i : Nat) : Int) + 1
def runsJ : Nat → List Nat → List Int
  | _, [] => []
  | p, L :: r => runJ p L ++ runsJ (p + L) r
theorem runsJ_snoc : ∀ (Ls : List Nat) (p L : Nat), runsJ p (Ls ++ [L]) = runsJ p Ls ++ runJ (p + Ls.sum) L
  | [], p, L => by simp [runsJ]
  | a :: r, p, L => by
    rw [List.cons_append, runsJ, runsJ, runsJ_snoc r (p + a) L, List.append_assoc, List.sum_cons, Nat.add_assoc]
theorem runJ_zero (p : Nat) : runJ p 0 = [] := rfl
theorem runJ_one (p : Nat) : runJ p 1 = [] := rfl
theorem runJ_step {p L : Nat} (h : 0 < L) : runJ p (L + 1) = runJ p L ++ [((p + L : Nat) : Int)] := by
  obtain ⟨k, rfl⟩ : ∃ k, L = k + 1 := ⟨L - 1, by omega⟩
  unfold runJ
  rw [show k + 1 + 1 - 1 = k + 1 by omega, show k + 1 - 1 = k by omega, List.range_succ, List.map_append]
  congr 1
theorem runs_scan : ∀ (n : Nat) (l : List UInt8), l.length = n → ∀ I L, splitL 95 l = I ++ [L] →
    scanJ l l.length = runsJ 0 (I.map List.length ++ [L.length]) ∧ (scanD l).length = (I.map List.length).sum + L.length ∧ (L = [] ↔ ¬ (0 < l.length ∧ l[l.length - 1]?.getD 0 ≠ 95))
  | 0, l, hl, I, L, h => by
    obtain rfl := List.eq_nil_of_length_eq_zero hl
    have h2 : I ++ [L] = [[]] := by rw [← h]; rfl
    cases I with
    | nil => simp at h2; subst h2; simp [scanJ, runsJ, runJ, scanD]
    | cons a b => simp at h2
  | n + 1, l, hl, I, L, h => by
    obtain ⟨l2, x, rfl⟩ : ∃ l2 x, l = l2 ++ [x] := by
      have hne : l ≠ [] := fun e => by rw [e] at hl; simp at hl
      exact ⟨l.dropLast, l.getLast hne, (List.dropLast_concat_getLast hne).symm⟩
    rw [List.length_append, List.length_singleton] at hl
    obtain ⟨I2, L2, h2⟩ := splitL_last 95 l2
    obtain ⟨e1, e2, e3⟩ := runs_scan n l2 (by omega) I2 L2 h2
    have hx : (l2 ++ [x])[l2.length]?.getD 0 = x := by simp
    rw [List.length_append, List.length_singleton, scanJ, hx, scanJ_app l2 [x] l2.length (Nat.le_refl _)]
    by_cases hc : x = 95
    · subst hc
      rw [splitL_snoc_hit, h2] at h
      obtain ⟨h3, h4⟩ : I2 ++ [L2] = I ∧ ([] : List UInt8) = L := by
        have := List.append_inj' h rfl
        exact ⟨this.1, by injection this.2⟩
      subst h4
      subst h3
      refine ⟨?_, ?_, ?_⟩
      · rw [if_pos rfl, e1, runsJ_snoc ((I2 ++ [L2]).map List.length), List.length_nil, runJ_zero, List.append_nil, List.map_append]; rfl
      · unfold scanD at e2 ⊢
        rw [List.filter_append, List.length_append, e2]; simp
      · simp
    · rw [splitL_snoc_miss hc l2 I2 L2 h2] at h
      obtain ⟨h3, h4⟩ : I2 = I ∧ L2 ++ [x] = L := by
        have := List.append_inj' h rfl
        exact ⟨this.1, by injection this.2⟩
      subst h4
      subst h3
      refine ⟨?_, ?_, ?_⟩
      · rw [if_neg hc]
        by_cases hp : 0 < l2.length ∧ l2[l2.length - 1]?.getD 0 ≠ 95
        · have hL : L2 ≠ [] := fun e => (e3.1 e) hp
          have hL0 : 0 < L2.length := List.length_pos_iff.2 hL
          rw [if_pos ⟨hp.1, by rw [List.getElem?_append_left (by omega)]; exact hp.2⟩, e1, List.length_append, List.length_singleton, runsJ_snoc, runsJ_snoc, runJ_step hL0, List.append_assoc, List.take_append_of_le_length (Nat.le_refl _), List.take_length, e2, Nat.zero_add]
        · have hL : L2 = [] := e3.2 hp
          rw [if_neg (fun h => hp ⟨h.1, by have := h.2; rwa [List.getElem?_append_left (by have := h.1; omega)] at this⟩), e1, List.length_append, List.length_singleton, runsJ_snoc, runsJ_snoc, hL]
          rfl
      · unfold scanD at e2 ⊢
        rw [List.filter_append, List.length_append, e2, List.filter_cons_of_pos (by simp [hc]), List.length_append]
        simp; omega
      · simp [hc]
theorem joined_runs (s : List UInt8) : runsJ 0 ((splitL 95 s).map List.length) = scanJ s s.length := by
  obtain ⟨I, L, h⟩ := splitL_last 95 s
  rw [(runs_scan _ s rfl I L h).1, h, List.map_append]
  rfl
theorem sum_runs (s : List UInt8) : ((splitL 95 s).map List.length).sum = (scanD s).length := by
  unfold scanD
  rw [← flat_split, List.length_flatten]
/-- What a text tells. -/
def digB (s : ByteArray) : ByteArray := ⟨(scanD s.data.toList).toArray⟩
def parJ (s : ByteArray) : List Int := scanJ s.data.toList s.size
def parOK (s : ByteArray) : Bool := ppOK (digB s) && decide (ntext (ppR (digB s)) (parJ s) = s)
def parQ (s : ByteArray) : List Int := if parOK s then ppR (digB s) else []
def parN (s : ByteArray) : List Int := if parOK s then parJ s else []
theorem digB_size (s : ByteArray) : (digB s).size ≤ s.size := by
  have h1 := size_list' (digB s)
  have h2 := size_list' s
  have h3 : (digB s).data.toList = scanD s.data.toList := by unfold digB; simp
  have h4 : (scanD s.data.toList).length ≤ s.data.toList.length := List.length_filter_le _ _
  rw [h3] at h1
  omega
theorem join_flat (xs : List (List UInt8)) : Lib.join xs [] = xs.flatten := by
  cases xs with
  | nil => simp [Lib.join_nil]
  | cons x r =>
    rw [Lib.join_cons, List.flatten_cons]
    congr 1
    simp [Lib.joinTail]
theorem join_dig (s : ByteArray) : Lib.join ((pieces s 95).map (·.data.toList)) [] = scanD s.data.toList := by
  rw [join_flat, pieces_data, flat_split]; rfl
theorem pieces_lens (s : ByteArray) : (pieces s 95).map (·.size) = (splitL 95 s.data.toList).map List.length := by
  unfold pieces
  rw [List.map_map]
  refine List.map_congr_left fun l _ => ?_
  show l.toArray.size = l.length
  simp
theorem pieces_joined (s : ByteArray) : runsJ 0 ((pieces s 95).map (·.size)) = parJ s := by
  rw [pieces_lens, joined_runs]
  unfold parJ
  rw [size_list']
end Go.Proofs.YtichenjbkclljaaDoor


/-
  spec.CountRuns, by its contract.
-/

namespace Go.Proofs.YtichenjbkclljaaDoor
set_option maxRecDepth 100000
open Go.RowKit

def numRun (p q : List Int) : Int := if isP p && isP q && decide (q.length ≠ 0) then (runN p q : Int) else -1
theorem runK_step (p q : List Int) (k : Nat) : (runK p q (k + 1)).length = (runK p q k).length + (if patL ((p.drop k).take q.length) = q then 1 else 0) := by
  unfold runK
  rw [List.range_succ, List.filter_append, List.length_append]
  congr 1
  by_cases h : patL ((p.drop k).take q.length) = q
  · rw [if_pos h, List.filter_cons_of_pos (by simp [h])]; rfl
  · rw [if_neg h, List.filter_cons_of_neg (by simp [h])]; rfl
theorem runK_le (p q : List Int) (k : Nat) : (runK p q k).length ≤ k := by
  unfold runK
  have := List.length_filter_le (fun i => decide (patL ((p.drop i).take q.length) = q)) (List.range k)
  rwa [List.length_range] at this
theorem patL_small8 {l : List Int} (h : l.length ≤ 1048576) : Small (patL l) := fun z hz => by have := patL_range z hz; omega
set_option maxHeartbeats 800000 in
theorem srun_any (A A' : Option Addr) (n c B n' c' B' : Nat) (p q : List Int) (w : World) (h : Arg w B A n c p) (h' : Arg w B' A' n' c' q) :
    Calls Tryd.prog 21 #[.slice A n c, .slice A' n' c'] w (GivesN w (numRun p q)) := by
  have hl := h.len
  have hl' := h'.len
  obtain ⟨bp, hp⟩ : ∃ b, isP p = b := ⟨_, rfl⟩
  obtain ⟨bq, hq⟩ : ∃ b, isP q = b := ⟨_, rfl⟩
  have H1 := hide (sisperm_any A n c B p bp hp w h.reads h.le h.cap)
  cases bp with
  | false =>
    rw [show numRun p q = -1 by unfold numRun; rw [hp]; rfl]
    clear h h' hp hq hl hl'
    go_enter Tryd.func21, Tryd.ntmps21
    go_wp2_with fail
    refine (unhide H1).mono ?_
    rintro e w1 ⟨rfl, d1⟩
    have hb := d1.below w.heap.size
    clear H1 d1
    go_wp2
    go_ret
    exact ⟨rfl, hb⟩
  | true =>
    have H2 := hide (show ∀ w1, Drew w w1 → _ from fun w1 d1 => sisperm_any A' n' c' B' q bq hq w1 (h'.reads.ofDrew d1) h'.le h'.cap)
    cases bq with
    | false =>
      rw [show numRun p q = -1 by unfold numRun; rw [hp, hq]; rfl]
      clear h h' hp hq hl hl'
      go_enter Tryd.func21, Tryd.ntmps21
      go_wp2_with fail
      refine (unhide H1).mono ?_
      rintro e w1 ⟨rfl, d1⟩
      have H3 := hide (unhide H2 w1 d1)
      clear H1 H2
      go_wp2_with fail
      refine (unhide H3).mono ?_
      rintro e w2 ⟨rfl, d2⟩
      have hb := (d1.trans d2).below w.heap.size
      clear H3 d1 d2
      go_wp2
      go_ret
      exact ⟨rfl, hb⟩
    | true =>
      by_cases h0 : n' = 0
      · subst h0
        rw [show numRun p q = -1 by unfold numRun; rw [hp, hq, hl']; rfl]
        clear h h' hp hq hl hl'
        go_enter Tryd.func21, Tryd.ntmps21
        go_wp2_with fail
        refine (unhide H1).mono ?_
        rintro e w1 ⟨rfl, d1⟩
        have H3 := hide (unhide H2 w1 d1)
        clear H1 H2
        go_wp2_with fail
        refine (unhide H3).mono ?_
        rintro e w2 ⟨rfl, d2⟩
        have hb := (d1.trans d2).below w.heap.size
        clear H3 d1 d2
        go_wp2
        go_ret
        exact ⟨rfl, hb⟩
      · rw [show numRun p q = ((runK p q (n + 1 - n')).length : Nat) by unfold numRun runN; rw [hp, hq, hl', hl, decide_eq_true h0]; rfl]
        have hn8 : n ≤ 8 := by have := isP_le hp; omega
        have hn8' : n' ≤ 8 := by have := isP_le hq; omega
        have h0' : ((n' : Int) == 0) = false := by simp; omega
        have HA := hide (⟨h, h'⟩ : Arg w B A n c p ∧ Arg w B' A' n' c' q)
        have HL := hide (⟨hl, hl'⟩ : p.length = n ∧ q.length = n')
        have hcap := h.cap
        clear h h' hp hq hl hl'
        go_enter Tryd.func21, Tryd.ntmps21
        go_wp2_with fail
        refine (unhide H1).mono ?_
        rintro e w1 ⟨rfl, d1⟩
        have H3 := hide (unhide H2 w1 d1)
        clear H1 H2
        go_wp2_with fail
        refine (unhide H3).mono ?_
        rintro e w2 ⟨rfl, d2⟩
        have hb2 := (d1.trans d2).below w.heap.size
        clear H3 d1 d2
        go_wp2
        go_loopw [5, 6] (fun s i wr => ∃ k : Nat, (k ≤ n + 1 - n' ∨ k = 0) ∧ i = .int .i64 k ∧ s = .int .i64 ((runK p q k).length : Nat) ∧ Below w.heap.size w wr) (fun _ i _ => n + 1 - n' - (intOf i).toNat)
        case atStart => exact ⟨0, .inr rfl, rfl, rfl, hb2⟩
        case round =>
          obtain ⟨k, hk, rfl, rfl, hb⟩ := hrel
          clear hb2
          have hrk := runK_le p q k
          have hst := runK_step p q k
          by_cases hlt : k + n' ≤ n
          · obtain ⟨hA, hA'⟩ := unhide HA
            have hAr := hA.below hb
            obtain ⟨ad, rfl⟩ : ∃ ad, A = some ad := by
              obtain ⟨ad, u, e, _⟩ := hAr.reads.at_ (show k < n by omega)
              exact ⟨ad, e⟩
            have hcut := hAr.cut (f := k) (m := n') (by omega)
            have H4 := hide (l2pat_any (some (ad.add k)) n' (c - k) B _ wr hcut (by omega))
            have hle1 : ((k : Int) + (n' : Int)) ≤ (n : Int) := by omega
            have hle2 : ((k : Int) + (n' : Int)) ≤ (c : Int) := by omega
            have hle3 : (k : Int) ≤ (k : Int) + (n' : Int) := by omega
            have hne : ¬ c = k := by omega
            have hwk : IntKind.i64.wrap ((k : Int) + (n' : Int)) = (k : Int) + (n' : Int) := by rw [IntKind.wrap_i64]; omega
            obtain ⟨Z, hZ⟩ : ∃ Z, Z = patL ((p.drop k).take n') := ⟨_, rfl⟩
            have hZl : Z.length = n' := by rw [hZ, patL_length, List.length_take, List.length_drop]; have := (unhide HL).1; omega
            have hZs : Small Z := by rw [hZ]; exact patL_small8 (by rw [List.length_take]; omega)
            rw [(unhide HL).2, ← hZ] at hst
            rw [← hZ] at H4
            obtain ⟨bb, hbb⟩ : ∃ b, decide (Z = q) = b := ⟨_, rfl⟩
            have H5 := hide (show ∀ w3 A3 c3, Below wr.heap.size wr w3 → Ints w3 wr.heap.size (.slice A3 Z.length c3) Z → _ from fun w3 A3 c3 d3 o3 => l2same_any A3 A' Z.length c3 _ n' c' B' Z q bb hbb w3 (o3.arg (by omega) o3.cap hZs) ((hA'.below hb).below d3))
            have H6 := hide (fun w4 => bit_any bb w4)
            have hbit : ((runK p q k).length : Int) + bitI bb = ((runK p q (k + 1)).length : Nat) := by
              rw [hst, ← hbb]
              by_cases e : Z = q
              · rw [if_pos e, decide_eq_true e]; simp [bitI]
              · rw [if_neg e, decide_eq_false e]; simp [bitI]
            have hbi : 0 ≤ bitI bb ∧ bitI bb ≤ 1 := by cases bb <;> simp [bitI]
            have HBI := hide hbit
            obtain ⟨bi, hbi2⟩ : ∃ bi, bi = bitI bb := ⟨_, rfl⟩
            rw [← hbi2] at hbi
            rw [← hbi2] at HBI H6
            clear hst hcut hA hA' hAr hZ hbb hbit hbi2 hZs
            go_wp2_with fail
            refine (unhide H4).mono ?_
            rintro e w3 ⟨A3, c3, rfl, o3, d3⟩
            have H7 := hide (unhide H5 w3 A3 c3 d3 o3)
            rw [hZl] at H7
            have hb3 := below_after hb d3
            clear H4 H5 o3 d3 hb
            go_wp2_with fail
            refine (unhide H7).mono ?_
            rintro e w4 ⟨rfl, d4⟩
            have hb4 := hb3.trans (d4.below _)
            have H8 := hide (unhide H6 w4)
            clear H7 H6 d4 hb3
            go_wp2_with fail
            refine (unhide H8).mono ?_
            rintro e w5 ⟨rfl, rfl⟩
            clear H8
            go_wp2
            go_roundw
            case rel => exact ⟨k + 1, .inl (by omega), by go_num, by rw [unhide HBI], hb4⟩
            case measure => simp [intOf]; omega
          · have hk2 : n + 1 - n' = k := by omega
            have hgt : ¬ ((k : Int) + (n' : Int) ≤ (n : Int)) := by omega
            have hwk : IntKind.i64.wrap ((k : Int) + (n' : Int)) = (k : Int) + (n' : Int) := by rw [IntKind.wrap_i64]; omega
            have HK := hide hk2
            clear hst hk2
            go_wp2
            go_ret
            exact ⟨ret_int (by rw [unhide HK]), hb⟩
end Go.Proofs.YtichenjbkclljaaDoor


/-
  spec.ParsePerm and impl.ParsePerm, by their contracts.
-/

namespace Go.Proofs.YtichenjbkclljaaDoor
set_option maxRecDepth 100000
open Go.RowKit

theorem tnums_take {s : ByteArray} {k : Nat} (h : k < s.size) : (tnums s).take (k + 1) = (tnums s).take k ++ [(s[k].toNat : Int) - 48] := take_snoc_i (tnums_at h)
theorem own_capP {w : World} {base n c g : Nat} {xs : List Value} {e : TypeId} (h : w.ownsRow base e 1 (.slice (some ⟨g, 0, none⟩) n c) n xs) : n ≤ c := by
  rcases h.2 with ⟨h0, _⟩ | ⟨g', cap, cur, hv, _, _, hnc, _⟩
  · cases h0
  · injection hv with _ _ h3
    omega
theorem own_form {w : World} {base n : Nat} {v : Value} {xs : List Value} {e : TypeId} (h : w.ownsRow base e 1 v n xs) : ∃ A c, v = .slice A n c ∧ n ≤ c := by
  rcases h.2 with ⟨rfl, rfl⟩ | ⟨g, cap, cur, rfl, _, _, hnc, _⟩
  · exact ⟨none, 0, rfl, Nat.le_refl _⟩
  · exact ⟨_, _, rfl, hnc⟩

theorem not_dash {s : ByteArray} (h : s ≠ ⟨#[45]⟩) : (s.toList == [45]) = false := by
  rw [beq_eq_false_iff_ne]
  intro e
  rw [ByteArray.toList_eq] at e
  refine h (ByteArray.ext (Array.ext' ?_))
  exact e
theorem empty_list {s : ByteArray} (h : s.size = 0) : s.toList.isEmpty = true := by
  rw [ByteArray.toList_eq, List.isEmpty_iff_length_eq_zero, Array.length_toList]
  exact h
theorem nonempty_list {s : ByteArray} (h : ¬ s.size = 0) : s.toList.isEmpty = false := by
  rw [Bool.eq_false_iff]
  intro e
  rw [ByteArray.toList_eq, List.isEmpty_iff_length_eq_zero, Array.length_toList] at e
  exact h e

set_option maxHeartbeats 800000 in
theorem spp_any (s : ByteArray) (hs : s.size ≤ 1048576) (b : Bool) (hb : ppOK s = b) (w : World) :
    Calls Tryd.prog 36 #[.string s] w (GivesIB w (ppR s) b) := by
  obtain ⟨i0, hi, hz0, hz1, hz2⟩ := info_parts intInfo
  have hst := own0 w w.heap.size (Nat.le_refl _)
  have hst2 := Ints.made0 w w.heap.size (Nat.le_refl _)
  have hbel := (Below.refl w.heap.size w).alloc (Nat.le_refl _) (.cells #[] 3)
  by_cases hd : s = ⟨#[45]⟩
  · subst hd
    obtain rfl : b = true := hb.symm.trans ppOK_dash
    rw [ppR_dash]
    clear hb hs hst
    go_enter Tryd.func36, Tryd.ntmps36
    go_wp2
    go_ret2
    exact GivesIB.mk true hst2 hbel
  · have hd' := not_dash hd
    by_cases h0 : s.size = 0
    · have hno := ppOK_none hd h0
      obtain rfl : b = false := hb.symm.trans hno
      have HR := hide (ppR_no hd hno)
      have he := empty_list h0
      have HZ := hide h0
      clear hb hs hst hd hno h0
      have hz0 : s.size ≤ 0 := by rw [unhide HZ]; exact Nat.le_refl _
      go_enter Tryd.func36, Tryd.ntmps36
      go_wp2
      go_loopw [4, 5] (fun v i wr => i = .int .i64 0 ∧ wr = w.alloc (.cells #[] 3)) (fun _ _ _ => 0)
      case atStart => exact ⟨rfl, rfl⟩
      case round =>
        obtain ⟨rfl, rfl⟩ := hrel
        have hst3 := Ints.made0 (w.alloc (.cells #[] 3)) w.heap.size (by simp)
        rw [show (w.alloc (.cells #[] 3)).heap.size = w.heap.size + 1 by simp] at hst3
        have hbel2 := hbel.alloc hbel.size (.cells #[] 3)
        have hz : ¬ 0 < s.size := by omega
        go_wp2
        go_ret2
        exact GivesIB.mk false (by rw [unhide HR]; exact hst3) hbel2
    · have hp := ppOK_else hd (by omega)
      have he := nonempty_list h0
      have he2 : ¬ s.toList = [] := fun e => by rw [e] at he; cases he
      have hlen := tnums_length s
      have HB := hide (hp.symm.trans hb)
      have HY := hide (fun (h : ppOK s = true) => ppR_yes hd h)
      have HN := hide (fun (h : ppOK s = false) => ppR_no hd h)
      have HL := hide hlen
      have HO := hide hb
      clear hb hd hp hlen hst2
      go_enter Tryd.func36, Tryd.ntmps36
      go_wp2
      go_loopw [4, 5] (fun v i wr => ∃ k : Nat, k ≤ s.size ∧ i = .int .i64 k ∧ Below w.heap.size w wr ∧ wr.ownsRow w.heap.size 3 1 v k (i64s ((tnums s).take k))) (fun _ i _ => s.size - (intOf i).toNat)
      case atStart => exact ⟨0, Nat.zero_le _, rfl, hbel, hst⟩
      case round =>
        obtain ⟨k, hk, rfl, hbw, hown⟩ := hrel
        clear hst hbel
        by_cases hlt : k < s.size
        · have e : i64s ((tnums s).take k) ++ [.int .i64 ((s[k].toNat : Int) - 48)] = i64s ((tnums s).take (k + 1)) := by rw [tnums_take hlt]; unfold i64s; simp
          have HE := hide e
          have hby := s[k].toNat_lt
          clear e
          go_wp2_with (first
            | (at_builtin; refine wpList_append_one rfl (.tmp 16) (.tmp 22) 24 rfl w.heap.size 3 i0 (.int .i64 0) 8 Tryd.underlying24 hi hz0 hz1 hz2 rfl w wr _ _ _ rfl hown (.int .i64 ((s[k].toNat : Int) - 48)) rfl rfl rfl (by omega) (by simp only [maxLen]; omega) hbw hbw.size ?_; intro v2 w2 hown2 hb2 hg2; clear hg2))
          rw [unhide HE] at hown2
          clear hown hbw HE
          go_roundw
          case rel => exact ⟨k + 1, by omega, by go_num, hb2, hown2⟩
          case measure => simp [intOf]; omega
        · obtain rfl : k = s.size := by omega
          have e : (tnums s).take s.size = tnums s := List.take_of_length_le (by rw [unhide HL]; exact Nat.le_refl _)
          rw [e] at hown
          obtain ⟨A, c, rfl, hc⟩ := own_form hown
          have hI : Ints wr w.heap.size (.slice A s.size c) (tnums s) := Ints.of_own hown
          have H1 := hide (sisperm_any A s.size c _ (tnums s) b (unhide HB) wr hI.reads hs hc)
          clear hown e
          cases b with
          | true =>
            have HR := hide (unhide HY (unhide HO))
            go_wp2_with fail
            refine (unhide H1).mono ?_
            rintro e w2 ⟨rfl, hd⟩
            have hb2 := below_after hbw (hd.below _)
            have hI2 := hI.below (hd.below _)
            rw [← unhide HR] at hI2
            clear hd H1 hI
            go_wp2
            go_ret2
            exact GivesIB.mk true hI2 hb2
          | false =>
            have HR := hide (unhide HN (unhide HO))
            go_wp2_with fail
            refine (unhide H1).mono ?_
            rintro e w2 ⟨rfl, hd⟩
            have hb2 := below_after hbw (hd.below _)
            have hst3 := Ints.made0 w2 w.heap.size hb2.size
            have hbel2 := hb2.alloc hb2.size (.cells #[] 3)
            clear hd H1 hI
            go_wp2
            go_ret2
            exact GivesIB.mk false (by rw [unhide HR]; exact hst3) hbel2

set_option maxHeartbeats 800000 in
theorem ipp_any (s : ByteArray) (hs : s.size ≤ 1048576) (b : Bool) (hb : ppOK s = b) (w : World) :
    Calls Tryd.prog 33 #[.string s] w (GivesIB w (ppR s) b) := by
  obtain ⟨i0, hi, hz0, hz1, hz2⟩ := info_parts intInfo
  have hst2 := Ints.made0 w w.heap.size (Nat.le_refl _)
  have hbel := (Below.refl w.heap.size w).alloc (Nat.le_refl _) (.cells #[] 3)
  by_cases hd : s = ⟨#[45]⟩
  · subst hd
    obtain rfl : b = true := hb.symm.trans ppOK_dash
    rw [ppR_dash]
    clear hb hs
    go_enter Tryd.func33, Tryd.ntmps33
    go_wp2
    go_ret2
    exact GivesIB.mk true hst2 hbel
  · have hd' := not_dash hd
    by_cases h0 : s.size = 0
    · have hno := ppOK_none hd h0
      obtain rfl : b = false := hb.symm.trans hno
      rw [ppR_no hd hno]
      have he := empty_list h0
      clear hb hs hd hno h0 hst2
      go_enter Tryd.func33, Tryd.ntmps33
      go_wp2
      go_ret2
      exact GivesIB.mk (v := .slice none 0 0) false (Ints.nil _ _) (Below.refl _ _)
    · have hp := ppOK_else hd (by omega)
      have he := nonempty_list h0
      have he2 : ¬ s.toList = [] := fun e => by rw [e] at he; cases he
      have hlen := tnums_length s
      by_cases h8 : s.size ≤ 8
      · have h8b : decide ((8 : Int) < (s.size : Int)) = false := by simp; omega
        have HB := hide (hp.symm.trans hb)
        have HY := hide (fun (h : ppOK s = true) => ppR_yes hd h)
        have HN := hide (fun (h : ppOK s = false) => ppR_no hd h)
        have HL := hide hlen
        have HO := hide hb
        clear hb hd hp hlen hst2 hbel
        go_enter Tryd.func33, Tryd.ntmps33
        go_wp2_with (first
          | (at_make; refine wpList_make_full _ rfl (.tmp 17) (.tmp 17) 24 rfl w.heap.size 3 i0 (.int .i64 0) 1 Tryd.underlying24 hi hz0 hz1 _ _ _ _ s.size rfl rfl (by first | rfl | omega) (by first | rfl | omega) (by rw [hz2]; omega) (by unfold maxLen; omega) (Nat.le_refl _) ?_; intro w1 hown hg))
        have hb1 := (Below.refl w.heap.size w).grown hg (Nat.le_refl _) (by simp)
        clear hg
        go_loopw [5, 21] (fun _ i wr => ∃ (k : Nat) (xs : List Value), k ≤ s.size ∧ i = .int .i64 k ∧ Below w.heap.size w wr ∧ wr.ownsRow w.heap.size 3 1 (.slice (some ⟨w.heap.size, 0, none⟩) s.size s.size) s.size xs ∧ Hid (xs.take k = (i64s (tnums s)).take k)) (fun _ i _ => s.size - (intOf i).toNat)
        case atStart => exact ⟨0, _, Nat.zero_le _, rfl, hb1, hown, by exact rfl⟩
        case round =>
          obtain ⟨k, xs, hk, rfl, hb, hown', hx⟩ := hrel
          clear hown hb1
          have hlx : xs.length = s.size := by simpa using hown'.1
          by_cases hlt : k < s.size
          · obtain ⟨old, hold⟩ : ∃ old, wr.cell? ⟨w.heap.size, k, none⟩ = some old := ⟨_, by rw [hown'.cellAt k (by omega)]; exact List.getElem?_eq_getElem (by omega)⟩
            have hfz := hown'.frozenAt k
            have hst := hide (take_set_i (unhide hx) (i64_get (tnums_at hlt)) (by omega))
            have ho2 := (hown'.stored k (.int .i64 ((s[k].toNat : Int) - 48))).1
            have hb2 := below_set_i hb hown' k (.int .i64 ((s[k].toNat : Int) - 48))
            have hby := s[k].toNat_lt
            clear hx hlx hown' hb
            go_wp2
            go_roundw
            case rel => exact ⟨k + 1, _, by omega, by go_num, hb2, ho2, hst⟩
            case measure => simp [intOf]; omega
          · obtain rfl : k = s.size := by omega
            have : xs = i64s (tnums s) := by
              have h := unhide hx
              rwa [List.take_of_length_le (by omega), List.take_of_length_le (by rw [i64_length, unhide HL]; exact Nat.le_refl _)] at h
            subst this
            have hI : Ints wr w.heap.size (.slice (some ⟨w.heap.size, 0, none⟩) s.size s.size) (tnums s) := Ints.of_own hown'
            have hsm : Small (tnums s) := fun x hx => by
              have := tnums_small x hx
              omega
            have H4 := hide (iisperm_any _ s.size s.size _ (tnums s) b (unhide HB) wr hI.reads (Nat.le_refl _) (by omega) hsm)
            clear hx hlx hown' hsm
            cases b with
            | true =>
              have HR := hide (unhide HY (unhide HO))
              go_wp2_with fail
              refine (unhide H4).mono ?_
              rintro e w2 ⟨rfl, hb2⟩
              have hI2 := hI.below hb2
              rw [← unhide HR] at hI2
              clear H4
              go_wp2
              go_ret2
              exact GivesIB.mk true hI2 (below_after hb hb2)
            | false =>
              have HR := hide (unhide HN (unhide HO))
              go_wp2_with fail
              refine (unhide H4).mono ?_
              rintro e w2 ⟨rfl, hb2⟩
              clear H4
              go_wp2
              go_ret2
              exact GivesIB.mk (v := .slice none 0 0) false (by rw [unhide HR]; exact Ints.nil _ _) (below_after hb hb2)
      · have hno : ppOK s = false := by rw [hp]; exact isP_long (by omega)
        obtain rfl : b = false := hb.symm.trans hno
        rw [ppR_no hd hno]
        have h8b : decide ((8 : Int) < (s.size : Int)) = true := by simp; omega
        have h8' : 8 < s.size := by omega
        clear hb hd hp hlen hno hst2
        go_enter Tryd.func33, Tryd.ntmps33
        go_wp2
        go_ret2
        exact GivesIB.mk (v := .slice none 0 0) false (Ints.nil _ _) (Below.refl _ _)
end Go.Proofs.YtichenjbkclljaaDoor


/-
  spec.ParseNear, by its contract.
-/

namespace Go.Proofs.YtichenjbkclljaaDoor
set_option maxRecDepth 100000
open Go.RowKit

theorem scanJ_len (L : List UInt8) : ∀ k, (scanJ L k).length ≤ k
  | 0 => Nat.le_refl _
  | k + 1 => by
    have := scanJ_len L k
    rw [scanJ]; split
    · omega
    · split <;> simp <;> omega
theorem scanJ_small (L : List UInt8) : ∀ k, ∀ z ∈ scanJ L k, 0 ≤ z ∧ z ≤ (L.length : Int)
  | 0, z, h => by simp [scanJ] at h
  | k + 1, z, h => by
    rw [scanJ] at h
    split at h
    · exact scanJ_small L k z h
    · split at h
      · rw [List.mem_append, List.mem_singleton] at h
        rcases h with h | rfl
        · exact scanJ_small L k z h
        · have h1 : (scanD (L.take k)).length ≤ (L.take k).length := List.length_filter_le _ _
          rw [List.length_take] at h1
          omega
      · exact scanJ_small L k z h
theorem scanD_take {L : List UInt8} {k : Nat} {b : UInt8} (hb : L[k]? = some b) : scanD (L.take (k + 1)) = if b = 95 then scanD (L.take k) else scanD (L.take k) ++ [b] := by
  unfold scanD
  rw [List.take_add_one, hb, Option.toList_some, List.filter_append]
  by_cases h : b = 95
  · rw [if_pos h, List.filter_cons_of_neg (by simp [h])]; simp
  · rw [if_neg h, List.filter_cons_of_pos (by simp [h])]; rfl
theorem scanJ_gap {L : List UInt8} {k : Nat} (hb : L[k]? = some 95) : scanJ L (k + 1) = scanJ L k := by rw [scanJ, if_pos (by rw [hb]; rfl)]
theorem scanJ_yes {L : List UInt8} {k : Nat} {b a : UInt8} (hb : L[k + 1]? = some b) (h : b ≠ 95) (ha : L[k]? = some a) (h2 : a ≠ 95) : scanJ L (k + 1 + 1) = scanJ L (k + 1) ++ [((scanD (L.take (k + 1))).length : Int)] := by
  rw [scanJ, if_neg (by rw [hb]; exact h), if_pos ⟨by omega, by rw [show k + 1 - 1 = k by omega, ha]; exact h2⟩]
theorem scanJ_no {L : List UInt8} {k : Nat} {b a : UInt8} (hb : L[k + 1]? = some b) (h : b ≠ 95) (ha : L[k]? = some a) (h2 : a = 95) : scanJ L (k + 1 + 1) = scanJ L (k + 1) := by
  rw [scanJ, if_neg (by rw [hb]; exact h), if_neg (fun hh => hh.2 (by rw [show k + 1 - 1 = k by omega, ha]; exact h2))]
theorem scanJ_first {L : List UInt8} : scanJ L 1 = [] := by
  rw [scanJ]; split
  · rfl
  · rw [if_neg (by omega)]; rfl
theorem ppR_small (s : ByteArray) : Small (ppR s) := fun z hz => by
  unfold ppR at hz
  split at hz
  · simp at hz
  · split at hz
    · have := tnums_small z hz; omega
    · simp at hz
theorem byte_at {s : ByteArray} {k : Nat} (h : k < s.size) : s.data.toList[k]? = some s[k] := by
  have e : s.data.toList.length = s.size := size_list' s
  rw [List.getElem?_eq_getElem (by omega)]; rfl
theorem extract_one {s : ByteArray} {k : Nat} (h : k < s.size) : s.extract k (k + 1) = ⟨[s[k]].toArray⟩ := by
  refine ByteArray.ext ?_
  rw [ByteArray.data_extract]
  refine Array.ext' ?_
  rw [Array.toList_extract, List.extract_eq_take_drop]
  have e := byte_at h
  rw [show k + 1 - k = 1 by omega]
  have h2 : s.data.toList.drop k = s[k] :: s.data.toList.drop (k + 1) := by
    have e : s.data.toList.length = s.size := size_list' s
    rw [List.drop_eq_getElem_cons (by omega)]; rfl
  rw [h2]; rfl
set_option maxHeartbeats 3200000 in
theorem spar_any (s : ByteArray) (hs : s.size ≤ 1048576) (w : World) :
    Calls Tryd.prog 9 #[.string s] w (GivesNB w (parQ s) (parN s) (parOK s)) := by
  obtain ⟨i0, hi, hz0, hz1, hz2⟩ := info_parts intInfo
  obtain ⟨L, hL⟩ : ∃ L, L = s.data.toList := ⟨_, rfl⟩
  have hLl : L.length = s.size := by rw [hL, size_list']
  have HBY := hide (show ∀ k (h : k < s.size), L[k]? = some s[k] from fun k h => by rw [hL]; exact byte_at h)
  obtain ⟨w0, hw0⟩ : ∃ w0, w0 = (w.alloc (.cells #[.slice none 0 0, .slice none 0 0] 26)).alloc (.cells #[.slice none 0 0, .slice none 0 0] 26) := ⟨_, rfl⟩
  have b0 : Below w.heap.size w w0 := by rw [hw0]; exact ((Below.refl _ w).alloc (Nat.le_refl _) _).alloc (by simp) _
  have hR0 : Whole w0 w.heap.size 26 #[.slice none 0 0, .slice none 0 0] := by rw [hw0]; exact (Whole.new _ _ _).alloc _
  obtain ⟨g, hg⟩ : ∃ g, g = w.heap.size + 1 := ⟨_, rfl⟩
  have hG0 : Whole w0 g 26 #[.slice none 0 0, .slice none 0 0] := by
    rw [hw0, hg]
    have := Whole.new (w.alloc (.cells #[.slice none 0 0, .slice none 0 0] 26)) 26 #[.slice none 0 0, .slice none 0 0]
    rwa [World.size_alloc] at this
  have HW0 := hide hw0
  have HI0 := hide (⟨hi, hz0, hz1, hz2⟩ : Tryd.prog.info? 3 = some i0 ∧ i0.zero = some (.int .i64 0) ∧ i0.size = 1 ∧ i0.bytes = 8)
  have HGW := hide hg
  clear hw0 hi hz0 hz1 hz2
  go_enter Tryd.func9, Tryd.ntmps9
  go_wp2
  rw [← unhide HW0, ← hg]
  have hgw : w.heap.size < g := by omega
  have HLL := hide hL
  clear HW0 hg hL
  go_loopw [5, 6] (fun d i wr => ∃ (k j : Nat) (Aj : Option Addr) (cj : Nat), k ≤ s.size ∧ i = .int .i64 k ∧ d = .string ⟨(scanD (L.take k)).toArray⟩ ∧ j = (scanJ L k).length ∧ Whole wr g 26 #[.slice none 0 0, .slice Aj j cj] ∧ wr.ownsRow (g + 1) 3 1 (.slice Aj j cj) j (i64s (scanJ L k)) ∧
      Whole wr w.heap.size 26 #[.slice none 0 0, .slice none 0 0] ∧ Below w.heap.size w wr) (fun _ i _ => s.size - (intOf i).toNat)
  case atStart => exact ⟨0, 0, none, 0, Nat.zero_le _, rfl, rfl, rfl, hG0, World.ownsRow_nil _ _ _ _, hR0, b0⟩
  case round =>
    obtain ⟨k, j, Aj, cj, hk, rfl, rfl, hj, hG, hO, hR, hB⟩ := hrel
    clear hG0 hR0 b0
    have hDl : (scanD (L.take k)).length ≤ k := by have h1 : (scanD (L.take k)).length ≤ (L.take k).length := List.length_filter_le _ _; rw [List.length_take] at h1; omega
    have hjk : j ≤ k := by rw [hj]; exact scanJ_len L k
    by_cases hlt : k < s.size
    · have hb := unhide HBY k hlt
      have hst := scanD_take hb
      by_cases h95 : s[k] = 95
      · rw [if_pos h95] at hst
        have hjs := scanJ_gap (h95 ▸ hb)
        have h95' : (s[k].toNat : Int) = 95 := by rw [h95]; rfl
        have HN := hide (⟨hst, hjs, hj, hG, hO, hR, hB⟩ : scanD (L.take (k + 1)) = scanD (L.take k) ∧ scanJ L (k + 1) = scanJ L k ∧ j = (scanJ L k).length ∧ Whole wr g 26 #[.slice none 0 0, .slice Aj j cj] ∧ wr.ownsRow (g + 1) 3 1 (.slice Aj j cj) j (i64s (scanJ L k)) ∧ Whole wr w.heap.size 26 #[.slice none 0 0, .slice none 0 0] ∧ Below w.heap.size w wr)
        clear hb hst h95 hjs hj hG hO hR hB
        go_wp2
        go_roundw
        case rel =>
          obtain ⟨h1, h2, h3, h4, h5, h6, h7⟩ := unhide HN
          exact ⟨k + 1, j, Aj, cj, by omega, by go_num, by rw [h1], by rw [h2]; exact h3, h4, by rw [h2]; exact h5, h6, h7⟩
        case measure => simp [intOf]; omega
      · rw [if_neg h95] at hst
        have hne : ((s[k].toNat : Int) == 95) = false := by
          rw [beq_eq_false_iff_ne]
          intro e
          exact h95 (UInt8.toNat_inj.1 (by rw [show (95 : UInt8).toNat = 95 from rfl]; omega))
        have hE := extract_one hlt
        obtain ⟨X, hX⟩ : ∃ X, X = scanD (L.take k) := ⟨_, rfl⟩
        rw [← hX] at hDl hst ⊢
        have hDD : ByteArray.mk X.toArray ++ ByteArray.mk [s[k]].toArray = ⟨(scanD (L.take (k + 1))).toArray⟩ := by rw [cat_list, hst]
        have HDD := hide hDD
        cases k with
        | zero =>
          have hjs : scanJ L 1 = scanJ L 0 := scanJ_first
          have HN := hide (⟨hj, hG, hO, hR, hB⟩ : j = (scanJ L 0).length ∧ Whole wr g 26 #[.slice none 0 0, .slice Aj j cj] ∧ wr.ownsRow (g + 1) 3 1 (.slice Aj j cj) j (i64s (scanJ L 0)) ∧ Whole wr w.heap.size 26 #[.slice none 0 0, .slice none 0 0] ∧ Below w.heap.size w wr)
          have HJS := hide hjs
          clear hb hst h95 hj hG hO hR hB hDD hX hjs
          go_wp2
          go_roundw
          case rel =>
            obtain ⟨h3, h4, h5, h6, h7⟩ := unhide HN
            exact ⟨1, j, Aj, cj, by omega, by go_num, by rw [unhide HDD], by rw [unhide HJS]; exact h3, h4, by rw [unhide HJS]; exact h5, h6, h7⟩
          case measure => simp [intOf]; omega
        | succ k2 =>
          have hlt2 : k2 < s.size := by omega
          have ha := unhide HBY k2 hlt2
          have hwk : IntKind.i64.wrap ((k2 : Int) + 1 - 1) = (k2 : Int) := by rw [IntKind.wrap_i64]; omega
          have hwk' : IntKind.i64.wrap (k2 : Int) = (k2 : Int) := by rw [IntKind.wrap_i64]; omega
          by_cases ha95 : s[k2] = 95
          · have hjs := scanJ_no hb h95 ha ha95
            have ha' : (s[k2].toNat : Int) = 95 := by rw [ha95]; rfl
            have HN := hide (⟨hj, hG, hO, hR, hB⟩ : j = (scanJ L (k2 + 1)).length ∧ Whole wr g 26 #[.slice none 0 0, .slice Aj j cj] ∧ wr.ownsRow (g + 1) 3 1 (.slice Aj j cj) j (i64s (scanJ L (k2 + 1))) ∧ Whole wr w.heap.size 26 #[.slice none 0 0, .slice none 0 0] ∧ Below w.heap.size w wr)
            have HJS := hide hjs
            clear hb hst h95 hj hG hO hR hB hDD hX hjs ha ha95
            go_wp2
            go_roundw
            case rel =>
              obtain ⟨h3, h4, h5, h6, h7⟩ := unhide HN
              exact ⟨k2 + 1 + 1, j, Aj, cj, by omega, by go_num, by rw [unhide HDD], by rw [unhide HJS]; exact h3, h4, by rw [unhide HJS]; exact h5, h6, h7⟩
            case measure => simp [intOf]; omega
          · have hjs := scanJ_yes hb h95 ha ha95
            rw [← hX] at hjs
            have ha' : ((s[k2].toNat : Int) == 95) = false := by
              rw [beq_eq_false_iff_ne]
              intro e
              exact ha95 (UInt8.toNat_inj.1 (by rw [show (95 : UInt8).toNat = 95 from rfl]; omega))
            have r0 := hG.cell 0
            have r1 := hG.cell 1
            have f1 := hG.frozen 1
            have hltg := hG.lt
            simp only [List.getElem?_toArray, List.getElem?_cons_zero, List.getElem?_cons_succ] at r0 r1
            have hjl : j + 1 = (scanJ L (k2 + 1 + 1)).length := by rw [hjs, List.length_append, ← hj]; rfl
            have hxs : i64s (scanJ L (k2 + 1)) ++ [Value.int .i64 (X.length : Int)] = i64s (scanJ L (k2 + 1 + 1)) := by rw [hjs]; unfold i64s; simp
            have HX2 := hide (⟨hxs, hjl⟩ : i64s (scanJ L (k2 + 1)) ++ [Value.int .i64 (X.length : Int)] = i64s (scanJ L (k2 + 1 + 1)) ∧ j + 1 = (scanJ L (k2 + 1 + 1)).length)
            have HF := hide (⟨hG, hR, hB⟩ : Whole wr g 26 #[.slice none 0 0, .slice Aj j cj] ∧ Whole wr w.heap.size 26 #[.slice none 0 0, .slice none 0 0] ∧ Below w.heap.size w wr)
            obtain ⟨hi, hz0, hz1, hz2⟩ := unhide HI0
            clear hb hst h95 hj hG hR hB hDD hX hjs ha ha95 hjl hxs
            go_wp2_with (at_builtin; refine wpList_append_one rfl (.tmp 30) (.tmp 33) 24 rfl (g + 1) 3 i0 (.int .i64 0) 8 Tryd.underlying24 hi hz0 hz1 hz2 rfl wr wr _ j (i64s (scanJ L (k2 + 1))) rfl hO (.int .i64 (X.length : Int)) rfl rfl rfl (by omega) (by unfold maxLen; omega) (Below.refl _ _) hltg ?_)
            intro v' w' hO' hb' hg'
            obtain ⟨A', c', rfl, _⟩ := own_form hO'
            obtain ⟨hG, hR, hB⟩ := unhide HF
            have hG1 := hG.below hb' (Nat.lt_succ_self g)
            have r1' := hG1.cell 1
            have f1' := hG1.frozen 1
            have l1' := hG1.lt
            simp only [List.getElem?_toArray, List.getElem?_cons_zero, List.getElem?_cons_succ] at r1'
            have hO2 := own_past hO' (p := ⟨g, 1, none⟩) (Nat.lt_succ_self g) (.slice A' (j + 1) c')
            rw [(unhide HX2).1] at hO2
            have hG2 := hG1.put 1 (.slice A' (j + 1) c')
            have hR2 := (hR.below hb' (show w.heap.size < g + 1 by omega)).far (p := ⟨g, 1, none⟩) (by simp; omega) (.slice A' (j + 1) c')
            have hB2 := (hB.trans (hb'.mono (show w.heap.size ≤ g + 1 by omega))).setCell (p := ⟨g, 1, none⟩) (by show w.heap.size ≤ g; omega) (.slice A' (j + 1) c')
            have HF2 := hide (⟨hG2, hO2, hR2, hB2⟩ : Whole (w'.setCell ⟨g, 1, none⟩ (.slice A' (j + 1) c')) g 26 #[.slice none 0 0, .slice A' (j + 1) c'] ∧ (w'.setCell ⟨g, 1, none⟩ (.slice A' (j + 1) c')).ownsRow (g + 1) 3 1 (.slice A' (j + 1) c') (j + 1) (i64s (scanJ L (k2 + 1 + 1))) ∧ Whole (w'.setCell ⟨g, 1, none⟩ (.slice A' (j + 1) c')) w.heap.size 26 #[.slice none 0 0, .slice none 0 0] ∧ Below w.heap.size w (w'.setCell ⟨g, 1, none⟩ (.slice A' (j + 1) c')))
            clear hO hO' hb' hg' hG hR hB hG1 hG2 hO2 hR2 hB2 r0 r1 f1 hltg hi hz0 hz1 hz2 HF
            go_wp2
            go_roundw
            case rel =>
              obtain ⟨h4, h5, h6, h7⟩ := unhide HF2
              exact ⟨k2 + 1 + 1, j + 1, A', c', by omega, by go_num, by rw [unhide HDD], (unhide HX2).2, h4, h5, h6, h7⟩
            case measure => simp [intOf]; omega
    · obtain rfl : k = s.size := by omega
      have hLt : L.take s.size = L := List.take_of_length_le (Nat.le_of_eq hLl)
      have hLL := unhide HLL
      rw [hLt]
      have hD : ByteArray.mk (scanD L).toArray = digB s := by rw [hLL]; rfl
      have hJ : scanJ L s.size = parJ s := by rw [hLL]; rfl
      rw [hD]
      rw [hJ] at hj hO
      have hjs : j ≤ 1048576 := by omega
      have hsm : Small (parJ s) := fun z hz => by
        have := scanJ_small L s.size z (by rw [hJ]; exact hz)
        omega
      have hds := digB_size s
      obtain ⟨b, hb⟩ : ∃ b, ppOK (digB s) = b := ⟨_, rfl⟩
      have H1 := hide (spp_any (digB s) (by omega) b hb wr)
      have HF := hide (⟨hG, hO, hR, hB⟩ : Whole wr g 26 #[.slice none 0 0, .slice Aj j cj] ∧ wr.ownsRow (g + 1) 3 1 (.slice Aj j cj) j (i64s (parJ s)) ∧ Whole wr w.heap.size 26 #[.slice none 0 0, .slice none 0 0] ∧ Below w.heap.size w wr)
      have HM := hide (⟨hjs, hsm⟩ : j ≤ 1048576 ∧ Small (parJ s))
      clear hG hO hR hB hD hJ hj hLt hLL hDl hjk hsm hjs
      go_wp2_with fail
      refine (unhide H1).mono ?_
      rintro e w2 ⟨A2, c2, rfl, o2, d2⟩
      obtain ⟨hG, hO, hR, hB⟩ := unhide HF
      have hG1 := hG.below d2 hG.lt
      have hR1 := hR.below d2 hR.lt
      have hB1 := below_after hB d2
      have hO1 := own_below hO d2
      have f0 := hG1.frozen 0
      have f1 := hG1.frozen 1
      have l1 := hG1.lt
      have r0 := hG1.cell 0
      simp only [List.getElem?_toArray, List.getElem?_cons_zero] at r0
      have hG2 : Whole (w2.setCell ⟨g, 0, none⟩ (.slice A2 (ppR (digB s)).length c2)) g 26 #[.slice A2 (ppR (digB s)).length c2, .slice Aj j cj] := hG1.put 0 (.slice A2 (ppR (digB s)).length c2)
      have hR2 := hR1.far (p := ⟨g, 0, none⟩) (by simp; omega) (.slice A2 (ppR (digB s)).length c2)
      have hB2 := hB1.setCell (p := ⟨g, 0, none⟩) (by show w.heap.size ≤ g; omega) (.slice A2 (ppR (digB s)).length c2)
      have hO2 := own_past hO1 (p := ⟨g, 0, none⟩) (Nat.lt_succ_self g) (.slice A2 (ppR (digB s)).length c2)
      have hgwr := hG.lt
      have o3 : Ints (w2.setCell ⟨g, 0, none⟩ (.slice A2 (ppR (digB s)).length c2)) wr.heap.size (.slice A2 (ppR (digB s)).length c2) (ppR (digB s)) := o2.past (p := ⟨g, 0, none⟩) hgwr _
      have hIJ : Ints (w2.setCell ⟨g, 0, none⟩ (.slice A2 (ppR (digB s)).length c2)) (g + 1) (.slice Aj j cj) (parJ s) := Ints.of_own hO2
      have haw : Away (.slice A2 (ppR (digB s)).length c2) (.slice Aj j cj) := apart' o2.since (show Until wr.heap.size (.slice Aj j cj) from fun k hk => (hO.lt k hk).2) (Nat.le_refl _)
      obtain ⟨w3, hw3⟩ : ∃ w3, w3 = w2.setCell ⟨g, 0, none⟩ (.slice A2 (ppR (digB s)).length c2) := ⟨_, rfl⟩
      have HW3 := hide hw3
      rw [← hw3] at hG2 hR2 hB2 o3 hIJ
      clear hG hO hR hB hG1 hR1 hB1 hO1 hO2 o2 d2 H1 HF hw3
      cases b with
      | false =>
        have hno : parOK s = false := by unfold parOK; rw [hb]; rfl
        have HNO := hide (⟨by unfold parQ; rw [hno]; rfl, by unfold parN; rw [hno]; rfl, hno⟩ : parQ s = [] ∧ parN s = [] ∧ parOK s = false)
        have q0 := hR2.cell 0
        have q1 := hR2.cell 1
        have e0 := hR2.frozen 0
        have e1 := hR2.frozen 1
        have hltr := hR2.lt
        simp only [List.getElem?_toArray, List.getElem?_cons_zero, List.getElem?_cons_succ] at q0 q1
        rw [unhide HW3] at q0 q1 e0 e1 hltr
        have HN := hide (⟨hR2, hB2⟩ : Whole w3 w.heap.size 26 #[.slice none 0 0, .slice none 0 0] ∧ Below w.heap.size w w3)
        clear hR2 hB2 hG2 o3 hIJ haw hb hno
        go_wp2_with fail
        obtain ⟨hR, hB⟩ := unhide HN
        have hWe := (hR.put 0 (.slice none 0 0)).put 1 (.slice none 0 0)
        rw [unhide HW3] at hWe hB
        refine bodyPost_ret (v := .tuple #[.agg #[.slice none 0 0, .slice none 0 0], .bool false]) (results_near Tryd.results9 _ _ w.heap.size 26 _ (0, 0) _ rfl hWe Tryd.underlying26 rfl nearInfo) rfl ?_
        rw [(unhide HNO).1, (unhide HNO).2.1, (unhide HNO).2.2]
        exact nearB_end false (NearAt.none_ _ (w.heap.size + 1)) (Nat.lt_succ_self _) hB
      | true =>
        have hp8 := ppR_le (digB s)
        have H2 := hide (sntxt_any A2 Aj (ppR (digB s)).length c2 w3.heap.size j cj w3.heap.size (ppR (digB s)) (parJ s) w3 (o3.arg (by omega) o3.cap (ppR_small _)) (by
          have h1 := hIJ.len
          exact hIJ.arg (by have := (unhide HM).1; omega) hIJ.cap (unhide HM).2))
        have q0 := hG2.cell 0
        have q1 := hG2.cell 1
        simp only [List.getElem?_toArray, List.getElem?_cons_zero, List.getElem?_cons_succ] at q0 q1
        rw [unhide HW3] at q0 q1
        have HN := hide (⟨hG2, hR2, hB2, o3, hIJ, haw⟩ : Whole w3 g 26 #[.slice A2 (ppR (digB s)).length c2, .slice Aj j cj] ∧ Whole w3 w.heap.size 26 #[.slice none 0 0, .slice none 0 0] ∧ Below w.heap.size w w3 ∧ Ints w3 wr.heap.size (.slice A2 (ppR (digB s)).length c2) (ppR (digB s)) ∧ Ints w3 (g + 1) (.slice Aj j cj) (parJ s) ∧ Away (.slice A2 (ppR (digB s)).length c2) (.slice Aj j cj))
        have HB := hide hb
        clear hR2 hB2 hG2 o3 hIJ haw hb
        go_wp2_with fail
        rw [← unhide HW3]
        refine (unhide H2).mono ?_
        rintro e w4 ⟨rfl, d4⟩
        obtain ⟨hG, hR, hB, o4, hIJ, haw⟩ := unhide HN
        have hG4 := hG.below d4 hG.lt
        have hR4 := hR.below d4 hR.lt
        have hB4 := below_after hB d4
        have hNr : NearAt w4 (w.heap.size + 1) (.slice A2 (ppR (digB s)).length c2) (.slice Aj j cj) (ppR (digB s)) (parJ s) := ⟨(o4.below d4).low (by omega), (hIJ.below d4).low (by omega), haw⟩
        have q0 := hR4.cell 0
        have q1 := hR4.cell 1
        have e0 := hR4.frozen 0
        have e1 := hR4.frozen 1
        have hltr := hR4.lt
        have p0 := hG4.cell 0
        have p1 := hG4.cell 1
        simp only [List.getElem?_toArray, List.getElem?_cons_zero, List.getElem?_cons_succ] at q0 q1 p0 p1
        obtain ⟨T, hT⟩ : ∃ T, T = ntext (ppR (digB s)) (parJ s) := ⟨_, rfl⟩
        rw [← hT]
        by_cases hTs : T = s
        · have hyes : parOK s = true := by unfold parOK; rw [unhide HB, ← hT, decide_eq_true hTs]; rfl
          have HNO := hide (⟨by unfold parQ; rw [hyes]; rfl, by unfold parN; rw [hyes]; rfl, hyes⟩ : parQ s = ppR (digB s) ∧ parN s = parJ s ∧ parOK s = true)
          have HN2 := hide (⟨hR4, hB4, hNr⟩ : Whole w4 w.heap.size 26 #[.slice none 0 0, .slice none 0 0] ∧ Below w.heap.size w w4 ∧ NearAt w4 (w.heap.size + 1) (.slice A2 (ppR (digB s)).length c2) (.slice Aj j cj) (ppR (digB s)) (parJ s))
          rw [hTs]
          clear hG hR hB o4 hIJ haw hG4 hR4 hB4 hNr hyes hTs hT HN H2 HB d4
          go_wp2_with fail
          obtain ⟨hR, hB, hNr⟩ := unhide HN2
          have hWe := (hR.put 0 (.slice A2 (ppR (digB s)).length c2)).put 1 (.slice Aj j cj)
          refine bodyPost_ret (v := .tuple #[.agg #[.slice A2 (ppR (digB s)).length c2, .slice Aj j cj], .bool true]) (results_near Tryd.results9 _ _ w.heap.size 26 _ (0, 0) _ rfl hWe Tryd.underlying26 rfl nearInfo) rfl ?_
          rw [(unhide HNO).1, (unhide HNO).2.1, (unhide HNO).2.2]
          exact nearB_end true hNr (Nat.lt_succ_self _) hB
        · have hno : parOK s = false := by unfold parOK; rw [unhide HB, ← hT, decide_eq_false hTs]; rfl
          have HNO := hide (⟨by unfold parQ; rw [hno]; rfl, by unfold parN; rw [hno]; rfl, hno⟩ : parQ s = [] ∧ parN s = [] ∧ parOK s = false)
          have HN2 := hide (⟨hR4, hB4⟩ : Whole w4 w.heap.size 26 #[.slice none 0 0, .slice none 0 0] ∧ Below w.heap.size w w4)
          have hne : (T.data.toList == s.toList) = false := by
            rw [ByteArray.toList_eq, beq_eq_false_iff_ne]
            intro e
            exact hTs (by cases T; cases s; simpa using e)
          have hne2 : (T.toList == s.toList) = false := by
            rw [ByteArray.toList_eq, ByteArray.toList_eq, beq_eq_false_iff_ne]
            intro e
            exact hTs (by cases T; cases s; simpa using e)
          clear hG hR hB o4 hIJ haw hG4 hR4 hB4 hNr hno hTs hT HN H2 HB d4
          go_wp2_with fail
          obtain ⟨hR, hB⟩ := unhide HN2
          have hWe := (hR.put 0 (.slice none 0 0)).put 1 (.slice none 0 0)
          refine bodyPost_ret (v := .tuple #[.agg #[.slice none 0 0, .slice none 0 0], .bool false]) (results_near Tryd.results9 _ _ w.heap.size 26 _ (0, 0) _ rfl hWe Tryd.underlying26 rfl nearInfo) rfl ?_
          rw [(unhide HNO).1, (unhide HNO).2.1, (unhide HNO).2.2]
          exact nearB_end false (NearAt.none_ _ (w.heap.size + 1)) (Nat.lt_succ_self _) hB
end Go.Proofs.YtichenjbkclljaaDoor


/-
  PLAIN: what the law FnNears says of counts and texts. Nothing here speaks of the program.
-/

namespace Go.Proofs.YtichenjbkclljaaDoor
set_option maxRecDepth 100000

theorem ntext_dig {q J : List Int} (h : nearOK q J = true) : digB (ntext q J) = ptext q ∧ parJ (ntext q J) = J := by
  obtain ⟨hq, hJ⟩ := nearOK_iff.1 h
  by_cases h0 : q.length = 0
  · have hJ0 : J = [] := by
      have := plOK_len hJ
      exact List.eq_nil_of_length_eq_zero (by omega)
    subst hJ0
    rw [ntext_nil h h0, ptext_nil hq h0]
    exact ⟨rfl, rfl⟩
  · rw [ntext_yes h h0, ptext_yes hq h0]
    obtain ⟨h1, h2⟩ := scan_back h
    constructor
    · unfold digB
      rw [show (ByteArray.mk (nearB q J q.length).toArray).data.toList = nearB q J q.length by simp, h1]
    · unfold parJ
      rw [show (ByteArray.mk (nearB q J q.length).toArray).data.toList = nearB q J q.length by simp]
      rw [show (ByteArray.mk (nearB q J q.length).toArray).size = (nearB q J q.length).length by show (nearB q J q.length).toArray.size = _; simp]
      exact h2
theorem near_back {q J : List Int} (h : nearOK q J = true) : parOK (ntext q J) = true ∧ parQ (ntext q J) = q ∧ parN (ntext q J) = J := by
  obtain ⟨hq, _⟩ := nearOK_iff.1 h
  obtain ⟨h1, h2⟩ := ntext_dig h
  obtain ⟨h3, h4⟩ := pp_text q
  have hok : parOK (ntext q J) = true := by
    unfold parOK
    rw [h1, h2, h3, hq, h4 hq]
    simp
  refine ⟨hok, ?_, ?_⟩
  · unfold parQ; rw [if_pos hok, h1, h4 hq]
  · unfold parN; rw [if_pos hok, h2]
theorem near_back_no {q J : List Int} (h : nearOK q J = false) : parOK (ntext q J) = false ∧ parQ (ntext q J) = [] ∧ parN (ntext q J) = [] := by
  have hok : parOK (ntext q J) = false := by
    rw [ntext_no h]
    unfold parOK
    have : ppOK (digB ByteArray.empty) = false := ppOK_none (by decide) (by decide)
    rw [this]; rfl
  refine ⟨hok, ?_, ?_⟩
  · unfold parQ; rw [if_neg (by simp [hok])]
  · unfold parN; rw [if_neg (by simp [hok])]
theorem num_revN {p q J : List Int} (hp : isP p = true) (h : nearOK q J = true) : numNear (revR p) (revQ q J) (revJJ q J) = numNear p q J := by
  obtain ⟨hq, hJ⟩ := nearOK_iff.1 h
  have h1 : nearOK q.reverse (plRev (q.length - 1) J) = true := nearOK_iff.2 ⟨isP_rev hq, by rw [List.length_reverse]; exact plRev_ok hJ⟩
  rw [revR_yes hp, show revQ q J = q.reverse by unfold revQ; rw [if_pos h], show revJJ q J = plRev (q.length - 1) J by unfold revJJ; rw [if_pos h], numNear_yes (isP_rev hp) h1, numNear_yes hp h, near_rev hJ]
theorem num_plain {p q : List Int} (hp : isP p = true) (hq : isP q = true) : numNear p q [] = ((occR p q).length : Nat) := by
  rw [numNear_yes hp (nearOK_nil hq), near_plain]
theorem num_occ {p q : List Int} (hp : isP p = true) (hq : isP q = true) : numOcc p q = ((occR p q).length : Nat) := by
  unfold numOcc; rw [hp, hq]; rfl
theorem num_con {p y : List Int} (hp : isP p = true) (hy : isP y = true) (h0 : y.length ≠ 0) : numNear p (conQ y) (conR y) = numRun p y := by
  rw [show conQ y = y by unfold conQ; rw [if_pos hy], show conR y = conJ y.length by unfold conR; rw [if_pos hy], numNear_yes hp (con_near hy), near_runs hp hy (by omega)]
  unfold numRun
  rw [hp, hy, decide_eq_true h0]; rfl
theorem num_le {p q J : List Int} (hp : isP p = true) (h : nearOK q J = true) : numNear p q J ≤ ((occR p q).length : Nat) := by
  rw [numNear_yes hp h]
  exact Int.ofNat_le.2 (near_le p q J)
theorem parQ_le (s : ByteArray) : (parQ s).length ≤ 8 ∧ (parN s).length ≤ 1048576 := by
  unfold parQ parN
  cases h : parOK s with
  | false => simp
  | true =>
    rw [if_pos rfl, if_pos rfl]
    have h8 := ppR_le (digB s)
    refine ⟨h8, ?_⟩
    unfold parOK at h
    rw [Bool.and_eq_true, decide_eq_true_eq] at h
    cases hn : nearOK (ppR (digB s)) (parJ s) with
    | true => have := plOK_len (nearOK_iff.1 hn).2; omega
    | false =>
      have h2 := h.2
      rw [ntext_no hn] at h2
      have h3 := scanJ_len s.data.toList s.size
      have hz : s.size = 0 := by rw [← h2]; rfl
      show (scanJ s.data.toList s.size).length ≤ 1048576
      omega
theorem isP_lite {p : List Int} (h : isP p = true) : Lite 9 p := ⟨by have := isP_le h; omega, fun z hz => by
  obtain ⟨k, hk⟩ := List.getElem?_of_mem hz
  have := isP_range h hk
  have := isP_le h
  omega⟩
theorem plOK_lite {n : Nat} {J : List Int} (h : PlOK n J) (hn : n ≤ 8) : Lite 9 J := ⟨by have := plOK_len h; omega, fun z hz => by have := h.1 z hz; omega⟩
theorem rev_lite (q J : List Int) : Lite 9 (revQ q J) ∧ Lite 9 (revJJ q J) := by
  unfold revQ revJJ
  cases h : nearOK q J with
  | false => exact ⟨⟨by simp, small_nil⟩, ⟨by simp, small_nil⟩⟩
  | true =>
    obtain ⟨hq, hJ⟩ := nearOK_iff.1 h
    have h8 := isP_le hq
    exact ⟨isP_lite (isP_rev hq), plOK_lite (plRev_ok hJ) (by omega)⟩
theorem con_lite (y : List Int) : Lite 9 (conQ y) ∧ Lite 9 (conR y) := by
  unfold conQ conR
  cases h : isP y with
  | false => exact ⟨⟨by simp, small_nil⟩, ⟨by simp, small_nil⟩⟩
  | true =>
    have h8 := isP_le h
    exact ⟨isP_lite h, plOK_lite (conJ_ok _) (by omega)⟩
theorem revR_lite9 {p : List Int} (h : isP p = true) : Lite 9 (revR p) := by rw [revR_yes h]; exact isP_lite (isP_rev h)
end Go.Proofs.YtichenjbkclljaaDoor
