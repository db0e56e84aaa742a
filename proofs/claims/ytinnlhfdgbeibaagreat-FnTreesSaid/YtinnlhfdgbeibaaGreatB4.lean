/-
  Words and contracts that the laws lean on, bundled: Span, Iv, Pat, Same, Parts, Join, IvS, AllS, Infl.
-/
import Derived.Test.YtinnlhfdgbeibaaGreatB3
import Derived.Test.YtinnlhfdgbeibaaGreatB2
import Derived.Laws.StructEq
import Derived.IntWalk
import Derived.Test.YtinnlhfdgbeibaaGreatB1
import Derived.Deep.RegionHeld3

/-
  impl.keepSpan and its closure, by their contracts.
-/

namespace Go.Proofs.YtinnlhfdgbeibaaGreat
set_option maxRecDepth 100000
open Go.RowKit

/-- Of what stood, blocks g1 and g2 alone may have turned. -/
structure Only (g1 g2 : Nat) (w w' : World) : Prop where
  os : w'.os = w.os
  tape : w'.tape = w.tape
  output : w'.output = w.output
  size : w'.heap.size = w.heap.size
  block : ∀ i, i ≠ g1 → i ≠ g2 → w'.heap[i]? = w.heap[i]?
theorem Only.refl (g1 g2 : Nat) (w : World) : Only g1 g2 w w := ⟨rfl, rfl, rfl, rfl, fun _ _ _ => rfl⟩
theorem Only.drew {g1 g2 : Nat} {w w' : World} (h : Only g1 g2 w w') : Only g1 g2 w w'.drew := ⟨h.os, h.tape, h.output, h.size, h.block⟩
theorem Only.drewN {g1 g2 : Nat} {w w' : World} (h : Only g1 g2 w w') (k : Nat) : Only g1 g2 w (w'.drewN k) := ⟨h.os, h.tape, h.output, h.size, h.block⟩
theorem Only.set1 {g1 g2 : Nat} {w w' : World} (h : Only g1 g2 w w') (u : Value) : Only g1 g2 w (w'.setCell ⟨g1, 0, none⟩ u) :=
  ⟨h.os, h.tape, h.output, by simp; exact h.size, fun i h1 h2 => (Below.heap_setCell _ _ _ i (fun e => h1 e)).trans (h.block i h1 h2)⟩
theorem Only.set2 {g1 g2 : Nat} {w w' : World} (h : Only g1 g2 w w') (u : Value) : Only g1 g2 w (w'.setCell ⟨g2, 0, none⟩ u) :=
  ⟨h.os, h.tape, h.output, by simp; exact h.size, fun i h1 h2 => (Below.heap_setCell _ _ _ i (fun e => h2 e)).trans (h.block i h1 h2)⟩
theorem Only.below {g1 g2 B : Nat} {w w' : World} (h : Only g1 g2 w w') (h1 : B ≤ g1) (h2 : B ≤ g2) : Below B w w' :=
  ⟨h.os, h.tape, h.output, Nat.le_of_eq h.size.symm, fun i hi => h.block i (by omega) (by omega)⟩

set_option maxHeartbeats 800000 in
theorem take_any (g1 g2 : Nat) (l h v m M : Int) (hm : (v < l ∧ m = v) ∨ (¬ v < l ∧ m = l)) (hM : (h < v ∧ M = v) ∨ (¬ h < v ∧ M = h)) (w : World) (hl : Whole w g1 3 #[.int .i64 l]) (hh : Whole w g2 3 #[.int .i64 h]) (hne : g1 ≠ g2) :
    Calls Tryz.prog 125 #[.int .i64 v, .pointer (some ⟨g1, 0, none⟩), .pointer (some ⟨g2, 0, none⟩)] w fun e w' =>
      e = .returned (.tuple #[.int .i64 m, .int .i64 M]) ∧ Whole w' g1 3 #[.int .i64 m] ∧ Whole w' g2 3 #[.int .i64 M] ∧ Only g1 g2 w w' := by
  have c1 := hl.cell 0
  have c2 := hh.cell 0
  have f1 := hl.frozen 0
  have f2 := hh.frozen 0
  have hne' := hne.symm
  simp at c1 c2
  rcases hm with ⟨h1, rfl⟩ | ⟨h1, rfl⟩ <;> rcases hM with ⟨h2, rfl⟩ | ⟨h2, rfl⟩
  all_goals
    go_enter Tryz.func125, Tryz.ntmps125
    go_wp2
    go_region
    all_goals (try go_wp2)
    go_quiet (fail)
    go_wp2
    go_ret2
    exact ⟨rfl, ((hl.put 0 _).far (p := ⟨g2, 0, none⟩) hne _), ((hh.far (p := ⟨g1, 0, none⟩) hne' _).put 0 _), (((Only.refl g1 g2 w).set1 _).set2 _).drew.drewN _⟩

theorem keep_any (w : World) : Calls Tryz.prog 117 #[] w fun e w' =>
    e = .returned (.func (.func 125) #[] #[.pointer (some ⟨w.heap.size, 0, none⟩), .pointer (some ⟨w.heap.size + 1, 0, none⟩)]) ∧
      Whole w' w.heap.size 3 #[.int .i64 8] ∧ Whole w' (w.heap.size + 1) 3 #[.int .i64 1] ∧ Below w.heap.size w w' := by
  have hmf : ∀ (fn : Fn) (first cap : Array Value) (w : World), (Instr.makeFunc fn first cap).run Tryz.prog w = .ok (.func fn first cap) w := fun _ _ _ _ => rfl
  go_enter Tryz.func117, Tryz.ntmps117
  go_wp2
  go_ret
  refine ⟨rfl, ?_, ?_, ?_⟩
  · exact (Whole.new w 3 #[.int .i64 8]).alloc (.cells #[.int .i64 1] 3)
  · have h := Whole.new (w.alloc (.cells #[.int .i64 8] 3)) 3 #[.int .i64 1]
    simp at h
    exact h
  · exact ((Below.refl w.heap.size w).alloc (Nat.le_refl _) _).alloc (by simp) _

/-- The cells of a list of pairs; a list of pairs of the call's own. -/
def prC (l : List (Int × Int)) : List Value := l.flatMap fun x => [.int .i64 x.1, .int .i64 x.2]
theorem prC_snoc (l : List (Int × Int)) (f t : Int) : prC (l ++ [(f, t)]) = prC l ++ [.int .i64 f, .int .i64 t] := by simp [prC]
theorem prC_length (l : List (Int × Int)) : (prC l).length = l.length * 2 := by
  induction l with
  | nil => rfl
  | cons x l ih =>
    have e : prC (x :: l) = [.int .i64 x.1, .int .i64 x.2] ++ prC l := by simp [prC]
    rw [e, List.length_append, ih, List.length_cons]; simp; omega
theorem prC_at {l : List (Int × Int)} {k : Nat} {x : Int × Int} (h : l[k]? = some x) : (prC l)[k * 2]? = some (.int .i64 x.1) ∧ (prC l)[k * 2 + 1]? = some (.int .i64 x.2) := by
  induction l generalizing k with
  | nil => simp at h
  | cons y l ih =>
    have e : prC (y :: l) = .int .i64 y.1 :: .int .i64 y.2 :: prC l := by simp [prC]
    cases k with
    | zero =>
      simp at h
      subst h
      rw [e]
      exact ⟨rfl, rfl⟩
    | succ k =>
      have h1 := ih (k := k) (by simpa using h)
      rw [e, show (k + 1) * 2 = (k * 2 + 1) + 1 by omega]
      simp only [List.getElem?_cons_succ]
      exact h1
def Prs (w : World) (B : Nat) (v : Value) (l : List (Int × Int)) : Prop := w.ownsRow B 101 2 v l.length (prC l)
theorem pairInfo : (Tryz.prog.info? 101).map (fun i => (i.zero, i.size, i.bytes)) = some (some (.agg #[.int .i64 0, .int .i64 0]), 2, 16) := by kernel_rfl
theorem own_below_k {w w' : World} {base n k : Nat} {e : TypeId} {v : Value} {xs : List Value} (h : w.ownsRow base e k v n xs) (hb : Below w.heap.size w w') : w'.ownsRow base e k v n xs :=
  h.kept (grown_of_below hb none) (by cases hv : v.ownBlock <;> simp)
theorem Prs.below {w w' : World} {B : Nat} {v : Value} {l : List (Int × Int)} (h : Prs w B v l) (hb : Below w.heap.size w w') : Prs w' B v l := own_below_k h hb
theorem Prs.kept {w w' : World} {B : Nat} {v : Value} {l : List (Int × Int)} {row : Option Nat} (h : Prs w B v l) (hg : w.grownBy w' row) (hne : v.ownBlock = none ∨ v.ownBlock ≠ row) : Prs w' B v l := World.ownsRow.kept h hg hne
theorem Prs.nil (w : World) (B : Nat) : Prs w B (.slice none 0 0) [] := ⟨rfl, .inl ⟨rfl, rfl⟩⟩
theorem Prs.low {w : World} {B B' : Nat} {v : Value} {l : List (Int × Int)} (h : Prs w B v l) (hB : B' ≤ B) : Prs w B' v l := by
  refine ⟨h.1, ?_⟩
  rcases h.2 with h0 | ⟨g, cap, cur, hv, hb, hr⟩
  · exact .inl h0
  · exact .inr ⟨g, cap, cur, hv, Nat.le_trans hB hb, hr⟩
theorem Prs.slice {w : World} {B : Nat} {v : Value} {l : List (Int × Int)} (h : Prs w B v l) : ∃ A c, v = .slice A l.length c := by
  rcases h.2 with ⟨rfl, hz⟩ | ⟨g, cap, cur, rfl, _⟩
  · exact ⟨none, 0, by rw [hz]⟩
  · exact ⟨_, _, rfl⟩
theorem Prs.ne {w : World} {B g : Nat} {v : Value} {l : List (Int × Int)} {cs : Array Value} (h : Prs w B v l) (hw : Whole w g 3 cs) : some g ≠ v.ownBlock := by
  rcases h.2 with ⟨rfl, _⟩ | ⟨g', cap, cur, rfl, _, hg, _⟩
  · simp [Value.ownBlock]
  · simp only [Value.ownBlock]
    intro e
    injection e with e
    subst e
    unfold Whole at hw
    rw [hw] at hg
    injection hg with hg
    injection hg with _ h2
    exact absurd h2 (by decide)
theorem Prs.only {w w' : World} {B g1 g2 : Nat} {v : Value} {l : List (Int × Int)} {c1 c2 : Array Value} (h : Prs w B v l) (h1 : Whole w g1 3 c1) (h2 : Whole w g2 3 c2) (ho : Only g1 g2 w w') : Prs w' B v l := by
  have n1 := h.ne h1
  have n2 := h.ne h2
  refine ⟨h.1, ?_⟩
  rcases h.2 with h0 | ⟨g', cap, cur, rfl, hb, hg, hr⟩
  · exact .inl h0
  · simp only [Value.ownBlock] at n1 n2
    exact .inr ⟨g', cap, cur, rfl, hb, (ho.block g' (fun e => n1 (by rw [e])) (fun e => n2 (by rw [e]))).trans hg, hr⟩
/-- Where pair k lies, and its two cells. -/
theorem Prs.at_ {w : World} {B n c k : Nat} {A : Option Addr} {l : List (Int × Int)} {x : Int × Int} (h : Prs w B (.slice A n c) l) (hx : l[k]? = some x) :
    ∃ g, A = some ⟨g, 0, none⟩ ∧ g < w.heap.size ∧ w.cell? ⟨g, k * 2, none⟩ = some (.int .i64 x.1) ∧ w.cell? ⟨g, k * 2 + 1, none⟩ = some (.int .i64 x.2) := by
  obtain ⟨h1, h2⟩ := prC_at hx
  have hk := (List.getElem?_eq_some_iff.1 hx).1
  rcases h.2 with ⟨hv, hz⟩ | ⟨g, cap, cur, hv, hb, hg, hnc, _, hs, ht⟩
  · omega
  · injection hv with hA
    refine ⟨g, hA, (Array.getElem?_eq_some_iff.1 hg).1, ?_, ?_⟩
    · rw [cell_of_row w g (k * 2) cur _ (0, 0) hg, ← h1, ← ht, List.getElem?_take, if_pos (by omega)]; simp
    · rw [cell_of_row w g (k * 2 + 1) cur _ (0, 0) hg, ← h2, ← ht, List.getElem?_take, if_pos (by omega)]; simp
theorem wpList_append_pair {ops : Array Oper} {rest : List Oper} {o : Oper} {a : Act} {W : World} {Q : Exit → Act → World → Prop} (hgd : o.guard = none) (sl x : Operand)
    (ho : o.op = .call { callee := .builtin .append, args := #[sl, x], argTypes := #[98, 98] })
    (base : Nat) (w0 wr : World) (v : Value) (l : List (Int × Int)) (f t : Int) (hs : a.eval sl = v) (hx : a.eval x = .slice (some ⟨wr.heap.size, 0, none⟩) 1 1) (hW : W = wr.alloc (.cells #[.int .i64 f, .int .i64 t] 101))
    (hP : Prs wr base v l) (hn : l.length ≤ 1048576) (hb : Below base w0 wr) (hbase : base ≤ wr.heap.size)
    (K : ∀ v' w', Prs w' base v' (l ++ [(f, t)]) → Below base w0 w' → wr.grownBy w' v.ownBlock → wpList Tryz.prog ops Q rest (a.put o.dst v') w') : wpList Tryz.prog ops Q (o :: rest) a W := by
  obtain ⟨i0, hi, hz0, hz1, hz2⟩ := info_parts pairInfo
  subst hW
  refine wpList_append_own _ hgd sl x 98 ho base 101 i0 (.agg #[.int .i64 0, .int .i64 0]) 2 16 Tryz.underlying98 hi hz0 hz1 hz2 rfl (by decide) v _ _ hs (World.ownsRow.alloc hP _) ⟨wr.heap.size, 0, none⟩ 1 1 [.int .i64 f, .int .i64 t] hx rfl ?_ ?_ (by unfold maxLen; omega) (by omega) (by simp; omega) ?_
  · intro j u hj
    match j, hj with
    | 0, hj => simp at hj; subst hj; simp [Addr.add]
    | 1, hj => simp at hj; subst hj; simp [Addr.add]
  · intro u hu
    simp only [List.mem_cons, List.not_mem_nil, or_false] at hu
    rcases hu with rfl | rfl <;> rfl
  · intro v' w' h2 h3 _
    refine K v' w' ?_ ?_ ?_
    · unfold Prs
      rw [prC_snoc, List.length_append]
      exact h2
    · exact (hb.alloc hbase _).grown h3 (by simp; omega) (fun k hk => (World.ownsRow.lt hP k hk).1)
    · exact ⟨h3.os, h3.tape, h3.output, Nat.le_trans (by simp) h3.size, fun k hk hne => (h3.block k (by simp; omega) hne).trans (Below.heap_alloc wr _ k hk)⟩

def GivesP (w : World) (l : List (Int × Int)) (e : Ending) (w' : World) : Prop := ∃ A c, e = .returned (.slice A l.length c) ∧ Prs w' w.heap.size (.slice A l.length c) l ∧ Below w.heap.size w w'
theorem GivesP.mk {w w' : World} {v : Value} {l : List (Int × Int)} (h : Prs w' w.heap.size v l) (hb : Below w.heap.size w w') : GivesP w l (.returned v) w' := by
  obtain ⟨A, c, rfl⟩ := h.slice
  exact ⟨A, c, rfl, h, hb⟩
theorem min_cases (a b : Int) : (b < a ∧ min a b = b) ∨ (¬ b < a ∧ min a b = a) := by omega
theorem max_cases (a b : Int) : (a < b ∧ max a b = b) ∨ (¬ a < b ∧ max a b = a) := by omega

set_option maxHeartbeats 1600000 in
theorem iall_any (A : Option Addr) (n c B : Nat) (zs : List Int) (w : World) (h : Arg w B A n c zs) (hp : isP zs = true) :
    Calls Tryz.prog 101 #[.slice A n c] w (GivesP w (ivL zs)) := by
  have hl := h.len
  have hn8 : n ≤ 8 := by have := isP_le hp; omega
  have HL := hide hl
  have HC := hide h
  have HP := hide hp
  have hP0 := Prs.nil w w.heap.size
  clear h hl hp
  go_enter Tryz.func101, Tryz.ntmps101
  go_wp2
  go_loopw [3, 4, 5, 6, 7, 8] (fun v f _ _ _ _ wr => ∃ a : Nat, a ≤ n ∧ f = .int .i64 ((a : Int) + 1) ∧ Below w.heap.size w wr ∧ Prs wr w.heap.size v (ivK zs a)) (fun _ f _ _ _ _ _ => n + 1 - (intOf f).toNat)
  case atStart => exact ⟨0, Nat.zero_le _, rfl, Below.refl _ _, hP0⟩
  case round =>
    obtain ⟨a, ha, rfl, hbw, hP⟩ := hrel
    clear hP0
    by_cases hlt : a < n
    · have hlt' : (a : Int) + 1 ≤ (n : Int) := by omega
      have H1 := hide (keep_any wr)
      have hsz := hbw.size
      obtain ⟨g, hg⟩ : ∃ g, g = wr.heap.size := ⟨_, rfl⟩
      go_wp2_with fail
      refine (unhide H1).mono ?_
      rintro e w1 ⟨rfl, hW1, hW2, hb1⟩
      rw [← hg] at hsz hW1 hW2 ⊢
      have hb2 := below_after hbw hb1
      have hP2 : Prs w1 w.heap.size u3 (ivK zs a ++ rowI zs a 0) := by rw [rowI, List.append_nil]; exact hP.below hb1
      have hW1' : Whole w1 g 3 #[.int .i64 (lo (seg zs a 0))] := by rw [seg_zero]; exact hW1
      have hW2' : Whole w1 (g + 1) 3 #[.int .i64 (hi (seg zs a 0))] := by rw [seg_zero]; exact hW2
      clear hb1 hP hW1 hW2 hbw hg H1
      go_wp2
      go_loopw [3, 6, 7, 8] (fun v l _ _ wi => ∃ k : Nat, a + k ≤ n ∧ l = .int .i64 ((a : Int) + 1 + k) ∧ Below w.heap.size w wi ∧ Prs wi w.heap.size v (ivK zs a ++ rowI zs a k) ∧ Whole wi g 3 #[.int .i64 (lo (seg zs a k))] ∧ Whole wi (g + 1) 3 #[.int .i64 (hi (seg zs a k))]) (fun _ l _ _ _ => n + 1 - (intOf l).toNat)
      case atStart => exact ⟨0, by omega, by go_num, hb2, hP2, hW1', hW2'⟩
      case round =>
        obtain ⟨k, hk, rfl, hbw, hP, hW1, hW2⟩ := hrel
        clear hP2 hW1' hW2' hb2
        by_cases hlt2 : a + k < n
        · have hlt2' : (a : Int) + 1 + k ≤ (n : Int) := by omega
          have hA := (unhide HC).below hbw
          obtain ⟨ad, u, rfl, _, hu, hc⟩ := hA.reads.at_ hlt2
          obtain ⟨z, hz, rfl⟩ := i64_at hu
          have hsg := seg_snoc hz
          have hlo := lo_snoc (seg zs a k) z
          have hhi := hi_snoc (seg zs a k) z
          rw [← hsg] at hlo hhi
          have hbnd : 1 ≤ lo (seg zs a (k + 1)) ∧ lo (seg zs a (k + 1)) ≤ 8 ∧ 1 ≤ hi (seg zs a (k + 1)) ∧ hi (seg zs a (k + 1)) ≤ 8 := ⟨lo_ge (unhide HP) a (k + 1), (lo_le _).2, (le_hi _).2, hi_le8 (unhide HP) a (k + 1)⟩
          have H2 := hide (take_any g (g + 1) (lo (seg zs a k)) (hi (seg zs a k)) z (lo (seg zs a (k + 1))) (hi (seg zs a (k + 1))) (by rw [hlo]; exact min_cases _ _) (by rw [hhi]; exact max_cases _ _) wr hW1 hW2 (by omega))
          have HV := hide (show (iv zs a k = true ↔ hi (seg zs a (k + 1)) - lo (seg zs a (k + 1)) = (k : Int)) from iv_true)
          obtain ⟨L, hL⟩ : ∃ L, L = lo (seg zs a (k + 1)) := ⟨_, rfl⟩
          obtain ⟨M, hM⟩ : ∃ M, M = hi (seg zs a (k + 1)) := ⟨_, rfl⟩
          rw [← hL, ← hM] at H2 HV hbnd
          have HLM := hide (And.intro hL hM)
          have hln : (ivK zs a ++ rowI zs a k).length ≤ 1048576 := by
            have h1 := ivK_le zs a
            have h2 := rowI_le zs a k
            have h3 : a * zs.length ≤ 8 * 8 := Nat.mul_le_mul (by omega) (by rw [unhide HL]; exact hn8)
            rw [List.length_append]; omega
          obtain ⟨hb1', hb2', hb3', hb4'⟩ := hbnd
          clear hu hz hsg hlo hhi hL hM hA
          go_wp2_with fail
          refine (unhide H2).mono ?_
          rintro e w2 ⟨rfl, hV1, hV2, ho⟩
          clear H2
          have hP3 := hP.only hW1 hW2 ho
          have hge := hW1.lt
          have hb3 := hbw.trans (ho.below (by omega) (by omega))
          obtain ⟨hL, hM⟩ := unhide HLM
          rw [hL] at hV1
          rw [hM] at hV2
          clear hP hW1 hW2 ho hbw hL hM
          cases hv : iv zs a k with
          | true =>
            have heq := (unhide HV).1 hv
            have heq' : M - L = (a : Int) + 1 + k - ((a : Int) + 1) := by omega
            have hrow := hide (rowI_yes hv)
            clear hv
            go_wp2_with (first
              | (at_builtin; refine wpList_append_pair rfl (.tmp 40) (.tmp 44) rfl w.heap.size w w2 _ _ ((a : Int) + 1) ((a : Int) + 1 + k) rfl rfl rfl hP3 hln hb3 hb3.size ?_))
            intro v4 w4 hP4 hb4 hg4
            have hP5 : Prs w4 w.heap.size v4 (ivK zs a ++ rowI zs a (k + 1)) := by rw [unhide hrow, show (a : Int) + k + 1 = a + 1 + k by omega]; exact hP4
            have hV3 := hV1.grown hg4 (hP3.ne hV1)
            have hV4 := hV2.grown hg4 (hP3.ne hV2)
            clear hP4 hg4 hP3 hV1 hV2 hb3 heq heq'
            go_wp2
            go_roundw
            case rel => exact ⟨k + 1, by omega, by go_num, hb4, hP5, hV3, hV4⟩
            case measure => simp [intOf]; omega
          | false =>
            have hne : ¬ M - L = (k : Int) := fun e => by rw [(unhide HV).2 e] at hv; cases hv
            have hne' : ¬ M - L = (a : Int) + 1 + k - ((a : Int) + 1) := by omega
            have hP5 : Prs w2 w.heap.size u3 (ivK zs a ++ rowI zs a (k + 1)) := by rw [rowI_no hv]; exact hP3
            clear hv hP3
            go_wp2
            go_roundw
            case rel => exact ⟨k + 1, by omega, by go_num, hb3, hP5, hV1, hV2⟩
            case measure => simp [intOf]; omega
        · have hk2 : k = n - a := by omega
          have hP5 : Prs wr w.heap.size u3 (ivK zs (a + 1)) := by rw [ivK, unhide HL, ← hk2]; exact hP
          have hlt2' : ¬ (a : Int) + 1 + k ≤ (n : Int) := by omega
          clear hP hW1 hW2 hk2
          go_wp2
          go_roundw
          case rel => exact ⟨a + 1, by omega, by go_num, hbw, hP5⟩
          case measure => simp [intOf]; omega
    · obtain rfl : n = a := by omega
      have hP5 : Prs wr w.heap.size u3 (ivL zs) := by rw [ivL, unhide HL]; exact hP
      have hlt' : ¬ (n : Int) + 1 ≤ (n : Int) := by omega
      clear hP
      go_wp2
      go_ret
      exact GivesP.mk hP5 hbw
end Go.Proofs.YtinnlhfdgbeibaaGreat


/-
  impl.CountIntervals, slices.Index and slices.Contains over pairs, impl.IsInterval, by their contracts.
-/

namespace Go.Proofs.YtinnlhfdgbeibaaGreat
set_option maxRecDepth 100000
open Go.RowKit

theorem eqPair (a b c d : Int) (w : World) : (Op.equalIn 10000 101 (.agg #[.int .i64 a, .int .i64 b]) (.agg #[.int .i64 c, .int .i64 d])).run Tryz.prog w = .ok (a == c && b == d) w := by
  have u3 := Tryz.underlying3
  have hS : Tryz.prog.underlying 101 = some (.struct (Tryz.prog.fieldsOf 101)) := by kernel_rfl
  rw [show (10000 : Nat) = 9999 + 1 from rfl, run_equalIn_agg w 9999 101 _ _ hS (by kernel_rfl)]
  simp only [Program.fieldsOf, Tryz.underlying101]
  go_simp
  by_cases h1 : a = c <;> by_cases h2 : b = d <;> simp [h1, h2]

theorem Ints.made2 (w : World) (B : Nat) (a b : Int) (hB : B ≤ w.heap.size) : Ints (w.alloc (.cells #[.int .i64 a, .int .i64 b] 3)) B (.slice (some ⟨w.heap.size, 0, none⟩) 2 2) [a, b] :=
  Ints.of_own (zs := [a, b]) ⟨rfl, .inr ⟨w.heap.size, 2, #[.int .i64 a, .int .i64 b], rfl, hB, heap_alloc_new w _, Nat.le_refl _, by unfold maxLen; omega, rfl, rfl⟩⟩

theorem Prs.keepI {w w' : World} {B : Nat} {v : Value} {l : List (Int × Int)} (h : Prs w B v l) (hk : KeepI w w') : Prs w' B v l := by
  refine ⟨h.1, ?_⟩
  rcases h.2 with h0 | ⟨g', cap, cur, rfl, hb, hg, hr⟩
  · exact .inl h0
  · exact .inr ⟨g', cap, cur, rfl, hb, (hk.block g' _ _ _ hg (by decide)).trans hg, hr⟩
theorem wpList_push_row_keep {ops : Array Oper} {rest : List Oper} {o : Oper} {a : Act} {W : World} {Q : Exit → Act → World → Prop} (hgd : o.guard = none) (sl x : Operand)
    (ho : o.op = .call { callee := .builtin .append, args := #[sl, x], argTypes := #[26, 26] })
    (base : Nat) (W0 w0 wr : World) (v u : Value) (zss : List (List Int)) (zs : List Int) (hs : a.eval sl = v) (hx : a.eval x = .slice (some ⟨wr.heap.size, 0, none⟩) 1 1) (hW : W = wr.alloc (.cells #[u] 24))
    (hS : IntsS w0 base v zss) (hb0 : Below w0.heap.size w0 wr) (hu : Ints wr w0.heap.size u zs) (hn : zss.length ≤ 1048576) (hb : Below base W0 wr) (hbase : base ≤ w0.heap.size)
    (K : ∀ v' w', IntsS w' base v' (zss ++ [zs]) → Below base W0 w' → KeepI wr w' → wpList Tryz.prog ops Q rest (a.put o.dst v') w') : wpList Tryz.prog ops Q (o :: rest) a W := by
  obtain ⟨i0, hi, hz0, hz1, hz2⟩ := info_parts rowsInfo
  obtain ⟨vs, hown, hin⟩ := hS
  have hown1 := own_below hown hb0
  obtain ⟨A1, c1, rfl⟩ := hu.slice
  refine wpList_append_one hgd sl x 26 ho base 24 i0 (.slice none 0 0) 24 Tryz.underlying26 hi hz0 hz1 hz2 rfl W0 wr v _ _ hs hown1 _ hx hW rfl (by omega) (by unfold maxLen; omega) hb (Nat.le_trans hbase hb0.size) fun v' w' h1 h2 h3 => K v' w' ?_ h2 (KeepI.of_grown hown1 h3)
  have hk := KeepI.of_grown hown1 h3
  refine ⟨vs ++ [.slice A1 zs.length c1], by rw [List.length_append]; exact h1, ?_⟩
  exact ((hin.keepI (KeepI.of_below hb0)).keepI hk).push ((hu.low hbase).keepI hk) (hin.away_new hu.since (Nat.le_refl _))
theorem take_snoc_p {l : List (Int × Int)} {k : Nat} {x : Int × Int} (h : l[k]? = some x) : l.take (k + 1) = l.take k ++ [x] := by rw [List.take_add_one, h]; rfl
theorem inner_cases (n : Nat) (f t : Int) : (f < t ∧ inner n (f, t) = !(f == 1 && t == (n : Int))) ∨ (¬ f < t ∧ inner n (f, t) = false) := by
  by_cases h : f < t
  · left
    refine ⟨h, ?_⟩
    rw [Bool.eq_iff_iff]
    simp [inner, h]
  · right
    exact ⟨h, by simp [inner, h]⟩

set_option maxHeartbeats 800000 in
theorem iivs_any (A : Option Addr) (n c B : Nat) (zs : List Int) (w : World) (h : Arg w B A n c zs) :
    Calls Tryz.prog 87 #[.slice A n c] w (GivesSS w (ivsR zs)) := by
  obtain ⟨b, hb⟩ : ∃ b, isP zs = b := ⟨_, rfl⟩
  have H0 := hide (iisperm_any A n c B zs b hb w h.reads h.under h.le h.small)
  cases b with
  | false =>
    rw [ivsR_no hb]
    clear hb h
    go_enter Tryz.func87, Tryz.ntmps87
    go_wp2_with fail
    refine (unhide H0).mono ?_
    rintro e w1 ⟨rfl, hb⟩
    clear H0
    go_wp2
    go_ret
    exact GivesSS.mk (v := .slice none 0 0) (IntsS.nil _ _) hb
  | true =>
    have H1 := hide (fun w' (hb' : Below w.heap.size w w') => iall_any A n c B zs w' (h.below hb') hb)
    have hl8 := ivL_le hb
    have HR : Hid (ivsR zs = pick n (ivL zs)) := hide (by rw [ivsR_yes hb, ← pick_all, h.len])
    have heq := eqPair
    obtain ⟨l, hl⟩ : ∃ l, l = ivL zs := ⟨_, rfl⟩
    rw [← hl] at H1 hl8 HR
    have HN := hide h.le
    clear hb h hl
    go_enter Tryz.func87, Tryz.ntmps87
    go_wp2_with fail
    refine (unhide H0).mono ?_
    rintro e w1 ⟨rfl, hb1⟩
    have H2 := hide (unhide H1 w1 hb1)
    have hI1 := IntsS.nil w1 w.heap.size
    clear H0 H1
    go_wp2_with fail
    refine (unhide H2).mono ?_
    rintro e w2 ⟨A2, c2, rfl, hP2, hb2⟩
    have hI2 := hI1.below hb2
    have hb3 := below_after hb1 hb2
    have hP3 := hP2.low hb1.size
    clear H2 hb2 hb1 hP2 hI1
    go_wp2
    go_loopw [3, 5, 12] (fun v _ i wr => ∃ k : Nat, k ≤ l.length ∧ i = .int .i64 k ∧ Below w.heap.size w wr ∧ Prs wr w.heap.size (.slice A2 l.length c2) l ∧ IntsS wr w.heap.size v (pick n (l.take k))) (fun _ _ i _ => l.length - (intOf i).toNat)
    case atStart => exact ⟨0, Nat.zero_le _, rfl, hb3, hP3, hI2⟩
    case round =>
      obtain ⟨k, hk, rfl, hbw, hP, hI⟩ := hrel
      clear hb3 hP3 hI2
      by_cases hlt : k < l.length
      · obtain ⟨x, hx⟩ : ∃ x, l[k]? = some x := ⟨_, List.getElem?_eq_getElem hlt⟩
        obtain ⟨g, rfl, hgl, hc0, hc1⟩ := hP.at_ hx
        obtain ⟨f, t⟩ := x
        simp only at hc0 hc1
        have hst := take_snoc_p hx
        have hbelp := (Below.refl wr.heap.size wr).alloc (Nat.le_refl _) (.cells #[.int .i64 f, .int .i64 t] 101)
        have hWp := Whole.new wr 101 #[.int .i64 f, .int .i64 t]
        have p0 := hWp.cell 0
        have p1 := hWp.cell 1
        have hPp := hP.below hbelp
        have hIp := hI.below hbelp
        have hbp := below_after hbw hbelp
        have hsz := hbw.size
        have hpl : (pick n (l.take k)).length ≤ 1048576 := by
          have h1 := pick_le n (l.take k)
          rw [List.length_take] at h1
          omega
        simp at p0 p1
        have HPT := hide (fun (h : inner n (f, t) = true) => (congrArg (pick n) hst).trans (pick_yes h))
        have HPF := hide (fun (h : inner n (f, t) = false) => (congrArg (pick n) hst).trans (pick_no h))
        clear hx hst hP hI hWp
        rcases inner_cases n f t with ⟨hft, hin⟩ | ⟨hft, hin⟩
        · cases hc : (f == 1 && t == (n : Int)) with
          | true =>
            rw [hc] at hin
            have hI5 : Hid (IntsS (wr.alloc (.cells #[.int .i64 f, .int .i64 t] 101)) w.heap.size u3 (pick n (l.take (k + 1)))) := hide (by rw [unhide HPF hin]; exact hIp)
            clear hin HPF HPT hIp
            go_wp2
            go_roundw
            case rel => exact ⟨k + 1, by omega, by go_num, hbp, hPp, unhide hI5⟩
            case measure => simp [intOf]; omega
          | false =>
            rw [hc] at hin
            have hnext := hide (unhide HPT hin)
            have hszp : w.heap.size ≤ (wr.alloc (.cells #[.int .i64 f, .int .i64 t] 101)).heap.size := by simp; omega
            have hsz1 : (wr.alloc (.cells #[.int .i64 f, .int .i64 t] 101)).heap.size = wr.heap.size + 1 := by simp
            have hbel2 := (Below.refl _ (wr.alloc (.cells #[.int .i64 f, .int .i64 t] 101))).alloc (Nat.le_refl _) (.cells #[.int .i64 f, .int .i64 t] 3)
            have hu := Ints.made2 (wr.alloc (.cells #[.int .i64 f, .int .i64 t] 101)) _ f t (Nat.le_refl _)
            have hP6 := hPp.below hbel2
            have hb6 := below_after hbp hbel2
            clear hin HPF HPT hPp
            go_wp2_with (first
              | (at_builtin; refine wpList_push_row_keep rfl (.tmp 28) (.tmp 34) rfl w.heap.size w _ _ _ _ _ _ rfl ?c1 ?c2 hIp hbel2 hu hpl hb6 hszp ?_))
            case c1 => simp; rfl
            case c2 => simp
            intro v4 w4 hI4 hb4 hk4
            have hP7 := hP6.keepI hk4
            have hI7 : IntsS w4 w.heap.size v4 (pick n (l.take (k + 1))) := by rw [unhide hnext]; exact hI4
            clear hP6 hI4 hk4 hIp hbel2 hu hb6
            go_wp2
            go_roundw
            case rel => exact ⟨k + 1, by omega, by go_num, hb4, hP7, hI7⟩
            case measure => simp [intOf]; omega
        · have hI5 : Hid (IntsS (wr.alloc (.cells #[.int .i64 f, .int .i64 t] 101)) w.heap.size u3 (pick n (l.take (k + 1)))) := hide (by rw [unhide HPF hin]; exact hIp)
          clear hin HPF HPT hIp
          go_wp2
          go_roundw
          case rel => exact ⟨k + 1, by omega, by go_num, hbp, hPp, unhide hI5⟩
          case measure => simp [intOf]; omega
      · obtain rfl : l.length = k := by omega
        have hI5 : IntsS wr w.heap.size u3 (ivsR zs) := by rw [unhide HR]; rwa [List.take_length] at hI
        clear hI hP
        go_wp2
        go_ret
        exact GivesSS.mk hI5 hbw

end Go.Proofs.YtinnlhfdgbeibaaGreat


/-
  spec.PatternOf and impl.PatternOf, by their contracts.
-/

namespace Go.Proofs.YtinnlhfdgbeibaaGreat
set_option maxRecDepth 100000
open Go.RowKit

theorem bit_true (w : World) : Calls Tryz.prog 54 #[.bool true] w fun e w' => e = .returned (.int .i64 1) ∧ w' = w := by
  go_enter Tryz.func54, Tryz.ntmps54
  go_wp2
  go_ret
  exact ⟨rfl, rfl⟩
theorem bit_false (w : World) : Calls Tryz.prog 54 #[.bool false] w fun e w' => e = .returned (.int .i64 0) ∧ w' = w := by
  go_enter Tryz.func54, Tryz.ntmps54
  go_wp2
  go_ret
  exact ⟨rfl, rfl⟩
theorem cnt_at {zs : List Int} {k : Nat} {x v : Int} (h : zs[k]? = some x) : cnt (zs.take (k + 1)) v = cnt (zs.take k) v + if x < v then 1 else 0 := by rw [take_snoc_i h, cnt_snoc]

set_option maxHeartbeats 400000 in
theorem less_any (A : Option Addr) (n c B : Nat) (zs : List Int) (v : Int) (w : World) (h : Arg w B A n c zs) :
    Calls Tryz.prog 85 #[.slice A n c, .int .i64 v] w fun e w' => e = .returned (.int .i64 (cnt zs v : Int)) ∧ w = w' := by
  have hl := h.len
  have hn := h.le
  have hr := h.reads
  have HL := hide hl
  clear h hl
  go_enter Tryz.func85, Tryz.ntmps85
  go_wp2
  go_loop [5, 7, 10] (fun m _ i => ∃ k : Nat, k ≤ n ∧ i = .int .i64 k ∧ m = .int .i64 (cnt (zs.take k) v : Int)) (fun _ _ i => n - (intOf i).toNat)
  case atStart => exact ⟨0, Nat.zero_le _, rfl, rfl⟩
  case round =>
    obtain ⟨k, hk, rfl, rfl⟩ := hrel
    have hle := cnt_le (zs.take k) v
    have hle2 : cnt (zs.take k) v ≤ 1048576 := by have := List.length_take_le k zs; omega
    clear hle
    by_cases hlt : k < n
    · obtain ⟨ad, u, rfl, _, hu, hc⟩ := hr.at_ hlt
      obtain ⟨x, hx, rfl⟩ := i64_at hu
      have hstep := hide (cnt_at (v := v) hx)
      clear hu hx hr
      by_cases hxv : x < v
      · go_wp2
        go_round
        case rel => exact ⟨k + 1, by omega, by go_num, by rw [unhide hstep, if_pos hxv]; go_num⟩
        case measure => simp [intOf]; omega
      · go_wp2
        go_round
        case rel => exact ⟨k + 1, by omega, by go_num, by rw [unhide hstep, if_neg hxv]; rfl⟩
        case measure => simp [intOf]; omega
    · obtain rfl : n = k := by omega
      have e : zs.take n = zs := List.take_of_length_le (by rw [unhide HL]; exact Nat.le_refl _)
      rw [e] at hle2 ⊢
      clear e
      go_wp2
      go_ret
      exact ⟨rfl, rfl⟩

set_option maxHeartbeats 800000 in
theorem l2pat_any (A : Option Addr) (n c B : Nat) (zs : List Int) (w : World) (h : Arg w B A n c zs) (hn8 : n ≤ 8) :
    Calls Tryz.prog 67 #[.slice A n c] w (GivesI w (patL zs)) := by
  obtain ⟨i0, hi, hz0, hz1, hz2⟩ := info_parts intInfo
  have hl := h.len
  have hr := h.reads
  have hB := h.under
  have HL := hide hl
  have hst := own0 w w.heap.size (Nat.le_refl _)
  have hbel := (Below.refl w.heap.size w).alloc (Nat.le_refl _) (.cells #[] 3)
  clear h hl
  go_enter Tryz.func67, Tryz.ntmps67
  go_wp2
  go_loopw [3, 4, 5, 6] (fun o i _ _ wr => ∃ k : Nat, k ≤ n ∧ i = .int .i64 k ∧ Below w.heap.size w wr ∧ wr.ownsRow w.heap.size 3 1 o k (i64s ((patL zs).take k))) (fun _ i _ _ _ => n - (intOf i).toNat)
  case atStart => exact ⟨0, Nat.zero_le _, rfl, hbel, hst⟩
  case round =>
    obtain ⟨k, hk, rfl, hbw, hown⟩ := hrel
    clear hst hbel
    by_cases hlt : k < n
    · obtain ⟨ad, u, rfl, _, hu, hc⟩ := ((hr.more hB).below hbw).at_ hlt
      obtain ⟨v, hv, rfl⟩ := i64_at hu
      have HV := hide hv
      clear hu hv
      obtain ⟨wo, rfl⟩ : ∃ wo : World, wo = wr := ⟨_, rfl⟩
      go_wp2
      go_loopw [5, 6] (fun m i wi => ∃ j : Nat, j ≤ n ∧ i = .int .i64 j ∧ m = .int .i64 (1 + (cnt (zs.take j) v : Int)) ∧ Drew wo wi) (fun _ i _ => n - (intOf i).toNat)
      case atStart => exact ⟨0, Nat.zero_le _, rfl, rfl, Drew.refl _⟩
      case round =>
        obtain ⟨j, hj, rfl, rfl, hd⟩ := hrel
        have hle := cnt_le (zs.take j) v
        have hle2 : cnt (zs.take j) v ≤ 8 := by have := List.length_take_le j zs; omega
        clear hle
        by_cases hjt : j < n
        · obtain ⟨ad', u', he', _, hu', hc'⟩ := (((hr.more hB).below hbw).ofDrew hd).at_ hjt
          obtain rfl : ad = ad' := Option.some.inj he'
          clear he'
          obtain ⟨x, hx, rfl⟩ := i64_at hu'
          have hstep := hide (cnt_at (v := v) hx)
          have hcv := (hd.cell _).trans hc
          have HD := hide hd
          have HR := hide hr
          have HO := hide hown
          have HBW := hide hbw
          clear hu' hx hd hr hown hbw hc
          obtain ⟨m, hm⟩ : ∃ m, m = cnt (zs.take j) v := ⟨_, rfl⟩
          rw [← hm] at hle2 hstep ⊢
          clear hm
          have w1 : IntKind.i64.wrap (1 + (m : Int) + 1) = 1 + (m : Int) + 1 := IntWalk.i64_in _ (by omega)
          have w0 : IntKind.i64.wrap (1 + (m : Int)) = 1 + (m : Int) := IntWalk.i64_in _ (by omega)
          by_cases hxv : x < v
          · go_wp2
            go_quiet ((go_at_call 54; exact Calls.quiet_of_same (bit_true _)))
            clear w1 w0
            go_wp2
            go_roundw
            case rel => exact ⟨j + 1, by omega, by go_num, by rw [unhide hstep, if_pos hxv]; go_num, (unhide HD).more _⟩
            case measure => simp [intOf]; omega
          · have hdf : decide (x < v) = false := by simpa using hxv
            go_wp2
            go_quiet ((go_at_call 54; exact Calls.quiet_of_same (bit_false _)))
            clear w1 w0
            go_wp2
            go_roundw
            case rel => exact ⟨j + 1, by omega, by go_num, by rw [unhide hstep, if_neg (by omega)]; rfl, (unhide HD).more _⟩
            case measure => simp [intOf]; omega
        · obtain rfl : n = j := by omega
          have e : zs.take n = zs := List.take_of_length_le (by rw [unhide HL]; exact Nat.le_refl _)
          rw [e] at hle2 ⊢
          clear e
          have hownA := own_below hown (hd.below _)
          have hbwA := hbw.trans (hd.below _)
          have e2 : i64s ((patL zs).take k) ++ [.int .i64 (1 + (cnt zs v : Int))] = i64s ((patL zs).take (k + 1)) := by rw [patL_take (unhide HV)]; unfold i64s; simp
          have HE := hide e2
          clear e2 hd hown hbw hc
          go_wp2_with (first
            | (at_builtin; refine wpList_append_one rfl (.tmp 32) (.tmp 34) 24 rfl w.heap.size 3 i0 (.int .i64 0) 8 Tryz.underlying24 hi hz0 hz1 hz2 rfl w _ _ _ _ rfl hownA (.int .i64 (1 + (cnt zs v : Int))) rfl rfl rfl (by omega) (by simp only [maxLen]; omega) hbwA hbwA.size ?_; intro v2 w2 hown2 hb2 hg2; clear hg2))
          rw [unhide HE] at hown2
          clear hownA hbwA HE
          go_roundw
          case rel => exact ⟨k + 1, by omega, by go_num, hb2, hown2⟩
          case measure => simp [intOf]; omega
    · obtain rfl : n = k := by omega
      have e : (patL zs).take n = patL zs := List.take_of_length_le (by rw [patL_length, unhide HL]; exact Nat.le_refl _)
      rw [e] at hown
      have hI : Ints wr w.heap.size u3 (patL zs) := Ints.of_own hown
      clear hown e
      go_wp2
      go_ret
      exact GivesI.mk hI hbw

set_option maxHeartbeats 800000 in
theorem ipat_any (A : Option Addr) (n c B : Nat) (zs : List Int) (b : Bool) (hb : patOK zs = b) (w : World) (h : Arg w B A n c zs) :
    Calls Tryz.prog 59 #[.slice A n c] w (GivesIB w (patR zs) b) := by
  obtain ⟨i0, hi, hz0, hz1, hz2⟩ := info_parts intInfo
  have hl := h.len
  have hr := h.reads
  have hB := h.under
  by_cases h8 : n ≤ 8
  · have h8' : ¬ 8 < n := by omega
    have h8b : decide ((8 : Int) < (n : Int)) = false := by simp; omega
    have H2 := hide (fun v w' (hb' : Below w.heap.size w w') => less_any A n c B zs v w' (h.below hb'))
    have HL := hide hl
    have HB := hide hb
    have HC := hide (fun v => cnt_le zs v)
    clear h hl hb
    go_enter Tryz.func59, Tryz.ntmps59
    go_wp2_with (first
      | (at_make; refine wpList_make_full _ rfl (.tmp 11) (.tmp 11) 24 rfl w.heap.size 3 i0 (.int .i64 0) 1 Tryz.underlying24 hi hz0 hz1 _ _ _ _ n rfl rfl (by first | rfl | omega) (by first | rfl | omega) (by rw [hz2]; omega) (by unfold maxLen; omega) (Nat.le_refl _) ?_; intro w1 hown hg))
    have hb1 := (Below.refl w.heap.size w).grown hg (Nat.le_refl _) (by simp)
    clear hg
    go_loopw [5, 6, 15] (fun _ _ i wr => ∃ (k : Nat) (xs : List Value), k ≤ n ∧ i = .int .i64 k ∧ Below w.heap.size w wr ∧ wr.ownsRow w.heap.size 3 1 (.slice (some ⟨w.heap.size, 0, none⟩) n n) n xs ∧ Hid (xs.take k = (i64s (patL zs)).take k)) (fun _ _ i _ => n - (intOf i).toNat)
    case atStart => exact ⟨0, _, Nat.zero_le _, rfl, hb1, hown, by exact rfl⟩
    case round =>
      obtain ⟨k, xs, hk, rfl, hb, hown', hx⟩ := hrel
      clear hown hb1
      have hlx : xs.length = n := by simpa using hown'.1
      by_cases hlt : k < n
      · obtain ⟨ad, u, rfl, had, hu, hc⟩ := ((hr.more hB).below hb).at_ hlt
        obtain ⟨z, hz, rfl⟩ := i64_at hu
        obtain ⟨old, hold⟩ : ∃ old, wr.cell? ⟨w.heap.size, k, none⟩ = some old := ⟨_, by rw [hown'.cellAt k (by omega)]; exact List.getElem?_eq_getElem (by omega)⟩
        have hfz := hown'.frozenAt k
        have hle : cnt zs z ≤ 8 := by have := unhide HC z; rw [unhide HL] at this; omega
        have hst := hide (take_set_i (unhide hx) (i64_get (patL_at hz)) (by omega))
        have ho2 := (hown'.stored k (.int .i64 (1 + (cnt zs z : Int)))).1
        have hb2 := below_set_i hb hown' k (.int .i64 (1 + (cnt zs z : Int)))
        have H3 := hide (unhide H2 z wr hb)
        clear hx hlx hu hz hown' hb H2
        go_wp2_with fail
        refine (unhide H3).mono ?_
        rintro e w' ⟨rfl, rfl⟩
        clear H3
        go_wp2
        go_roundw
        case rel => exact ⟨k + 1, _, by omega, by go_num, hb2, ho2, hst⟩
        case measure => simp [intOf]; omega
      · obtain rfl : n = k := by omega
        have : xs = i64s (patL zs) := by
          have h := unhide hx
          rwa [List.take_of_length_le (by omega), List.take_of_length_le (by rw [i64_length, patL_length, unhide HL]; exact Nat.le_refl _)] at h
        subst this
        have hI : Ints wr w.heap.size (.slice (some ⟨w.heap.size, 0, none⟩) n n) (patL zs) := Ints.of_own hown'
        have hsm : Small (patL zs) := fun x hx => by
          have := patL_range x hx
          rw [unhide HL] at this
          omega
        have H4 := hide (iisperm_any _ n n _ (patL zs) b ((isP_pat zs).trans (unhide HB)) wr hI.reads (Nat.le_refl _) (by omega) hsm)
        clear hx hlx hown' H2 hsm
        cases b with
        | true =>
          have HR := hide (patR_yes (unhide HB))
          go_wp2_with fail
          refine (unhide H4).mono ?_
          rintro e w2 ⟨rfl, hb2⟩
          have hI2 := hI.below hb2
          rw [← unhide HR] at hI2
          clear H4
          go_wp2
          go_ret2
          exact GivesIB.mk true hI2 (below_after hb hb2)
        | false =>
          have HR := hide (patR_no (unhide HB))
          go_wp2_with fail
          refine (unhide H4).mono ?_
          rintro e w2 ⟨rfl, hb2⟩
          clear H4
          go_wp2
          go_ret2
          exact GivesIB.mk (v := .slice none 0 0) false (by rw [unhide HR]; exact Ints.nil _ _) (below_after hb hb2)
  · have hno := patOK_no8 (l := zs) (by omega)
    obtain rfl : b = false := hb.symm.trans hno
    rw [patR_no hno]
    have hn := h.le
    have h8' : 8 < n := by omega
    have h8b : decide ((8 : Int) < (n : Int)) = true := by simp; omega
    clear hb hno h hl hr
    go_enter Tryz.func59, Tryz.ntmps59
    go_wp2
    go_ret2
    exact GivesIB.mk (v := .slice none 0 0) false (Ints.nil _ _) (Below.refl _ _)
end Go.Proofs.YtinnlhfdgbeibaaGreat


/-
  spec.l2Same, slices.Equal, spec.IsInvolution, impl.IsInvolution, impl.inverseOf, by their contracts.
-/

namespace Go.Proofs.YtinnlhfdgbeibaaGreat
set_option maxRecDepth 100000
open Go.RowKit

theorem same_ne {p q : List Int} {k : Nat} {x y : Int} (hx : p[k]? = some x) (hy : q[k]? = some y) (h : x ≠ y) : decide (p = q) = false := by
  rw [decide_eq_false_iff_not]
  rintro rfl
  rw [hx] at hy
  exact h (Option.some.inj hy)
theorem same_len {p q : List Int} (h : p.length ≠ q.length) : decide (p = q) = false := by
  rw [decide_eq_false_iff_not]
  rintro rfl
  exact h rfl
theorem same_end {p q : List Int} {n : Nat} (h : p.take n = q.take n) (hp : p.length = n) (hq : q.length = n) : decide (p = q) = true := by
  rw [List.take_of_length_le (by omega), List.take_of_length_le (by omega)] at h
  simp [h]
set_option maxHeartbeats 400000 in
theorem l2same_any (A A' : Option Addr) (n c B n' c' B' : Nat) (p q : List Int) (b : Bool) (hb : decide (p = q) = b) (w : World) (h : Arg w B A n c p) (h' : Arg w B' A' n' c' q) :
    Calls Tryz.prog 37 #[.slice A n c, .slice A' n' c'] w fun e w' => e = .returned (.bool b) ∧ Drew w w' := by
  have hl := h.len
  have hl' := h'.len
  have hn := h.le
  have hn' := h'.le
  have hr := h.reads
  have hr' := h'.reads
  clear h h'
  by_cases he : n = n'
  · subst he
    have HB := hide hb
    have HL := hide hl
    have HL' := hide hl'
    clear hb hl hl'
    go_enter Tryz.func37, Tryz.ntmps37
    go_wp2
    go_loopw [5] (fun i wr => ∃ k : Nat, k ≤ n ∧ i = .int .i64 k ∧ Drew w wr ∧ Hid (p.take k = q.take k)) (fun i _ => n - (intOf i).toNat)
    case atStart => exact ⟨0, Nat.zero_le _, rfl, Drew.refl _, by exact (rfl : p.take 0 = q.take 0)⟩
    case round =>
      obtain ⟨k, hk, rfl, hd, hs⟩ := hrel
      by_cases hlt : k < n
      · obtain ⟨ad, u, rfl, _, hu, hc⟩ := (hr.ofDrew hd).at_ hlt
        obtain ⟨ad', u', rfl, _, hu', hc'⟩ := (hr'.ofDrew hd).at_ hlt
        obtain ⟨x, hx, rfl⟩ := i64_at hu
        obtain ⟨y, hy, rfl⟩ := i64_at hu'
        have HD := hide hd
        clear hu hu' hr hr' hd
        by_cases hxy : x = y
        · subst hxy
          have hnext := hide (take_same_step (unhide hs) hx hy)
          clear hx hy hs
          go_wp2
          go_quiet (fail)
          go_wp2
          go_roundw
          case rel => exact ⟨k + 1, by omega, by go_num, (unhide HD).more _, hnext⟩
          case measure => simp [intOf]; omega
        · obtain rfl : b = false := (unhide HB).symm.trans (same_ne hx hy hxy)
          have hne : (x == y) = false := by simpa using hxy
          clear hx hy hs HB hxy
          go_wp2
          go_quiet (fail)
          go_wp2
          go_ret
          exact ⟨rfl, (unhide HD).more _⟩
      · obtain rfl : n = k := by omega
        obtain rfl : b = true := (unhide HB).symm.trans (same_end (unhide hs) (unhide HL) (unhide HL'))
        clear HB hs
        go_wp2
        go_ret
        exact ⟨rfl, hd⟩
  · obtain rfl : b = false := hb.symm.trans (same_len (by omega))
    have hne : ((n : Int) == (n' : Int)) = false := by simp; omega
    clear hb hl hl' hr hr'
    go_enter Tryz.func37, Tryz.ntmps37
    go_wp2
    go_ret
    exact ⟨rfl, Drew.refl _⟩
set_option maxHeartbeats 400000 in
theorem eqsl_any (A A' : Option Addr) (n c B n' c' B' : Nat) (p q : List Int) (b : Bool) (hb : decide (p = q) = b) (w : World) (h : Arg w B A n c p) (h' : Arg w B' A' n' c' q) :
    Calls Tryz.prog 39 #[.slice A n c, .slice A' n' c'] w fun e w' => e = .returned (.bool b) ∧ Drew w w' := by
  have hl := h.len
  have hl' := h'.len
  have hn := h.le
  have hn' := h'.le
  have hr := h.reads
  have hr' := h'.reads
  clear h h'
  by_cases he : n = n'
  · subst he
    have HB := hide hb
    have HL := hide hl
    have HL' := hide hl'
    clear hb hl hl'
    go_enter Tryz.func39, Tryz.ntmps39
    go_wp2
    go_loopw [5, 13] (fun _ i wr => ∃ k : Nat, k ≤ n ∧ i = .int .i64 k ∧ Drew w wr ∧ Hid (p.take k = q.take k)) (fun _ i _ => n - (intOf i).toNat)
    case atStart => exact ⟨0, Nat.zero_le _, rfl, Drew.refl _, by exact (rfl : p.take 0 = q.take 0)⟩
    case round =>
      obtain ⟨k, hk, rfl, hd, hs⟩ := hrel
      by_cases hlt : k < n
      · obtain ⟨ad, u, rfl, _, hu, hc⟩ := (hr.ofDrew hd).at_ hlt
        obtain ⟨ad', u', rfl, _, hu', hc'⟩ := (hr'.ofDrew hd).at_ hlt
        obtain ⟨x, hx, rfl⟩ := i64_at hu
        obtain ⟨y, hy, rfl⟩ := i64_at hu'
        have HD := hide hd
        clear hu hu' hr hr' hd
        by_cases hxy : x = y
        · subst hxy
          have hnext := hide (take_same_step (unhide hs) hx hy)
          clear hx hy hs
          go_wp2
          go_quiet (fail)
          go_wp2
          go_roundw
          case rel => exact ⟨k + 1, by omega, by go_num, (unhide HD).more _, hnext⟩
          case measure => simp [intOf]; omega
        · obtain rfl : b = false := (unhide HB).symm.trans (same_ne hx hy hxy)
          have hne : (x == y) = false := by simpa using hxy
          clear hx hy hs HB hxy
          go_wp2
          go_quiet (fail)
          go_wp2
          go_ret
          exact ⟨rfl, (unhide HD).more _⟩
      · obtain rfl : n = k := by omega
        obtain rfl : b = true := (unhide HB).symm.trans (same_end (unhide hs) (unhide HL) (unhide HL'))
        clear HB hs
        go_wp2
        go_ret
        exact ⟨rfl, hd⟩
  · obtain rfl : b = false := hb.symm.trans (same_len (by omega))
    have hne : ((n : Int) == (n' : Int)) = false := by simp; omega
    clear hb hl hl' hr hr'
    go_enter Tryz.func39, Tryz.ntmps39
    go_wp2
    go_ret
    exact ⟨rfl, Drew.refl _⟩
theorem isP_small {p : List Int} (h : isP p = true) : Small p := fun z hz => by
  have h1 := (isP_true.1 h).2.1 z hz
  have h2 := isP_le h
  omega
theorem Ints.argP {w : World} {B n c : Nat} {A : Option Addr} {zs : List Int} (h : Ints w B (.slice A n c) zs) (hp : isP zs = true) : Arg w w.heap.size A n c zs :=
  h.arg (by have := isP_le hp; have := h.len; omega) h.cap (isP_small hp)
end Go.Proofs.YtinnlhfdgbeibaaGreat


/-
  spec.l1Max; spec.SumParts, impl.SumParts, by their contracts.
-/

namespace Go.Proofs.YtinnlhfdgbeibaaGreat
set_option maxRecDepth 100000
open Go.RowKit

theorem max_any (a b : Int) (w : World) : Calls Tryz.prog 46 #[.int .i64 a, .int .i64 b] w fun e w' => e = .returned (.int .i64 (max a b)) ∧ w' = w := by
  by_cases h : b < a
  · have e : max a b = a := by omega
    rw [e]
    go_enter Tryz.func46, Tryz.ntmps46
    go_wp2
    go_ret
    exact ⟨rfl, rfl⟩
  · have e : max a b = b := by omega
    rw [e]
    go_enter Tryz.func46, Tryz.ntmps46
    go_wp2
    go_ret
    exact ⟨rfl, rfl⟩
theorem most_range {p : List Int} (h : isP p = true) : ∀ k, 0 ≤ most (p.take k) ∧ most (p.take k) ≤ p.length := fun k => by
  induction k with
  | zero => simp [most]
  | succ k ih =>
    by_cases hk : k < p.length
    · have hz := at0_some hk
      have := isP_range h hz
      rw [most_take hz]; omega
    · rw [List.take_of_length_le (by omega)]
      rwa [List.take_of_length_le (by omega)] at ih

set_option maxHeartbeats 800000 in
theorem sparts_any (A : Option Addr) (n c B : Nat) (zs : List Int) (w : World) (h : Arg w B A n c zs) :
    Calls Tryz.prog 63 #[.slice A n c] w (GivesSS w (partsR zs)) := by
  obtain ⟨b, hb⟩ : ∃ b, isP zs = b := ⟨_, rfl⟩
  have hI0 := IntsS.made0 w w.heap.size (Nat.le_refl _)
  have hbel := (Below.refl w.heap.size w).alloc (Nat.le_refl _) (.cells #[] 24)
  have H1 := hide (fun w' (hb' : Below w.heap.size w w') => sisperm_any A n c B zs b hb w' (h.below hb').reads h.le h.cap)
  have H0 := hide (unhide H1 _ hbel)
  clear H1
  cases b with
  | false =>
    rw [partsR_no hb]
    clear hb h
    go_enter Tryz.func63, Tryz.ntmps63
    go_wp2_with fail
    refine (unhide H0).mono ?_
    rintro e w1 ⟨rfl, hd⟩
    have hb := hbel.trans (hd.below w.heap.size)
    have hI := hI0.below (hd.below _)
    clear hd H0 hI0 hbel
    go_wp2
    go_ret
    exact GivesSS.mk hI hb
  | true =>
    have hl := h.len
    have hn8 : n ≤ 8 := by have := isP_le hb; omega
    have HL := hide hl
    have HC := hide h
    have HP := hide hb
    have hcap := h.cap
    have HR := hide (partsR_yes hb)
    clear hb h hl
    go_enter Tryz.func63, Tryz.ntmps63
    go_wp2_with fail
    refine (unhide H0).mono ?_
    rintro e w1 ⟨rfl, hd⟩
    have hb0 := hbel.trans (hd.below w.heap.size)
    have hI1 := hI0.below (hd.below _)
    clear hd H0 hI0 hbel
    go_wp2
    go_loopw [3, 4, 5, 6] (fun v f m i wr => ∃ k : Nat, k ≤ n ∧ i = .int .i64 k ∧ f = .int .i64 (frm zs k : Int) ∧ m = .int .i64 (most (zs.take k)) ∧ Below w.heap.size w wr ∧ IntsS wr w.heap.size v (prt zs k)) (fun _ _ _ i _ => n - (intOf i).toNat)
    case atStart => exact ⟨0, Nat.zero_le _, rfl, rfl, rfl, hb0, hI1⟩
    case round =>
      obtain ⟨k, hk, rfl, rfl, rfl, hbw, hI⟩ := hrel
      clear hI1 hb0
      have hfk := frm_le zs k
      have hpl := prt_len zs k
      by_cases hlt : k < n
      · have hA := (unhide HC).below hbw
        obtain ⟨ad, u, rfl, _, hu, hc⟩ := hA.reads.at_ hlt
        obtain ⟨z, hz, rfl⟩ := i64_at hu
        have hmt := hide (most_take hz)
        have hmr := most_range (unhide HP) (k + 1)
        rw [most_take hz] at hmr
        have hsz := hbw.size
        clear hu hz
        obtain ⟨f, hf⟩ : ∃ f, f = frm zs k := ⟨_, rfl⟩
        have HF := hide hf
        rw [← hf] at hfk ⊢
        by_cases heq : max (most (zs.take k)) z = (k : Int) + 1
        · have H2 := hide (fun w' (hb' : Below wr.heap.size wr w') => l2pat_any (some (ad.add f)) (k + 1 - f) (c - f) B _ w' ((hA.cut (f := f) (m := k + 1 - f) (by omega)).below hb') (by omega))
          have hmy : most (zs.take (k + 1)) = (k : Int) + 1 := by rw [unhide hmt]; exact heq
          have hpy := hide (prt_yes hmy)
          have hfy := hide (frm_yes hmy)
          clear hf hmy hA
          go_wp2_with fail
          refine (max_any _ _ _).mono ?_
          rintro e w2 ⟨rfl, rfl⟩
          go_wp2_with fail
          refine (unhide H2 _ (Below.refl _ _)).mono ?_
          rintro e w3 ⟨A3, c3, rfl, own3, hb3⟩
          clear H2
          have hb5 := hbw.trans (hb3.mono hsz)
          go_wp2_with (first
            | (at_builtin; refine wpList_push_row rfl (.tmp 28) (.tmp 35) rfl w.heap.size w w2 w3 _ _ (prt zs k) _ rfl rfl rfl hI hb3 own3 (by omega) hb5 hsz ?_; intro v4 w4 hI4 hb4))
          clear hI hb3 own3 hb5 hbw
          go_wp2
          go_roundw
          case rel => exact ⟨k + 1, by omega, by go_num, by rw [unhide hfy]; go_num, by rw [unhide hmt, heq], hb4, by rw [unhide hpy, ← unhide HF]; exact hI4⟩
          case measure => simp [intOf]; omega
        · have hmn : ¬ most (zs.take (k + 1)) = (k : Int) + 1 := by rw [unhide hmt]; exact heq
          have hpy := hide (prt_no hmn)
          have hfy := hide (frm_no hmn)
          clear hf hmn hA
          go_wp2_with fail
          refine (max_any _ _ _).mono ?_
          rintro e w2 ⟨rfl, rfl⟩
          go_wp2
          go_roundw
          case rel => exact ⟨k + 1, by omega, by go_num, by rw [unhide hfy, ← unhide HF], by rw [unhide hmt], hbw, by rw [unhide hpy]; exact hI⟩
          case measure => simp [intOf]; omega
      · obtain rfl : n = k := by omega
        have hI2 : IntsS wr w.heap.size u3 (partsR zs) := by rw [unhide HR, unhide HL]; exact hI
        clear hI
        go_wp2
        go_ret
        exact GivesSS.mk hI2 hbw

set_option maxHeartbeats 800000 in
theorem iparts_any (A : Option Addr) (n c B : Nat) (zs : List Int) (w : World) (h : Arg w B A n c zs) :
    Calls Tryz.prog 29 #[.slice A n c] w (GivesSS w (partsR zs)) := by
  obtain ⟨b, hb⟩ : ∃ b, isP zs = b := ⟨_, rfl⟩
  have H0 := hide (iisperm_any A n c B zs b hb w h.reads h.under h.le h.small)
  cases b with
  | false =>
    rw [partsR_no hb]
    clear hb h
    go_enter Tryz.func29, Tryz.ntmps29
    go_wp2_with fail
    refine (unhide H0).mono ?_
    rintro e w1 ⟨rfl, hb⟩
    clear H0
    go_wp2
    go_ret
    exact GivesSS.mk (v := .slice none 0 0) (IntsS.nil _ _) hb
  | true =>
    have hl := h.len
    have hn8 : n ≤ 8 := by have := isP_le hb; omega
    have HL := hide hl
    have HC := hide h
    have HP := hide hb
    have hcap := h.cap
    have HR := hide (partsR_yes hb)
    clear hb h hl
    go_enter Tryz.func29, Tryz.ntmps29
    go_wp2_with fail
    refine (unhide H0).mono ?_
    rintro e w1 ⟨rfl, hb0⟩
    have hI1 := IntsS.nil w1 w.heap.size
    clear H0
    go_wp2
    go_loopw [3, 4, 5, 6, 7, 8, 9, 15] (fun v f m _ _ _ _ i wr => ∃ k : Nat, k ≤ n ∧ i = .int .i64 k ∧ f = .int .i64 (frm zs k : Int) ∧ m = .int .i64 (most (zs.take k)) ∧ Below w.heap.size w wr ∧ IntsS wr w.heap.size v (prt zs k)) (fun _ _ _ _ _ _ _ i _ => n - (intOf i).toNat)
    case atStart => exact ⟨0, Nat.zero_le _, rfl, rfl, rfl, hb0, hI1⟩
    case round =>
      obtain ⟨k, hk, rfl, rfl, rfl, hbw, hI⟩ := hrel
      clear hI1 hb0
      have hfk := frm_le zs k
      have hpl := prt_len zs k
      by_cases hlt : k < n
      · have hA := (unhide HC).below hbw
        obtain ⟨ad, u, rfl, _, hu, hc⟩ := hA.reads.at_ hlt
        obtain ⟨z, hz, rfl⟩ := i64_at hu
        have hmt := hide (most_take hz)
        have hmr := most_range (unhide HP) (k + 1)
        rw [most_take hz] at hmr
        have hsz := hbw.size
        clear hu hz
        obtain ⟨f, hf⟩ : ∃ f, f = frm zs k := ⟨_, rfl⟩
        have HF := hide hf
        rw [← hf] at hfk ⊢
        obtain ⟨mk, hmk⟩ : ∃ mk, mk = most (zs.take k) := ⟨_, rfl⟩
        rw [← hmk] at hmt hmr ⊢
        clear hmk
        obtain ⟨M, hM⟩ : ∃ M, max mk z = M := ⟨_, rfl⟩
        rw [hM] at hmt hmr
        have hif : (if mk < z then z else mk) = M := by rw [← hM]; split <;> omega
        clear hM
        by_cases heq : M = (k : Int) + 1
        · have hok := patOK_cut (unhide HP) f (k + 1 - f)
          have H2 := hide (fun w' (hb' : Below wr.heap.size wr w') => ipat_any (some (ad.add f)) (k + 1 - f) (c - f) B _ true hok w' ((hA.cut (f := f) (m := k + 1 - f) (by omega)).below hb'))
          rw [patR_yes hok] at H2
          have hmy : most (zs.take (k + 1)) = (k : Int) + 1 := by rw [unhide hmt]; exact heq
          have hpy := hide (prt_yes hmy)
          have hfy := hide (frm_yes hmy)
          clear hf hmy hA hok
          go_wp2_with fail
          refine (unhide H2 _ (Below.refl _ _)).mono ?_
          rintro e w3 ⟨A3, c3, rfl, own3, hb3⟩
          clear H2
          have hb5 := hbw.trans (hb3.mono hsz)
          go_wp2_with (first
            | (at_builtin; refine wpList_push_row rfl (.tmp 36) (.tmp 38) rfl w.heap.size w wr w3 _ _ (prt zs k) _ rfl rfl rfl hI hb3 own3 (by omega) hb5 hsz ?_; intro v4 w4 hI4 hb4))
          clear hI hb3 own3 hb5 hbw
          go_wp2
          go_roundw
          case rel => exact ⟨k + 1, by omega, by go_num, by rw [unhide hfy]; go_num, by rw [unhide hmt, heq], hb4, by rw [unhide hpy, ← unhide HF]; exact hI4⟩
          case measure => simp [intOf]; omega
        · have hmn : ¬ most (zs.take (k + 1)) = (k : Int) + 1 := by rw [unhide hmt]; exact heq
          have hpy := hide (prt_no hmn)
          have hfy := hide (frm_no hmn)
          clear hf hmn hA
          go_wp2
          go_roundw
          case rel => exact ⟨k + 1, by omega, by go_num, by rw [unhide hfy, ← unhide HF], by rw [unhide hmt], hbw, by rw [unhide hpy]; exact hI⟩
          case measure => simp [intOf]; omega
      · obtain rfl : n = k := by omega
        have hI2 : IntsS wr w.heap.size u3 (partsR zs) := by rw [unhide HR, unhide HL]; exact hI
        clear hI
        go_wp2
        go_ret
        exact GivesSS.mk hI2 hbw
end Go.Proofs.YtinnlhfdgbeibaaGreat


/-
  spec.l4Fit, spec.l4Join, spec.SumOf, spec.SkewSumOf, by their contracts.
-/

namespace Go.Proofs.YtinnlhfdgbeibaaGreat
set_option maxRecDepth 100000
open Go.RowKit

def bitI (b : Bool) : Int := if b then 1 else 0
theorem bit_any (b : Bool) (w : World) : Calls Tryz.prog 54 #[.bool b] w fun e w' => e = .returned (.int .i64 (bitI b)) ∧ w' = w := by
  cases b with
  | true => exact bit_true w
  | false => exact bit_false w
theorem joinL_at1 {s : Bool} {p q : List Int} {k : Nat} {z : Int} (h : p[k]? = some z) : (joinL s p q)[k]? = some (z + bitI s * (q.length : Int)) := by
  have hk : k < p.length := (List.getElem?_eq_some_iff.1 h).1
  cases s with
  | true =>
    simp only [joinL, if_true, bitI]
    rw [List.getElem?_append_left (by simpa using hk), List.getElem?_map, h, Int.one_mul]; rfl
  | false =>
    simp only [joinL, bitI, Bool.false_eq_true, if_false]
    rw [List.getElem?_append_left hk, h, Int.zero_mul, Int.add_zero]
theorem joinL_at2 {s : Bool} {p q : List Int} {k : Nat} {z : Int} (h : q[k]? = some z) : (joinL s p q)[p.length + k]? = some (z + bitI (!s) * (p.length : Int)) := by
  cases s with
  | true =>
    simp only [joinL, if_true, bitI, Bool.not_true, Bool.false_eq_true, if_false]
    rw [List.getElem?_append_right (by simp), List.length_map, Nat.add_sub_cancel_left, h, Int.zero_mul, Int.add_zero]
  | false =>
    simp only [joinL, bitI, Bool.not_false, if_true, Bool.false_eq_true, if_false]
    rw [List.getElem?_append_right (by omega), Nat.add_sub_cancel_left, List.getElem?_map, h, Int.one_mul]; rfl
theorem bit_le (s : Bool) (n : Nat) : 0 ≤ bitI s * (n : Int) ∧ bitI s * (n : Int) ≤ n := by
  cases s
  · simp [bitI]
  · simp [bitI]

theorem l4fit_any (A A' : Option Addr) (n c B n' c' B' : Nat) (p q : List Int) (b : Bool) (hb : fit p q = b) (w : World) (h : Arg w B A n c p) (h' : Arg w B' A' n' c' q) :
    Calls Tryz.prog 91 #[.slice A n c, .slice A' n' c'] w fun e w' => e = .returned (.bool b) ∧ Drew w w' := by
  have hn := h.le
  have hn' := h'.le
  have hl := h.len
  have hl' := h'.len
  obtain ⟨b1, hb1⟩ : ∃ b1, isP p = b1 := ⟨_, rfl⟩
  obtain ⟨b2, hb2⟩ : ∃ b2, isP q = b2 := ⟨_, rfl⟩
  have H1 := hide (sisperm_any A n c B p b1 hb1 w h.reads h.le h.cap)
  have H2 := hide (fun w' (hd : Drew w w') => sisperm_any A' n' c' B' q b2 hb2 w' (h'.reads.ofDrew hd) h'.le h'.cap)
  clear h h'
  cases b1 with
  | false =>
    obtain rfl : b = false := hb.symm.trans (fit_no1 hb1)
    clear hb hb1 hb2 H2 hl hl'
    go_enter Tryz.func91, Tryz.ntmps91
    go_wp2_with fail
    refine (unhide H1).mono ?_
    rintro e w1 ⟨rfl, hd⟩
    clear H1
    go_wp2
    go_ret
    exact ⟨rfl, hd⟩
  | true =>
    cases b2 with
    | false =>
      obtain rfl : b = false := hb.symm.trans (fit_no2 hb2)
      clear hb hb1 hb2 hl hl'
      go_enter Tryz.func91, Tryz.ntmps91
      go_wp2_with fail
      refine (unhide H1).mono ?_
      rintro e w1 ⟨rfl, hd⟩
      have H3 := hide (unhide H2 w1 hd)
      clear H1 H2
      go_wp2_with fail
      refine (unhide H3).mono ?_
      rintro e w2 ⟨rfl, hd2⟩
      clear H3
      go_wp2
      go_ret
      exact ⟨rfl, hd.trans hd2⟩
    | true =>
      by_cases h8 : n + n' ≤ 8
      · obtain rfl : b = true := hb.symm.trans (fit_yes hb1 hb2 (by omega))
        have h8b : decide ((n : Int) + (n' : Int) ≤ 8) = true := by simp; omega
        clear hb hb1 hb2 hl hl'
        go_enter Tryz.func91, Tryz.ntmps91
        go_wp2_with fail
        refine (unhide H1).mono ?_
        rintro e w1 ⟨rfl, hd⟩
        have H3 := hide (unhide H2 w1 hd)
        clear H1 H2
        go_wp2_with fail
        refine (unhide H3).mono ?_
        rintro e w2 ⟨rfl, hd2⟩
        clear H3
        go_wp2
        go_ret
        exact ⟨rfl, hd.trans hd2⟩
      · obtain rfl : b = false := hb.symm.trans (fit_no3 (by omega))
        have h8b : decide ((n : Int) + (n' : Int) ≤ 8) = false := by simp; omega
        clear hb hb1 hb2 hl hl'
        go_enter Tryz.func91, Tryz.ntmps91
        go_wp2_with fail
        refine (unhide H1).mono ?_
        rintro e w1 ⟨rfl, hd⟩
        have H3 := hide (unhide H2 w1 hd)
        clear H1 H2
        go_wp2_with fail
        refine (unhide H3).mono ?_
        rintro e w2 ⟨rfl, hd2⟩
        clear H3
        go_wp2
        go_ret
        exact ⟨rfl, hd.trans hd2⟩

theorem keep_low {B : Nat} {wr w : World} {p : Addr} {v : Value} (h : wr.cell? p = some v) (hp : p.block < B) (hb : Below B wr w) : w.cell? p = some v ∧ Below B wr w := ⟨(hb.cell hp).trans h, hb⟩
set_option maxHeartbeats 800000 in
theorem l4join_any (A A' : Option Addr) (n c B n' c' B' : Nat) (s : Bool) (p q : List Int) (w : World) (h : Arg w B A n c p) (h' : Arg w B' A' n' c' q) (hf : fit p q = true) :
    Calls Tryz.prog 92 #[.slice A n c, .slice A' n' c', .bool s] w (GivesI w (joinL s p q)) := by
  obtain ⟨i0, hi, hz0, hz1, hz2⟩ := info_parts intInfo
  obtain ⟨hp, hq, h8⟩ := fit_all hf
  have hl := h.len
  have hr := h.reads
  have hB := h.under
  have hl' := h'.len
  have hr' := h'.reads
  have hB' := h'.under
  have hn8 : n + n' ≤ 8 := by omega
  have HP := hide (fun k z hz => isP_range hp (k := k) (z := z) hz)
  have HQ := hide (fun k z hz => isP_range hq (k := k) (z := z) hz)
  have HL := hide hl
  have HL' := hide hl'
  have hst := own0 w w.heap.size (Nat.le_refl _)
  have hbel := (Below.refl w.heap.size w).alloc (Nat.le_refl _) (.cells #[] 3)
  obtain ⟨R, hR⟩ : ∃ R, R = joinL s p q := ⟨_, rfl⟩
  have H1 := hide (fun k z (hz : p[k]? = some z) => show R[k]? = some (z + bitI s * (q.length : Int)) by rw [hR]; exact joinL_at1 hz)
  have H2 := hide (fun k z (hz : q[k]? = some z) => show R[p.length + k]? = some (z + bitI (!s) * (p.length : Int)) by rw [hR]; exact joinL_at2 hz)
  have HR := hide (show R.length = n + n' by rw [hR, joinL_length]; omega)
  rw [← hR]
  obtain ⟨x1, hx1⟩ : ∃ x1, x1 = bitI s * (n' : Int) := ⟨_, rfl⟩
  obtain ⟨x2, hx2⟩ : ∃ x2, x2 = bitI (!s) * (n : Int) := ⟨_, rfl⟩
  have hx1b := bit_le s n'
  have hx2b := bit_le (!s) n
  rw [← hx1] at hx1b
  rw [← hx2] at hx2b
  have hw1 : IntKind.i64.wrap (bitI s * (n' : Int)) = x1 := by rw [← hx1, IntKind.wrap_i64]; omega
  have hw2 : IntKind.i64.wrap (bitI (!s) * (n : Int)) = x2 := by rw [← hx2, IntKind.wrap_i64]; omega
  have HX1 := hide hx1
  have HX2 := hide hx2
  clear h hl h' hl' hp hq h8 hR hx1 hx2 hf
  go_enter Tryz.func92, Tryz.ntmps92
  go_wp2
  go_loopw [7, 8] (fun v i wr => ∃ k : Nat, k ≤ n ∧ i = .int .i64 k ∧ Below w.heap.size w wr ∧ wr.ownsRow w.heap.size 3 1 v k (i64s (R.take k))) (fun _ i _ => n - (intOf i).toNat)
  case atStart => exact ⟨0, Nat.zero_le _, rfl, hbel, hst⟩
  case round =>
    obtain ⟨k, hk, rfl, hbw, hown⟩ := hrel
    clear hst hbel
    by_cases hlt : k < n
    · obtain ⟨ad, u, rfl, had, hu, hc⟩ := ((hr.more hB).below hbw).at_ hlt
      obtain ⟨z, hz, rfl⟩ := i64_at hu
      obtain ⟨hz1', hz2'⟩ := unhide HP k z hz
      have hst := unhide H1 k z hz
      rw [unhide HL] at hz2'
      rw [unhide HL', ← unhide HX1] at hst
      have hstep := hide (take_snoc_i hst)
      have hw3 : IntKind.i64.wrap (z + x1) = z + x1 := by rw [IntKind.wrap_i64]; omega
      clear hu hz hst
      go_wp2
      have hblk : (ad.add k).block < w.heap.size := by rw [block_of_add]; omega
      have hb0 := Below.refl w.heap.size wr
      have hsz := hbw.size
      go_region_held3 (fun w' => w'.cell? (ad.add k) = some (.int .i64 z) ∧ Below w.heap.size wr w') ((refine keep_low hc hblk ?_; first | assumption | (apply Below.drew; assumption) | exact (hb0.alloc (by omega) _).drew))
        (first
          | (go_simp; go_at_call 54; refine (bit_any _ _).mono ?_; rintro e w' ⟨rfl, rfl⟩)
          | (refine step_append_one (by rfl) (.tmp 17) (.tmp 28) (by rfl) w.heap.size k wr wr _ _ (z + x1) (by rfl) (by rfl) (by rfl) hown (by omega) (by omega) hb0 hsz ?_; intro v2 w2 hown2 hb2))
      have hb3 := hbw.trans hb2
      rw [← unhide hstep] at hown2
      clear hown hbw hstep hb0 hb2
      go_wp2
      go_roundw
      case rel => exact ⟨k + 1, by omega, by go_num, hb3, hown2⟩
      case measure => simp [intOf]; omega
    · obtain rfl : n = k := by omega
      obtain ⟨wo, hwo⟩ : ∃ wo : World, wo = wr := ⟨_, rfl⟩
      have hbo := hbw
      have hst : wr.ownsRow w.heap.size 3 1 u7 (n + 0) (i64s (R.take (n + 0))) := hown
      clear hown
      go_wp2
      go_loopw [7, 9] (fun v i wr => ∃ k : Nat, k ≤ n' ∧ i = .int .i64 k ∧ Below w.heap.size w wr ∧ wr.ownsRow w.heap.size 3 1 v (n + k) (i64s (R.take (n + k)))) (fun _ i _ => n' - (intOf i).toNat)
      case atStart => exact ⟨0, Nat.zero_le _, rfl, hbo, hst⟩
      case round =>
        obtain ⟨k, hk, rfl, hbw2, hown⟩ := hrel
        clear hst hbo hbw
        by_cases hlt : k < n'
        · obtain ⟨ad, u, rfl, had, hu, hc⟩ := ((hr'.more hB').below hbw2).at_ hlt
          obtain ⟨z, hz, rfl⟩ := i64_at hu
          obtain ⟨hz1', hz2'⟩ := unhide HQ k z hz
          have hst := unhide H2 k z hz
          rw [unhide HL'] at hz2'
          rw [unhide HL, ← unhide HX2] at hst
          have hstep := hide (take_snoc_i hst)
          have hw3 : IntKind.i64.wrap (z + x2) = z + x2 := by rw [IntKind.wrap_i64]; omega
          clear hu hz hst
          go_wp2
          have hblk : (ad.add k).block < w.heap.size := by rw [block_of_add]; omega
          have hb0 := Below.refl w.heap.size wr
          have hsz := hbw2.size
          go_region_held3 (fun w' => w'.cell? (ad.add k) = some (.int .i64 z) ∧ Below w.heap.size wr w') ((refine keep_low hc hblk ?_; first | assumption | (apply Below.drew; assumption) | exact (hb0.alloc (by omega) _).drew))
            (first
              | (go_simp; go_at_call 54; refine (bit_any _ _).mono ?_; rintro e w' ⟨rfl, rfl⟩)
              | (refine step_append_one (by rfl) (.tmp 36) (.tmp 48) (by rfl) w.heap.size (n + k) wr wr _ _ (z + x2) (by rfl) (by rfl) (by rfl) hown (by omega) (by omega) hb0 hsz ?_; intro v2 w2 hown2 hb2))
          have hb3 := hbw2.trans hb2
          rw [← unhide hstep] at hown2
          clear hown hbw2 hstep hb0 hb2
          go_wp2
          go_roundw
          case rel => exact ⟨k + 1, by omega, by go_num, hb3, hown2⟩
          case measure => simp [intOf]; omega
        · obtain rfl : n' = k := by omega
          have hI : Ints wr w.heap.size u7 R := by
            have h := hown
            rw [List.take_of_length_le (by rw [unhide HR]; exact Nat.le_refl _), ← unhide HR] at h
            exact Ints.of_own h
          clear hown
          go_wp2
          go_ret
          exact GivesI.mk hI hbw2
end Go.Proofs.YtinnlhfdgbeibaaGreat


/-
  spec.l1Min, spec.l5Run, spec.IsInterval, spec.IntervalsOf, spec.IsSimple, spec.CountIntervals, by their contracts.
-/

namespace Go.Proofs.YtinnlhfdgbeibaaGreat
set_option maxRecDepth 100000
open Go.RowKit

theorem smin_any (a b : Int) (w : World) : Calls Tryz.prog 89 #[.int .i64 a, .int .i64 b] w fun e w' => e = .returned (.int .i64 (min a b)) ∧ w' = w := by
  by_cases h : a < b
  · have e : min a b = a := by omega
    rw [e]
    go_enter Tryz.func89, Tryz.ntmps89
    go_wp2
    go_ret
    exact ⟨rfl, rfl⟩
  · have e : min a b = b := by omega
    rw [e]
    go_enter Tryz.func89, Tryz.ntmps89
    go_wp2
    go_ret
    exact ⟨rfl, rfl⟩

/-- The least and the greatest one so far, from the first one on. -/
def loF (p : List Int) (a j : Nat) : Int := min (at0 p a) (lo (seg p a j))
def hiF (p : List Int) (a j : Nat) : Int := max (at0 p a) (hi (seg p a j))
theorem loF_all {p : List Int} {a k : Nat} (ha : a + k < p.length) : loF p a (k + 1) = lo (seg p a (k + 1)) := by
  have h1 := (lo_le (seg p a (k + 1))).1 (at0 p a) (mem_seg.2 ⟨a, Nat.le_refl _, by omega, at0_some (by omega)⟩)
  unfold loF; omega
theorem hiF_all {p : List Int} {a k : Nat} (ha : a + k < p.length) : hiF p a (k + 1) = hi (seg p a (k + 1)) := by
  have h1 := (le_hi (seg p a (k + 1))).1 (at0 p a) (mem_seg.2 ⟨a, Nat.le_refl _, by omega, at0_some (by omega)⟩)
  unfold hiF; omega
section
variable {p : List Int} (h : isP p = true)
include h
theorem loF_zero {a : Nat} (ha : a < p.length) : loF p a 0 = at0 p a := by
  have := isP_range h (at0_some ha)
  have := isP_le h
  unfold loF; rw [seg_zero, lo_nil]; omega
theorem hiF_zero {a : Nat} (ha : a < p.length) : hiF p a 0 = at0 p a := by
  have := isP_range h (at0_some ha)
  unfold hiF; rw [seg_zero, hi_nil]; omega
theorem loF_bnd (a j : Nat) (ha : a < p.length) : 1 ≤ loF p a j ∧ loF p a j ≤ 8 := by
  have := isP_range h (at0_some ha)
  have := lo_ge h a j
  have := (lo_le (seg p a j)).2
  unfold loF; omega
theorem hiF_bnd (a j : Nat) (ha : a < p.length) : 1 ≤ hiF p a j ∧ hiF p a j ≤ 8 := by
  have := isP_range h (at0_some ha)
  have := isP_le h
  have := hi_le8 h a j
  have := (le_hi (seg p a j)).2
  unfold hiF; omega
end
theorem loF_step {p : List Int} {a j : Nat} {z : Int} (hz : p[a + j]? = some z) : min (loF p a j) z = loF p a (j + 1) := by
  unfold loF; rw [seg_snoc hz, lo_snoc]; omega
theorem hiF_step {p : List Int} {a j : Nat} {z : Int} (hz : p[a + j]? = some z) : max (hiF p a j) z = hiF p a (j + 1) := by
  unfold hiF; rw [seg_snoc hz, hi_snoc]; omega

set_option maxHeartbeats 800000 in
theorem srun_any (A : Option Addr) (n c B : Nat) (zs : List Int) (a k : Nat) (F T : Int) (hF : F = (a : Int)) (hT : T = (a : Int) + k) (b : Bool) (hb : iv zs a k = b) (w : World) (h : Arg w B A n c zs) (hp : isP zs = true) (hk : a + k < n) :
    Calls Tryz.prog 66 #[.slice A n c, .int .i64 F, .int .i64 T] w fun e w' => e = .returned (.bool b) ∧ w' = w := by
  subst hF
  subst hT
  have hl := h.len
  have hn8 : n ≤ 8 := by have := isP_le hp; omega
  have HL := hide hl
  have HP := hide hp
  have HR := hide h.reads
  have HB := hide hb
  obtain ⟨ad, u, rfl, _, hu, hc⟩ := h.reads.at_ (show a < n by omega)
  obtain ⟨x, hx, rfl⟩ := i64_at hu
  have hx0 : x = at0 zs a := (at0_of hx).symm
  have hl0 : x = loF zs a 0 := by rw [hx0, loF_zero hp (by omega)]
  have hh0 : x = hiF zs a 0 := by rw [hx0, hiF_zero hp (by omega)]
  have HL0 := hide hl0
  have HH0 := hide hh0
  have hnn : a < n := by omega
  clear h hl hp hu hx hx0 hl0 hh0 hb
  go_enter Tryz.func66, Tryz.ntmps66
  go_wp2
  go_loop [7, 8, 9] (fun l m i => ∃ j : Nat, j ≤ k + 1 ∧ i = .int .i64 ((a : Int) + j) ∧ l = .int .i64 (loF zs a j) ∧ m = .int .i64 (hiF zs a j)) (fun _ _ i => a + k + 1 - (intOf i).toNat)
  case atStart => exact ⟨0, by omega, by go_num, by rw [← unhide HL0], by rw [← unhide HH0]⟩
  case round =>
    obtain ⟨j, hj, rfl, rfl, rfl⟩ := hrel
    have lb := loF_bnd (unhide HP) a j (by rw [unhide HL]; exact hnn)
    have hb := hiF_bnd (unhide HP) a j (by rw [unhide HL]; exact hnn)
    by_cases hlt : j ≤ k
    · obtain ⟨ad', u', hA, _, hu, hc'⟩ := (unhide HR).at_ (show a + j < n by omega)
      injection hA with hA
      subst hA
      obtain ⟨z, hz, rfl⟩ := i64_at hu
      have hlt' : (a : Int) + j ≤ (a : Int) + k := by omega
      have hs1 := hide (loF_step hz)
      have hs2 := hide (hiF_step hz)
      clear hu hz
      go_wp2_with fail
      refine (smin_any _ _ _).mono ?_
      rintro e w2 ⟨rfl, rfl⟩
      rw [unhide hs1]
      go_wp2_with fail
      refine (max_any _ _ _).mono ?_
      rintro e w3 ⟨rfl, rfl⟩
      rw [unhide hs2]
      go_wp2
      go_round
      case rel => exact ⟨j + 1, by omega, by go_num, rfl, rfl⟩
      case measure => simp [intOf]; omega
    · obtain rfl : j = k + 1 := by omega
      have hlt' : ¬ (a : Int) + ((k + 1 : Nat) : Int) ≤ (a : Int) + k := by omega
      have e1 := loF_all (p := zs) (a := a) (k := k) (by rw [unhide HL]; omega)
      have e2 := hiF_all (p := zs) (a := a) (k := k) (by rw [unhide HL]; omega)
      have hE : Hid ((hiF zs a (k + 1) - loF zs a (k + 1) == (a : Int) + k - a) = b) := hide (by
        rw [← unhide HB, e1, e2, show (a : Int) + k - a = k by omega, Bool.eq_iff_iff, iv_true]; simp)
      clear e1 e2
      go_wp2
      go_ret
      exact ⟨ret_bool (unhide hE), rfl⟩

set_option maxHeartbeats 1600000 in
theorem sivs_any (A : Option Addr) (n c B : Nat) (zs : List Int) (w : World) (h : Arg w B A n c zs) :
    Calls Tryz.prog 55 #[.slice A n c] w (GivesSS w (ivsR zs)) := by
  obtain ⟨b, hb⟩ : ∃ b, isP zs = b := ⟨_, rfl⟩
  have hI0 := IntsS.made0 w w.heap.size (Nat.le_refl _)
  have hbel := (Below.refl w.heap.size w).alloc (Nat.le_refl _) (.cells #[] 24)
  have H1 := hide (fun w' (hb' : Below w.heap.size w w') => sisperm_any A n c B zs b hb w' (h.below hb').reads h.le h.cap)
  have hl := h.len
  cases b with
  | false =>
    have hn0 : 0 < n := by
      by_cases h0 : 0 < n
      · exact h0
      · obtain rfl : zs = [] := List.eq_nil_of_length_eq_zero (by omega)
        exact absurd hb (by decide)
    rw [ivsR_no hb]
    have H2 := hide (unhide H1 _ hbel)
    clear hb h hl H1
    go_enter Tryz.func55, Tryz.ntmps55
    go_wp2
    go_loopw [3, 4, 5] (fun v i _ wr => i = .int .i64 0 ∧ v = .slice (some ⟨w.heap.size, 0, none⟩) 0 0 ∧ wr = w.alloc (.cells #[] 24)) (fun _ i _ _ => 0)
    case atStart => exact ⟨rfl, rfl, rfl⟩
    case round =>
      obtain ⟨rfl, rfl, rfl⟩ := hrel
      go_wp2_with fail
      refine (unhide H2).mono ?_
      rintro e w2 ⟨rfl, hd⟩
      have hI2 := hI0.below (hd.below _)
      have hb2 := hbel.trans (hd.below w.heap.size)
      clear H2 hd hI0 hbel
      go_wp2
      go_ret
      exact GivesSS.mk hI2 hb2
  | true =>
    have hn8 : n ≤ 8 := by have := isP_le hb; omega
    have HL := hide hl
    have HC := hide h
    have HP := hide hb
    have HR : Hid (ivsR zs = ivSK zs n) := hide (by rw [ivsR_yes hb, hl])
    have hI1 : IntsS (w.alloc (.cells #[] 24)) w.heap.size (.slice (some ⟨w.heap.size, 0, none⟩) 0 0) (ivSK zs 0) := hI0
    clear hb h hl hI0
    go_enter Tryz.func55, Tryz.ntmps55
    go_wp2
    go_loopw [3, 4, 5] (fun v i _ wr => ∃ a : Nat, a ≤ n ∧ i = .int .i64 a ∧ Below w.heap.size w wr ∧ IntsS wr w.heap.size v (ivSK zs a)) (fun _ i _ _ => n - (intOf i).toNat)
    case atStart => exact ⟨0, Nat.zero_le _, rfl, hbel, hI1⟩
    case round =>
      obtain ⟨a, ha, rfl, hbw, hI⟩ := hrel
      clear hI1 hbel
      by_cases hlt : a < n
      · have H2 := hide (unhide H1 wr hbw)
        go_wp2_with fail
        refine (unhide H2).mono ?_
        rintro e w2 ⟨rfl, hd⟩
        have hb2 := hbw.trans (hd.below w.heap.size)
        have hI2 : IntsS w2 w.heap.size u3 (ivSK zs a ++ rowS zs a 0) := by rw [rowS, List.append_nil]; exact hI.below (hd.below _)
        have hI3 : IntsS w2 w.heap.size u3 (ivSK zs a ++ rowS zs a 1) := by rw [rowS_no1 (by omega)]; exact hI2
        clear H2 hd hI2 hI hbw
        go_wp2
        go_loopw [3, 5] (fun v i wi => ∃ k : Nat, 1 ≤ k ∧ a + k ≤ n ∧ i = .int .i64 ((a : Int) + k) ∧ Below w.heap.size w wi ∧ IntsS wi w.heap.size v (ivSK zs a ++ rowS zs a k)) (fun _ i _ => n - (intOf i).toNat)
        case atStart => exact ⟨1, Nat.le_refl _, by omega, by go_num, hb2, hI3⟩
        case round =>
          obtain ⟨k, hk1, hk, rfl, hbw, hI⟩ := hrel
          clear hI3 hb2
          by_cases hlt2 : a + k < n
          · have hlt2' : (a : Int) + k < (n : Int) := by omega
            by_cases hw : k + 1 < n
            · have hw' : (a : Int) + k - a + 1 < (n : Int) := by omega
              cases hv : iv zs a k with
              | true =>
                have H3 := hide (fun F T (hF : F = (a : Int)) (hT : T = (a : Int) + k) => srun_any A n c B zs a k F T hF hT true hv wr ((unhide HC).below hbw) (unhide HP) hlt2)
                have hrow := hide (rowS_yes (p := zs) (by rw [unhide HL]; exact ⟨hk1, hw⟩) hv)
                have hsz := hbw.size
                have hln : (ivSK zs a ++ rowS zs a k).length ≤ 1048576 := by
                  have h1 := pick_K (p := zs) (m := a) (by rw [unhide HL]; omega)
                  have h2 := pick_row (p := zs) (a := a) (k := k) (by rw [unhide HL]; omega)
                  have h3 := pick_le zs.length (ivK zs a)
                  have h4 := pick_le zs.length (rowI zs a k)
                  have h5 := ivK_le zs a
                  have h6 := rowI_le zs a k
                  have h7 : a * zs.length ≤ 8 * 8 := Nat.mul_le_mul (by omega) (by rw [unhide HL]; exact hn8)
                  rw [h1] at h3
                  rw [h2] at h4
                  rw [List.length_append]; omega
                clear hv
                go_wp2_with fail
                refine (unhide H3 _ _ (by omega) (by omega)).mono ?_
                rintro e w4 ⟨rfl, rfl⟩
                have hbel2 := (Below.refl _ w4).alloc (Nat.le_refl _) (.cells #[.int .i64 ((a : Int) + 1), .int .i64 ((a : Int) + k + 1)] 3)
                have hu := Ints.made2 w4 _ ((a : Int) + 1) ((a : Int) + k + 1) (Nat.le_refl _)
                have hb6 := below_after hbw hbel2
                clear H3
                go_wp2_with (first
                  | (at_builtin; refine wpList_push_row rfl (.tmp 38) (.tmp 44) rfl w.heap.size w _ _ _ _ _ _ rfl ?c1 ?c2 hI hbel2 hu hln hb6 hsz ?_))
                case c1 => simp; rfl
                case c2 => simp
                intro v5 w5 hI5 hb5
                have hI7 : IntsS w5 w.heap.size v5 (ivSK zs a ++ rowS zs a (k + 1)) := by rw [unhide hrow]; exact hI5
                clear hI5 hI hbel2 hu hb6 hbw
                go_wp2
                go_roundw
                case rel => exact ⟨k + 1, by omega, by omega, by go_num, hb5, hI7⟩
                case measure => simp [intOf]; omega
              | false =>
                have H3 := hide (fun F T (hF : F = (a : Int)) (hT : T = (a : Int) + k) => srun_any A n c B zs a k F T hF hT false hv wr ((unhide HC).below hbw) (unhide HP) hlt2)
                have hI7 : IntsS wr w.heap.size u3 (ivSK zs a ++ rowS zs a (k + 1)) := by rw [rowS_no hv]; exact hI
                clear hv hI
                go_wp2_with fail
                refine (unhide H3 _ _ (by omega) (by omega)).mono ?_
                rintro e w4 ⟨rfl, rfl⟩
                go_wp2
                go_roundw
                case rel => exact ⟨k + 1, by omega, by omega, by go_num, hbw, hI7⟩
                case measure => simp [intOf]; omega
            · have hw' : ¬ (a : Int) + k - a + 1 < (n : Int) := by omega
              have hI7 : IntsS wr w.heap.size u3 (ivSK zs a ++ rowS zs a (k + 1)) := by rw [rowS_no1 (by rw [unhide HL]; omega)]; exact hI
              clear hI
              go_wp2
              go_roundw
              case rel => exact ⟨k + 1, by omega, by omega, by go_num, hbw, hI7⟩
              case measure => simp [intOf]; omega
          · have hk2 : k = n - a := by omega
            have hI5 : IntsS wr w.heap.size u3 (ivSK zs (a + 1)) := by rw [ivSK, unhide HL, ← hk2]; exact hI
            have hlt2' : ¬ (a : Int) + k < (n : Int) := by omega
            clear hI hk2
            go_wp2
            go_roundw
            case rel => exact ⟨a + 1, by omega, by go_num, hbw, hI5⟩
            case measure => simp [intOf]; omega
      · obtain rfl : n = a := by omega
        have hI5 : IntsS wr w.heap.size u3 (ivsR zs) := by rw [unhide HR]; exact hI
        clear hI
        go_wp2
        go_ret
        exact GivesSS.mk hI5 hbw

theorem ssimple_any (A : Option Addr) (n c B : Nat) (zs : List Int) (w : World) (h : Arg w B A n c zs) :
    Calls Tryz.prog 25 #[.slice A n c] w (GivesB w (simpleP zs)) := by
  obtain ⟨b, hb⟩ : ∃ b, isP zs = b := ⟨_, rfl⟩
  have H0 := hide (sisperm_any A n c B zs b hb w h.reads h.le h.cap)
  have hl := h.len
  unfold simpleP
  rw [hb, hl]
  cases b with
  | false =>
    clear hb h hl
    simp only [Bool.false_and]
    go_enter Tryz.func25, Tryz.ntmps25
    go_wp2_with fail
    refine (unhide H0).mono ?_
    rintro e w1 ⟨rfl, hd⟩
    have hb := hd.below w.heap.size
    clear H0 hd
    go_wp2
    go_ret
    exact ⟨rfl, hb⟩
  | true =>
    by_cases h0 : 0 < n
    · have H1 := hide (fun w' (hb' : Below w.heap.size w w') => sivs_any A n c B zs w' (h.below hb'))
      obtain ⟨m, hm⟩ : ∃ m, m = (ivsR zs).length := ⟨_, rfl⟩
      have HM := hide hm
      rw [← hm, show decide (0 < n) = true from decide_eq_true h0, Bool.true_and, Bool.true_and]
      have hm64 : m ≤ 64 := by rw [hm]; exact (ivsR_small zs).1
      have h0' : (0 : Int) < (n : Int) := by omega
      clear hb h hl hm
      go_enter Tryz.func25, Tryz.ntmps25
      go_wp2_with fail
      refine (unhide H0).mono ?_
      rintro e w1 ⟨rfl, hd⟩
      have hb1 := hd.below w.heap.size
      have H2 := hide (unhide H1 w1 hb1)
      clear H0 H1 hd
      go_wp2_with fail
      refine (unhide H2).mono ?_
      rintro e w2 ⟨A2, c2, rfl, hP2, hb2⟩
      have hb3 := below_after hb1 hb2
      rw [← unhide HM]
      clear H2 hP2 hb1 hb2
      go_wp2
      go_ret
      exact ⟨ret_bool (decide_eq_decide.2 (by omega)), hb3⟩
    · have h0' : ¬ (0 : Int) < (n : Int) := by omega
      rw [show decide (0 < n) = false from decide_eq_false h0]
      simp only [Bool.and_false, Bool.false_and]
      clear hb h hl h0
      go_enter Tryz.func25, Tryz.ntmps25
      go_wp2_with fail
      refine (unhide H0).mono ?_
      rintro e w1 ⟨rfl, hd⟩
      have hb := hd.below w.heap.size
      clear H0 hd
      go_wp2
      go_ret
      exact ⟨rfl, hb⟩

end Go.Proofs.YtinnlhfdgbeibaaGreat


/-
  spec.l3All, by its contract.
-/

namespace Go.Proofs.YtinnlhfdgbeibaaGreat
set_option maxRecDepth 100000
open Go.RowKit

theorem l3all_any (A : Option Addr) (n c B : Nat) (zss : List (List Int)) (b : Bool) (hb : allP zss = b) (w : World) (hS : IntsS w B (.slice A n c) zss) (hn : n ≤ 1048576) (hsm : ∀ z ∈ zss, z.length ≤ 1048576 ∧ Small z) :
    Calls Tryz.prog 53 #[.slice A n c] w fun e w' => e = .returned (.bool b) ∧ Drew w w' := by
  have hl := hS.len
  have HL := hide hl
  have HB := hide hb
  have HSM := hide hsm
  clear hl hb hsm
  go_enter Tryz.func53, Tryz.ntmps53
  go_wp2
  go_loopw [3] (fun i wr => ∃ k : Nat, k ≤ n ∧ i = .int .i64 k ∧ Drew w wr ∧ Hid (∀ z ∈ zss.take k, isP z = true)) (fun i _ => n - (intOf i).toNat)
  case atStart => exact ⟨0, Nat.zero_le _, rfl, Drew.refl _, fun z hz => by simp at hz⟩
  case round =>
    obtain ⟨k, hk, rfl, hd, hP⟩ := hrel
    by_cases hlt : k < n
    · obtain ⟨ad, A1, c1, z, rfl, hz, hcell, hI⟩ := (hS.below (hd.below _)).at_ hlt
      obtain ⟨hzl, hzs⟩ := unhide HSM z (List.mem_of_getElem? hz)
      have hA := hI.arg hzl hI.cap hzs
      obtain ⟨b1, hb1⟩ : ∃ b, isP z = b := ⟨_, rfl⟩
      have H1 := hide (sisperm_any A1 z.length c1 wr.heap.size z b1 hb1 wr hA.reads hA.le hA.cap)
      cases b1 with
      | false =>
        obtain rfl : b = false := (unhide HB).symm.trans (allP_no (List.mem_of_getElem? hz) hb1)
        have HD := hide hd
        clear hz hb1 hI hA hP hzs HB hd
        go_wp2_with fail
        refine (unhide H1).mono ?_
        rintro e w2 ⟨rfl, hd⟩
        have hd2 := (unhide HD).trans hd
        clear H1 hd HD
        go_wp2
        go_ret
        exact ⟨rfl, hd2⟩
      | true =>
        have hnext : Hid (∀ z ∈ zss.take (k + 1), isP z = true) := hide (fun y hy => by
          rw [List.take_add_one, hz] at hy
          rcases List.mem_append.1 hy with h | h
          · exact unhide hP y h
          · simp at h
            subst h
            exact hb1)
        have HD := hide hd
        clear hz hb1 hI hA hP hzs hd
        go_wp2_with fail
        refine (unhide H1).mono ?_
        rintro e w2 ⟨rfl, hd⟩
        have hd2 := (unhide HD).trans hd
        clear H1 hd HD
        go_wp2
        go_roundw
        case rel => exact ⟨k + 1, by omega, by go_num, hd2, hnext⟩
        case measure => simp [intOf]; omega
    · obtain rfl : n = k := by omega
      obtain rfl : b = true := (unhide HB).symm.trans (allP_yes fun z hz => unhide hP z (by rw [List.take_of_length_le (by rw [unhide HL]; exact Nat.le_refl _)]; exact hz))
      clear HB hP
      go_wp2
      go_ret
      exact ⟨rfl, hd⟩
end Go.Proofs.YtinnlhfdgbeibaaGreat


/-
  impl.countBelow, impl.InflateBy, by their contracts.
-/

namespace Go.Proofs.YtinnlhfdgbeibaaGreat
set_option maxRecDepth 100000
open Go.RowKit

theorem IntsS.at_low {w w' : World} {B n c : Nat} {A : Option Addr} {zss : List (List Int)} (h : IntsS w B (.slice A n c) zss) (hb : Below w.heap.size w w') {i : Nat} (hi : i < n) :
    ∃ ad A' c' zs, A = some ad ∧ zss[i]? = some zs ∧ w'.cell? (ad.add i) = some (.slice A' zs.length c') ∧ Ints w B (.slice A' zs.length c') zs := by
  have hn := h.len
  obtain ⟨vs, h1, h2⟩ := h
  subst hn
  obtain ⟨ad, u, hA, hlt, hu, hc⟩ := (Reads.of_own_at h1).at_ hi
  have hz : zss[i]? = some zss[i] := List.getElem?_eq_getElem hi
  have hr := h2.row i u _ hu hz
  obtain ⟨A', c', rfl⟩ := hr.slice
  exact ⟨ad, A', c', _, hA, hz, (hb.cell (by rw [block_of_add]; exact hlt)).trans hc, hr⟩
theorem tot_le (m : Nat) : ∀ l : List (List Int), (∀ z ∈ l, z.length ≤ m) → tot l ≤ l.length * m
  | [], _ => by simp [tot]
  | z :: l, h => by
    have h1 := tot_le m l fun y hy => h y (by simp [hy])
    have h2 := h z (by simp)
    have e : tot (z :: l) = z.length + tot l := by simp [tot]
    rw [e, List.length_cons, Nat.add_mul]
    omega
theorem map_take_one {z : List Int} {j : Nat} {y : Int} (r : Int) (h : z[j]? = some y) : (z.take (j + 1)).map (fun v => v + r) = (z.take j).map (fun v => v + r) ++ [y + r] := by
  rw [List.take_add_one, h, List.map_append]; rfl
theorem i64_snoc3 (xs : List Int) (z : Int) : i64s xs ++ [Value.int .i64 z] = i64s (xs ++ [z]) := by unfold i64s; simp

end Go.Proofs.YtinnlhfdgbeibaaGreat
