
/-
  impl.keepSpan and its closure, by their contracts.
-/
import Derived.Test.YtoiflglccbemeaaIvM
import Derived.Test.YtoiflglccbemeaaBlk
import Derived.Test.YtoiflglccbemeaaIsPerm
namespace Go.Proofs.Ytoiflglccbemeaa
set_option maxRecDepth 100000
open Go.RowKit

/-- Of what stood, blocks g1 and g2 alone may have turned. -/
structure Only (g1 g2 : Nat) (w w' : World) : Prop where
  os : w'.os = w.os
  tape : w'.tape = w.tape
  output : w'.output = w.output
  size : w'.heap.size = w.heap.size
  block : ∀ i, i ≠ g1 → i ≠ g2 → w'.heap[i]? = w.heap[i]?
theorem Only.refl (g1 g2 : Nat) (w : World) : Only g1 g2 w w := ⟨rfl, rfl, rfl, rfl, fun _ _ _ => rfl⟩
theorem Only.drew {g1 g2 : Nat} {w w' : World} (h : Only g1 g2 w w') : Only g1 g2 w w'.drew := ⟨h.os, h.tape, h.output, h.size, h.block⟩
theorem Only.drewN {g1 g2 : Nat} {w w' : World} (h : Only g1 g2 w w') (k : Nat) : Only g1 g2 w (w'.drewN k) := ⟨h.os, h.tape, h.output, h.size, h.block⟩
theorem Only.set1 {g1 g2 : Nat} {w w' : World} (h : Only g1 g2 w w') (u : Value) : Only g1 g2 w (w'.setCell ⟨g1, 0, none⟩ u) :=
  ⟨h.os, h.tape, h.output, by simp; exact h.size, fun i h1 h2 => (Below.heap_setCell _ _ _ i (fun e => h1 e)).trans (h.block i h1 h2)⟩
theorem Only.set2 {g1 g2 : Nat} {w w' : World} (h : Only g1 g2 w w') (u : Value) : Only g1 g2 w (w'.setCell ⟨g2, 0, none⟩ u) :=
  ⟨h.os, h.tape, h.output, by simp; exact h.size, fun i h1 h2 => (Below.heap_setCell _ _ _ i (fun e => h2 e)).trans (h.block i h1 h2)⟩
theorem Only.below {g1 g2 B : Nat} {w w' : World} (h : Only g1 g2 w w') (h1 : B ≤ g1) (h2 : B ≤ g2) : Below B w w' :=
  ⟨h.os, h.tape, h.output, Nat.le_of_eq h.size.symm, fun i hi => h.block i (by omega) (by omega)⟩

set_option maxHeartbeats 800000 in
theorem take_any (g1 g2 : Nat) (l h v m M : Int) (hm : (v < l ∧ m = v) ∨ (¬ v < l ∧ m = l)) (hM : (h < v ∧ M = v) ∨ (¬ h < v ∧ M = h)) (w : World) (hl : Whole w g1 3 #[.int .i64 l]) (hh : Whole w g2 3 #[.int .i64 h]) (hne : g1 ≠ g2) :
    Calls Try.prog 67 #[.int .i64 v, .pointer (some ⟨g1, 0, none⟩), .pointer (some ⟨g2, 0, none⟩)] w fun e w' =>
      e = .returned (.tuple #[.int .i64 m, .int .i64 M]) ∧ Whole w' g1 3 #[.int .i64 m] ∧ Whole w' g2 3 #[.int .i64 M] ∧ Only g1 g2 w w' := by
  have c1 := hl.cell 0
  have c2 := hh.cell 0
  have f1 := hl.frozen 0
  have f2 := hh.frozen 0
  have hne' := hne.symm
  simp at c1 c2
  rcases hm with ⟨h1, rfl⟩ | ⟨h1, rfl⟩ <;> rcases hM with ⟨h2, rfl⟩ | ⟨h2, rfl⟩
  all_goals
    go_enter Try.func67, Try.ntmps67
    go_wp2
    go_region
    all_goals (try go_wp2)
    go_quiet (fail)
    go_wp2
    go_ret2
    exact ⟨rfl, ((hl.put 0 _).far (p := ⟨g2, 0, none⟩) hne _), ((hh.far (p := ⟨g1, 0, none⟩) hne' _).put 0 _), (((Only.refl g1 g2 w).set1 _).set2 _).drew.drewN _⟩

theorem keep_any (w : World) : Calls Try.prog 62 #[] w fun e w' =>
    e = .returned (.func (.func 67) #[] #[.pointer (some ⟨w.heap.size, 0, none⟩), .pointer (some ⟨w.heap.size + 1, 0, none⟩)]) ∧
      Whole w' w.heap.size 3 #[.int .i64 8] ∧ Whole w' (w.heap.size + 1) 3 #[.int .i64 1] ∧ Below w.heap.size w w' := by
  have hmf : ∀ (fn : Fn) (first cap : Array Value) (w : World), (Instr.makeFunc fn first cap).run Try.prog w = .ok (.func fn first cap) w := fun _ _ _ _ => rfl
  go_enter Try.func62, Try.ntmps62
  go_wp2
  go_ret
  refine ⟨rfl, ?_, ?_, ?_⟩
  · exact (Whole.new w 3 #[.int .i64 8]).alloc (.cells #[.int .i64 1] 3)
  · have h := Whole.new (w.alloc (.cells #[.int .i64 8] 3)) 3 #[.int .i64 1]
    simp at h
    exact h
  · exact ((Below.refl w.heap.size w).alloc (Nat.le_refl _) _).alloc (by simp) _

/-- The cells of a list of pairs; a list of pairs of the call's own. -/
def prC (l : List (Int × Int)) : List Value := l.flatMap fun x => [.int .i64 x.1, .int .i64 x.2]
theorem prC_snoc (l : List (Int × Int)) (f t : Int) : prC (l ++ [(f, t)]) = prC l ++ [.int .i64 f, .int .i64 t] := by simp [prC]
theorem prC_length (l : List (Int × Int)) : (prC l).length = l.length * 2 := by
  induction l with
  | nil => rfl
  | cons x l ih =>
    have e : prC (x :: l) = [.int .i64 x.1, .int .i64 x.2] ++ prC l := by simp [prC]
    rw [e, List.length_append, ih, List.length_cons]; simp; omega
theorem prC_at {l : List (Int × Int)} {k : Nat} {x : Int × Int} (h : l[k]? = some x) : (prC l)[k * 2]? = some (.int .i64 x.1) ∧ (prC l)[k * 2 + 1]? = some (.int .i64 x.2) := by
  induction l generalizing k with
  | nil => simp at h
  | cons y l ih =>
    have e : prC (y :: l) = .int .i64 y.1 :: .int .i64 y.2 :: prC l := by simp [prC]
    cases k with
    | zero =>
      simp at h
      subst h
      rw [e]
      exact ⟨rfl, rfl⟩
    | succ k =>
      have h1 := ih (k := k) (by simpa using h)
      rw [e, show (k + 1) * 2 = (k * 2 + 1) + 1 by omega]
      simp only [List.getElem?_cons_succ]
      exact h1
def Prs (w : World) (B : Nat) (v : Value) (l : List (Int × Int)) : Prop := w.ownsRow B 54 2 v l.length (prC l)
theorem pairInfo : (Try.prog.info? 54).map (fun i => (i.zero, i.size, i.bytes)) = some (some (.agg #[.int .i64 0, .int .i64 0]), 2, 16) := by kernel_rfl
theorem own_below_k {w w' : World} {base n k : Nat} {e : TypeId} {v : Value} {xs : List Value} (h : w.ownsRow base e k v n xs) (hb : Below w.heap.size w w') : w'.ownsRow base e k v n xs :=
  h.kept (grown_of_below hb none) (by cases hv : v.ownBlock <;> simp)
theorem Prs.below {w w' : World} {B : Nat} {v : Value} {l : List (Int × Int)} (h : Prs w B v l) (hb : Below w.heap.size w w') : Prs w' B v l := own_below_k h hb
theorem Prs.kept {w w' : World} {B : Nat} {v : Value} {l : List (Int × Int)} {row : Option Nat} (h : Prs w B v l) (hg : w.grownBy w' row) (hne : v.ownBlock = none ∨ v.ownBlock ≠ row) : Prs w' B v l := World.ownsRow.kept h hg hne
theorem Prs.nil (w : World) (B : Nat) : Prs w B (.slice none 0 0) [] := ⟨rfl, .inl ⟨rfl, rfl⟩⟩
theorem Prs.low {w : World} {B B' : Nat} {v : Value} {l : List (Int × Int)} (h : Prs w B v l) (hB : B' ≤ B) : Prs w B' v l := by
  refine ⟨h.1, ?_⟩
  rcases h.2 with h0 | ⟨g, cap, cur, hv, hb, hr⟩
  · exact .inl h0
  · exact .inr ⟨g, cap, cur, hv, Nat.le_trans hB hb, hr⟩
theorem Prs.slice {w : World} {B : Nat} {v : Value} {l : List (Int × Int)} (h : Prs w B v l) : ∃ A c, v = .slice A l.length c := by
  rcases h.2 with ⟨rfl, hz⟩ | ⟨g, cap, cur, rfl, _⟩
  · exact ⟨none, 0, by rw [hz]⟩
  · exact ⟨_, _, rfl⟩
theorem Prs.ne {w : World} {B g : Nat} {v : Value} {l : List (Int × Int)} {cs : Array Value} (h : Prs w B v l) (hw : Whole w g 3 cs) : some g ≠ v.ownBlock := by
  rcases h.2 with ⟨rfl, _⟩ | ⟨g', cap, cur, rfl, _, hg, _⟩
  · simp [Value.ownBlock]
  · simp only [Value.ownBlock]
    intro e
    injection e with e
    subst e
    unfold Whole at hw
    rw [hw] at hg
    injection hg with hg
    injection hg with _ h2
    exact absurd h2 (by decide)
theorem Prs.only {w w' : World} {B g1 g2 : Nat} {v : Value} {l : List (Int × Int)} {c1 c2 : Array Value} (h : Prs w B v l) (h1 : Whole w g1 3 c1) (h2 : Whole w g2 3 c2) (ho : Only g1 g2 w w') : Prs w' B v l := by
  have n1 := h.ne h1
  have n2 := h.ne h2
  refine ⟨h.1, ?_⟩
  rcases h.2 with h0 | ⟨g', cap, cur, rfl, hb, hg, hr⟩
  · exact .inl h0
  · simp only [Value.ownBlock] at n1 n2
    exact .inr ⟨g', cap, cur, rfl, hb, (ho.block g' (fun e => n1 (by rw [e])) (fun e => n2 (by rw [e]))).trans hg, hr⟩
/-- Where pair k lies, and its two cells. -/
theorem Prs.at_ {w : World} {B n c k : Nat} {A : Option Addr} {l : List (Int × Int)} {x : Int × Int} (h : Prs w B (.slice A n c) l) (hx : l[k]? = some x) :
    ∃ g, A = some ⟨g, 0, none⟩ ∧ g < w.heap.size ∧ w.cell? ⟨g, k * 2, none⟩ = some (.int .i64 x.1) ∧ w.cell? ⟨g, k * 2 + 1, none⟩ = some (.int .i64 x.2) := by
  obtain ⟨h1, h2⟩ := prC_at hx
  have hk := (List.getElem?_eq_some_iff.1 hx).1
  rcases h.2 with ⟨hv, hz⟩ | ⟨g, cap, cur, hv, hb, hg, hnc, _, hs, ht⟩
  · omega
  · injection hv with hA
    refine ⟨g, hA, (Array.getElem?_eq_some_iff.1 hg).1, ?_, ?_⟩
    · rw [cell_of_row w g (k * 2) cur _ (0, 0) hg, ← h1, ← ht, List.getElem?_take, if_pos (by omega)]; simp
    · rw [cell_of_row w g (k * 2 + 1) cur _ (0, 0) hg, ← h2, ← ht, List.getElem?_take, if_pos (by omega)]; simp
theorem wpList_append_pair {ops : Array Oper} {rest : List Oper} {o : Oper} {a : Act} {W : World} {Q : Exit → Act → World → Prop} (hgd : o.guard = none) (sl x : Operand)
    (ho : o.op = .call { callee := .builtin .append, args := #[sl, x], argTypes := #[55, 55] })
    (base : Nat) (w0 wr : World) (v : Value) (l : List (Int × Int)) (f t : Int) (hs : a.eval sl = v) (hx : a.eval x = .slice (some ⟨wr.heap.size, 0, none⟩) 1 1) (hW : W = wr.alloc (.cells #[.int .i64 f, .int .i64 t] 54))
    (hP : Prs wr base v l) (hn : l.length ≤ 1048576) (hb : Below base w0 wr) (hbase : base ≤ wr.heap.size)
    (K : ∀ v' w', Prs w' base v' (l ++ [(f, t)]) → Below base w0 w' → wr.grownBy w' v.ownBlock → wpList Try.prog ops Q rest (a.put o.dst v') w') : wpList Try.prog ops Q (o :: rest) a W := by
  obtain ⟨i0, hi, hz0, hz1, hz2⟩ := info_parts pairInfo
  subst hW
  refine wpList_append_own _ hgd sl x 55 ho base 54 i0 (.agg #[.int .i64 0, .int .i64 0]) 2 16 Try.underlying55 hi hz0 hz1 hz2 rfl (by decide) v _ _ hs (World.ownsRow.alloc hP _) ⟨wr.heap.size, 0, none⟩ 1 1 [.int .i64 f, .int .i64 t] hx rfl ?_ ?_ (by unfold maxLen; omega) (by omega) (by simp; omega) ?_
  · intro j u hj
    match j, hj with
    | 0, hj => simp at hj; subst hj; simp [Addr.add]
    | 1, hj => simp at hj; subst hj; simp [Addr.add]
  · intro u hu
    simp only [List.mem_cons, List.not_mem_nil, or_false] at hu
    rcases hu with rfl | rfl <;> rfl
  · intro v' w' h2 h3 _
    refine K v' w' ?_ ?_ ?_
    · unfold Prs
      rw [prC_snoc, List.length_append]
      exact h2
    · exact (hb.alloc hbase _).grown h3 (by simp; omega) (fun k hk => (World.ownsRow.lt hP k hk).1)
    · exact ⟨h3.os, h3.tape, h3.output, Nat.le_trans (by simp) h3.size, fun k hk hne => (h3.block k (by simp; omega) hne).trans (Below.heap_alloc wr _ k hk)⟩

def GivesP (w : World) (l : List (Int × Int)) (e : Ending) (w' : World) : Prop := ∃ A c, e = .returned (.slice A l.length c) ∧ Prs w' w.heap.size (.slice A l.length c) l ∧ Below w.heap.size w w'
theorem GivesP.mk {w w' : World} {v : Value} {l : List (Int × Int)} (h : Prs w' w.heap.size v l) (hb : Below w.heap.size w w') : GivesP w l (.returned v) w' := by
  obtain ⟨A, c, rfl⟩ := h.slice
  exact ⟨A, c, rfl, h, hb⟩
theorem min_cases (a b : Int) : (b < a ∧ min a b = b) ∨ (¬ b < a ∧ min a b = a) := by omega
theorem max_cases (a b : Int) : (a < b ∧ max a b = b) ∨ (¬ a < b ∧ max a b = a) := by omega

set_option maxHeartbeats 1600000 in
theorem iall_any (A : Option Addr) (n c B : Nat) (zs : List Int) (w : World) (h : Arg w B A n c zs) (hp : isP zs = true) :
    Calls Try.prog 46 #[.slice A n c] w (GivesP w (ivL zs)) := by
  have hl := h.len
  have hn8 : n ≤ 8 := by have := isP_le hp; omega
  have HL := hide hl
  have HC := hide h
  have HP := hide hp
  have hP0 := Prs.nil w w.heap.size
  clear h hl hp
  go_enter Try.func46, Try.ntmps46
  go_wp2
  go_loopw [3, 4, 5, 6, 7, 8] (fun v f _ _ _ _ wr => ∃ a : Nat, a ≤ n ∧ f = .int .i64 ((a : Int) + 1) ∧ Below w.heap.size w wr ∧ Prs wr w.heap.size v (ivK zs a)) (fun _ f _ _ _ _ _ => n + 1 - (intOf f).toNat)
  case atStart => exact ⟨0, Nat.zero_le _, rfl, Below.refl _ _, hP0⟩
  case round =>
    obtain ⟨a, ha, rfl, hbw, hP⟩ := hrel
    clear hP0
    by_cases hlt : a < n
    · have hlt' : (a : Int) + 1 ≤ (n : Int) := by omega
      have H1 := hide (keep_any wr)
      have hsz := hbw.size
      obtain ⟨g, hg⟩ : ∃ g, g = wr.heap.size := ⟨_, rfl⟩
      go_wp2_with fail
      refine (unhide H1).mono ?_
      rintro e w1 ⟨rfl, hW1, hW2, hb1⟩
      rw [← hg] at hsz hW1 hW2 ⊢
      have hb2 := below_after hbw hb1
      have hP2 : Prs w1 w.heap.size u3 (ivK zs a ++ rowI zs a 0) := by rw [rowI, List.append_nil]; exact hP.below hb1
      have hW1' : Whole w1 g 3 #[.int .i64 (lo (seg zs a 0))] := by rw [seg_zero]; exact hW1
      have hW2' : Whole w1 (g + 1) 3 #[.int .i64 (hi (seg zs a 0))] := by rw [seg_zero]; exact hW2
      clear hb1 hP hW1 hW2 hbw hg H1
      go_wp2
      go_loopw [3, 6, 7, 8] (fun v l _ _ wi => ∃ k : Nat, a + k ≤ n ∧ l = .int .i64 ((a : Int) + 1 + k) ∧ Below w.heap.size w wi ∧ Prs wi w.heap.size v (ivK zs a ++ rowI zs a k) ∧ Whole wi g 3 #[.int .i64 (lo (seg zs a k))] ∧ Whole wi (g + 1) 3 #[.int .i64 (hi (seg zs a k))]) (fun _ l _ _ _ => n + 1 - (intOf l).toNat)
      case atStart => exact ⟨0, by omega, by go_num, hb2, hP2, hW1', hW2'⟩
      case round =>
        obtain ⟨k, hk, rfl, hbw, hP, hW1, hW2⟩ := hrel
        clear hP2 hW1' hW2' hb2
        by_cases hlt2 : a + k < n
        · have hlt2' : (a : Int) + 1 + k ≤ (n : Int) := by omega
          have hA := (unhide HC).below hbw
          obtain ⟨ad, u, rfl, _, hu, hc⟩ := hA.reads.at_ hlt2
          obtain ⟨z, hz, rfl⟩ := i64_at hu
          have hsg := seg_snoc hz
          have hlo := lo_snoc (seg zs a k) z
          have hhi := hi_snoc (seg zs a k) z
          rw [← hsg] at hlo hhi
          have hbnd : 1 ≤ lo (seg zs a (k + 1)) ∧ lo (seg zs a (k + 1)) ≤ 8 ∧ 1 ≤ hi (seg zs a (k + 1)) ∧ hi (seg zs a (k + 1)) ≤ 8 := ⟨lo_ge (unhide HP) a (k + 1), (lo_le _).2, (le_hi _).2, hi_le8 (unhide HP) a (k + 1)⟩
          have H2 := hide (take_any g (g + 1) (lo (seg zs a k)) (hi (seg zs a k)) z (lo (seg zs a (k + 1))) (hi (seg zs a (k + 1))) (by rw [hlo]; exact min_cases _ _) (by rw [hhi]; exact max_cases _ _) wr hW1 hW2 (by omega))
          have HV := hide (show (iv zs a k = true ↔ hi (seg zs a (k + 1)) - lo (seg zs a (k + 1)) = (k : Int)) from iv_true)
          obtain ⟨L, hL⟩ : ∃ L, L = lo (seg zs a (k + 1)) := ⟨_, rfl⟩
          obtain ⟨M, hM⟩ : ∃ M, M = hi (seg zs a (k + 1)) := ⟨_, rfl⟩
          rw [← hL, ← hM] at H2 HV hbnd
          have HLM := hide (And.intro hL hM)
          have hln : (ivK zs a ++ rowI zs a k).length ≤ 1048576 := by
            have h1 := ivK_le zs a
            have h2 := rowI_le zs a k
            have h3 : a * zs.length ≤ 8 * 8 := Nat.mul_le_mul (by omega) (by rw [unhide HL]; exact hn8)
            rw [List.length_append]; omega
          obtain ⟨hb1', hb2', hb3', hb4'⟩ := hbnd
          clear hu hz hsg hlo hhi hL hM hA
          go_wp2_with fail
          refine (unhide H2).mono ?_
          rintro e w2 ⟨rfl, hV1, hV2, ho⟩
          clear H2
          have hP3 := hP.only hW1 hW2 ho
          have hge := hW1.lt
          have hb3 := hbw.trans (ho.below (by omega) (by omega))
          obtain ⟨hL, hM⟩ := unhide HLM
          rw [hL] at hV1
          rw [hM] at hV2
          clear hP hW1 hW2 ho hbw hL hM
          cases hv : iv zs a k with
          | true =>
            have heq := (unhide HV).1 hv
            have heq' : M - L = (a : Int) + 1 + k - ((a : Int) + 1) := by omega
            have hrow := hide (rowI_yes hv)
            clear hv
            go_wp2_with (first
              | (at_builtin; refine wpList_append_pair rfl (.tmp 40) (.tmp 44) rfl w.heap.size w w2 _ _ ((a : Int) + 1) ((a : Int) + 1 + k) rfl rfl rfl hP3 hln hb3 hb3.size ?_))
            intro v4 w4 hP4 hb4 hg4
            have hP5 : Prs w4 w.heap.size v4 (ivK zs a ++ rowI zs a (k + 1)) := by rw [unhide hrow, show (a : Int) + k + 1 = a + 1 + k by omega]; exact hP4
            have hV3 := hV1.grown hg4 (hP3.ne hV1)
            have hV4 := hV2.grown hg4 (hP3.ne hV2)
            clear hP4 hg4 hP3 hV1 hV2 hb3 heq heq'
            go_wp2
            go_roundw
            case rel => exact ⟨k + 1, by omega, by go_num, hb4, hP5, hV3, hV4⟩
            case measure => simp [intOf]; omega
          | false =>
            have hne : ¬ M - L = (k : Int) := fun e => by rw [(unhide HV).2 e] at hv; cases hv
            have hne' : ¬ M - L = (a : Int) + 1 + k - ((a : Int) + 1) := by omega
            have hP5 : Prs w2 w.heap.size u3 (ivK zs a ++ rowI zs a (k + 1)) := by rw [rowI_no hv]; exact hP3
            clear hv hP3
            go_wp2
            go_roundw
            case rel => exact ⟨k + 1, by omega, by go_num, hb3, hP5, hV1, hV2⟩
            case measure => simp [intOf]; omega
        · have hk2 : k = n - a := by omega
          have hP5 : Prs wr w.heap.size u3 (ivK zs (a + 1)) := by rw [ivK, unhide HL, ← hk2]; exact hP
          have hlt2' : ¬ (a : Int) + 1 + k ≤ (n : Int) := by omega
          clear hP hW1 hW2 hk2
          go_wp2
          go_roundw
          case rel => exact ⟨a + 1, by omega, by go_num, hbw, hP5⟩
          case measure => simp [intOf]; omega
    · obtain rfl : n = a := by omega
      have hP5 : Prs wr w.heap.size u3 (ivL zs) := by rw [ivL, unhide HL]; exact hP
      have hlt' : ¬ (n : Int) + 1 ≤ (n : Int) := by omega
      clear hP
      go_wp2
      go_ret
      exact GivesP.mk hP5 hbw
end Go.Proofs.Ytoiflglccbemeaa
