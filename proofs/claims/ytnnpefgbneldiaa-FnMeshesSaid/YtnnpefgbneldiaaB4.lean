/-
  Words and contracts that the laws lean on, bundled: Push, RunS, RunM, RunI, End, PermsOf, Fill, AvR, Alt.
-/
import Derived.Test.YtnnpefgbneldiaaB3
import Derived.Maps.AppendAt
import Derived.Test.YtnnpefgbneldiaaB2
import Derived.Test.YtnnpefgbneldiaaB1
import Derived.Deep.RegionHeld3
import Derived.Test.YtnnpefgbneldiaaRows
import Derived.ProofKit
import Derived.OpenShut
import Derived.Carry
import Derived.SliceStrings
import Derived.IntWalk

/-
  WORDS: 'list = append(list, row)', row a list that was just made; a cut of an argument. Nothing here speaks of a function of the program.
-/

namespace Go.Proofs.Ytnnpefgbneldiaa
set_option maxRecDepth 100000
open Go.RowKit

theorem wpList_push_row {ops : Array Oper} {rest : List Oper} {o : Oper} {a : Act} {W : World} {Q : Exit → Act → World → Prop} (hgd : o.guard = none) (sl x : Operand)
    (ho : o.op = .call { callee := .builtin .append, args := #[sl, x], argTypes := #[40, 40] })
    (base : Nat) (W0 w0 wr : World) (v u : Value) (zss : List (List Int)) (zs : List Int) (hs : a.eval sl = v) (hx : a.eval x = .slice (some ⟨wr.heap.size, 0, none⟩) 1 1) (hW : W = wr.alloc (.cells #[u] 24))
    (hS : IntsS w0 base v zss) (hb0 : Below w0.heap.size w0 wr) (hu : Ints wr w0.heap.size u zs) (hn : zss.length ≤ 1048576) (hb : Below base W0 wr) (hbase : base ≤ w0.heap.size)
    (K : ∀ v' w', IntsS w' base v' (zss ++ [zs]) → Below base W0 w' → wpList Try.prog ops Q rest (a.put o.dst v') w') : wpList Try.prog ops Q (o :: rest) a W := by
  obtain ⟨i0, hi, hz0, hz1, hz2⟩ := info_parts rowsInfo
  obtain ⟨vs, hown, hin⟩ := hS
  have hown1 := own_below hown hb0
  obtain ⟨A1, c1, rfl⟩ := hu.slice
  refine wpList_append_one hgd sl x 40 ho base 24 i0 (.slice none 0 0) 24 Try.underlying40 hi hz0 hz1 hz2 rfl W0 wr v _ _ hs hown1 _ hx hW rfl (by omega) (by unfold maxLen; omega) hb (Nat.le_trans hbase hb0.size) fun v' w' h1 h2 h3 => K v' w' ?_ h2
  have hk := KeepI.of_grown hown1 h3
  refine ⟨vs ++ [.slice A1 zs.length c1], by rw [List.length_append]; exact h1, ?_⟩
  exact ((hin.keepI (KeepI.of_below hb0)).keepI hk).push ((hu.low hbase).keepI hk) (hin.away_new hu.since (Nat.le_refl _))
/-- The same, with what it leaves of other lists of rows. -/
theorem wpList_push_row_at {ops : Array Oper} {rest : List Oper} {o : Oper} {a : Act} {W : World} {Q : Exit → Act → World → Prop} (hgd : o.guard = none) (sl x : Operand)
    (ho : o.op = .call { callee := .builtin .append, args := #[sl, x], argTypes := #[40, 40] })
    (base : Nat) (W0 w0 wr : World) (v u : Value) (zss : List (List Int)) (zs : List Int) (hs : a.eval sl = v) (hx : a.eval x = .slice (some ⟨wr.heap.size, 0, none⟩) 1 1) (hW : W = wr.alloc (.cells #[u] 24))
    (hS : IntsS w0 base v zss) (hb0 : Below w0.heap.size w0 wr) (hu : Ints wr w0.heap.size u zs) (hn : zss.length ≤ 1048576) (hb : Below base W0 wr) (hbase : base ≤ w0.heap.size)
    (K : ∀ v' w', IntsS w' base v' (zss ++ [zs]) → Below base W0 w' → (∀ B' l yss, IntsS w0 B' l yss → Away l v → IntsS w' B' l yss ∧ Away l v') → wpList Try.prog ops Q rest (a.put o.dst v') w') : wpList Try.prog ops Q (o :: rest) a W := by
  obtain ⟨i0, hi, hz0, hz1, hz2⟩ := info_parts rowsInfo
  obtain ⟨vs, hown, hin⟩ := hS
  have hown1 := own_below hown hb0
  have hal := (Below.refl wr.heap.size wr).alloc (Nat.le_refl _) (.cells #[u] 24)
  have hown2 := own_below hown1 hal
  obtain ⟨A1, c1, rfl⟩ := hu.slice
  subst hW
  refine wpList_append_own_at _ hgd sl x 40 ho base 24 i0 (.slice none 0 0) 1 24 Try.underlying40 hi hz0 hz1 hz2 rfl (by decide) v _ _ hs hown2 ⟨wr.heap.size, 0, none⟩ 1 1 [.slice A1 zs.length c1] hx rfl ?_ ?_ (by unfold maxLen; omega) (by omega) (by simp; have := hb0.size; omega) ?_
  · intro j u hj
    match j, hj with
    | 0, hj => simp at hj; subst hj; simp [Addr.add]
  · intro y hy
    obtain rfl := List.mem_singleton.1 hy
    rfl
  · intro v' w' h1 h2 _ h4
    have hk := (KeepI.of_below hal).trans (KeepI.of_grown hown2 h2)
    refine K v' w' ⟨vs ++ [.slice A1 zs.length c1], by rw [List.length_append]; exact h1, ?_⟩ ?_ ?_
    · exact ((hin.keepI (KeepI.of_below hb0)).keepI hk).push ((hu.low hbase).keepI hk) (hin.away_new hu.since (Nat.le_refl _))
    · exact (hb.trans (hal.mono (Nat.le_trans hbase hb0.size))).grown h2 (by simp; have := hb0.size; omega) (fun k hk => (hown.lt k hk).1)
    · rintro B' l yss ⟨ys, ho, hi'⟩ ha
      have ho1 := own_below ho hb0
      refine ⟨⟨ys, (own_below ho1 hal).kept h2 ha, (hi'.keepI (KeepI.of_below hb0)).keepI hk⟩, ?_⟩
      rcases h4 with h4 | h4
      · rcases ha with ha | ha
        · exact .inl ha
        · exact .inr (by rw [h4]; exact ha)
      · cases hl : l.ownBlock with
        | none => exact .inl hl
        | some g =>
          refine .inr ?_
          rw [hl, h4]
          intro e
          have h5 := (ho1.lt g hl).2
          simp at e
          omega
/-- A row of rows whose row k is made anew. -/
theorem IntsS.put {w w' : World} {B g n cap k : Nat} {zss : List (List Int)} {z : List Int} {u : Value} (h : IntsS w B (.slice (some ⟨g, 0, none⟩) n cap) zss) (hb : Below w.heap.size w w') (hu : Ints w' w.heap.size u z) (hB : B ≤ w.heap.size) :
    IntsS (w'.setCell ⟨g, k, none⟩ u) B (.slice (some ⟨g, 0, none⟩) n cap) (zss.set k z) := by
  have hl := h.len
  subst hl
  obtain ⟨vs, h2, h3⟩ := h
  have o := own_below h2 hb
  have i := h3.keepI (KeepI.of_below hb)
  have ha := h3.away_new hu.since (Nat.le_refl _)
  have st := o.stored k u
  have hk := KeepI.of_grown o st.2
  refine ⟨vs.set k u, by rw [List.length_set]; exact st.1, ?_⟩
  exact (i.keepI hk).set k ((hu.low hB).keepI hk) ha
theorem IntsS.old {w : World} {B g n cap k : Nat} {zss : List (List Int)} (h : IntsS w B (.slice (some ⟨g, 0, none⟩) n cap) zss) (hk : k < n) : (∃ old, w.cell? ⟨g, k, none⟩ = some old) ∧ w.frozen? ⟨g, k, none⟩ = false ∧ B ≤ g := by
  have hl := h.len
  subst hl
  obtain ⟨vs, h2, _⟩ := h
  have hv : vs.length = zss.length := by simpa using h2.1
  exact ⟨⟨_, by rw [h2.cellAt k (by omega)]; exact List.getElem?_eq_getElem (by omega)⟩, h2.frozenAt k, (h2.lt g rfl).1⟩
theorem IntsS.shape {w : World} {B n c : Nat} {A : Option Addr} {zss : List (List Int)} (h : IntsS w B (.slice A n c) zss) (h0 : 0 < n) : ∃ g, A = some ⟨g, 0, none⟩ := by
  obtain ⟨vs, h1, _⟩ := h
  rcases h1.2 with ⟨hv, hz⟩ | ⟨g, cap, cur, hv, _⟩
  · injection hv with _ h3; omega
  · injection hv with h3
    exact ⟨g, h3⟩
theorem cut_at {zs : List Int} {f m j : Nat} (hj : j < m) : ((zs.drop f).take m)[j]? = zs[f + j]? := by rw [List.getElem?_take_of_lt hj, List.getElem?_drop]
/-- 'p[f : f + m]' as an argument. -/
theorem Arg.cut {w : World} {B n c f m : Nat} {ad : Addr} {zs : List Int} (h : Arg w B (some ad) n c zs) (hm : f + m ≤ n) : Arg w B (some (ad.add f)) m (c - f) ((zs.drop f).take m) := by
  have hl := h.len
  have hcap := h.cap
  refine ⟨⟨by rw [i64_length, List.length_take, List.length_drop]; omega, fun h0 => ?_⟩, h.under, by have := h.le; omega, by omega, fun z hz => h.small z (List.mem_of_mem_drop (List.mem_of_mem_take hz)), fun e => by cases e⟩
  obtain ⟨ad', he, hb, hc⟩ := h.reads.2 (by omega)
  injection he with he
  subst he
  refine ⟨_, rfl, by rw [block_of_add]; exact hb, fun j u hu => ?_⟩
  obtain ⟨z, hz, rfl⟩ := i64_at hu
  have hj : j < m := by have := (List.getElem?_eq_some_iff.1 hz).1; rw [List.length_take] at this; omega
  rw [cut_at hj] at hz
  rw [add_of_add]
  exact hc _ _ (i64_get hz)
end Go.Proofs.Ytnnpefgbneldiaa


/-
  spec.CountRuns, by its contract.
-/

namespace Go.Proofs.Ytnnpefgbneldiaa
set_option maxRecDepth 100000
open Go.RowKit

def numRun (p q : List Int) : Int := if isP p && isP q && decide (q.length ≠ 0) then (runN p q : Int) else -1
theorem runK_step (p q : List Int) (k : Nat) : (runK p q (k + 1)).length = (runK p q k).length + (if patL ((p.drop k).take q.length) = q then 1 else 0) := by
  unfold runK
  rw [List.range_succ, List.filter_append, List.length_append]
  congr 1
  by_cases h : patL ((p.drop k).take q.length) = q
  · rw [if_pos h, List.filter_cons_of_pos (by simp [h])]; rfl
  · rw [if_neg h, List.filter_cons_of_neg (by simp [h])]; rfl
theorem runK_le (p q : List Int) (k : Nat) : (runK p q k).length ≤ k := by
  unfold runK
  have := List.length_filter_le (fun i => decide (patL ((p.drop i).take q.length) = q)) (List.range k)
  rwa [List.length_range] at this
theorem patL_small8 {l : List Int} (h : l.length ≤ 1048576) : Small (patL l) := fun z hz => by have := patL_range z hz; omega
set_option maxHeartbeats 800000 in
theorem srun_any (A A' : Option Addr) (n c B n' c' B' : Nat) (p q : List Int) (w : World) (h : Arg w B A n c p) (h' : Arg w B' A' n' c' q) :
    Calls Try.prog 21 #[.slice A n c, .slice A' n' c'] w (GivesN w (numRun p q)) := by
  have hl := h.len
  have hl' := h'.len
  obtain ⟨bp, hp⟩ : ∃ b, isP p = b := ⟨_, rfl⟩
  obtain ⟨bq, hq⟩ : ∃ b, isP q = b := ⟨_, rfl⟩
  have H1 := hide (sisperm_any A n c B p bp hp w h.reads h.le h.cap)
  cases bp with
  | false =>
    rw [show numRun p q = -1 by unfold numRun; rw [hp]; rfl]
    clear h h' hp hq hl hl'
    go_enter Try.func21, Try.ntmps21
    go_wp2_with fail
    refine (unhide H1).mono ?_
    rintro e w1 ⟨rfl, d1⟩
    have hb := d1.below w.heap.size
    clear H1 d1
    go_wp2
    go_ret
    exact ⟨rfl, hb⟩
  | true =>
    have H2 := hide (show ∀ w1, Drew w w1 → _ from fun w1 d1 => sisperm_any A' n' c' B' q bq hq w1 (h'.reads.ofDrew d1) h'.le h'.cap)
    cases bq with
    | false =>
      rw [show numRun p q = -1 by unfold numRun; rw [hp, hq]; rfl]
      clear h h' hp hq hl hl'
      go_enter Try.func21, Try.ntmps21
      go_wp2_with fail
      refine (unhide H1).mono ?_
      rintro e w1 ⟨rfl, d1⟩
      have H3 := hide (unhide H2 w1 d1)
      clear H1 H2
      go_wp2_with fail
      refine (unhide H3).mono ?_
      rintro e w2 ⟨rfl, d2⟩
      have hb := (d1.trans d2).below w.heap.size
      clear H3 d1 d2
      go_wp2
      go_ret
      exact ⟨rfl, hb⟩
    | true =>
      by_cases h0 : n' = 0
      · subst h0
        rw [show numRun p q = -1 by unfold numRun; rw [hp, hq, hl']; rfl]
        clear h h' hp hq hl hl'
        go_enter Try.func21, Try.ntmps21
        go_wp2_with fail
        refine (unhide H1).mono ?_
        rintro e w1 ⟨rfl, d1⟩
        have H3 := hide (unhide H2 w1 d1)
        clear H1 H2
        go_wp2_with fail
        refine (unhide H3).mono ?_
        rintro e w2 ⟨rfl, d2⟩
        have hb := (d1.trans d2).below w.heap.size
        clear H3 d1 d2
        go_wp2
        go_ret
        exact ⟨rfl, hb⟩
      · rw [show numRun p q = ((runK p q (n + 1 - n')).length : Nat) by unfold numRun runN; rw [hp, hq, hl', hl, decide_eq_true h0]; rfl]
        have hn8 : n ≤ 8 := by have := isP_le hp; omega
        have hn8' : n' ≤ 8 := by have := isP_le hq; omega
        have h0' : ((n' : Int) == 0) = false := by simp; omega
        have HA := hide (⟨h, h'⟩ : Arg w B A n c p ∧ Arg w B' A' n' c' q)
        have HL := hide (⟨hl, hl'⟩ : p.length = n ∧ q.length = n')
        have hcap := h.cap
        clear h h' hp hq hl hl'
        go_enter Try.func21, Try.ntmps21
        go_wp2_with fail
        refine (unhide H1).mono ?_
        rintro e w1 ⟨rfl, d1⟩
        have H3 := hide (unhide H2 w1 d1)
        clear H1 H2
        go_wp2_with fail
        refine (unhide H3).mono ?_
        rintro e w2 ⟨rfl, d2⟩
        have hb2 := (d1.trans d2).below w.heap.size
        clear H3 d1 d2
        go_wp2
        go_loopw [5, 6] (fun s i wr => ∃ k : Nat, (k ≤ n + 1 - n' ∨ k = 0) ∧ i = .int .i64 k ∧ s = .int .i64 ((runK p q k).length : Nat) ∧ Below w.heap.size w wr) (fun _ i _ => n + 1 - n' - (intOf i).toNat)
        case atStart => exact ⟨0, .inr rfl, rfl, rfl, hb2⟩
        case round =>
          obtain ⟨k, hk, rfl, rfl, hb⟩ := hrel
          clear hb2
          have hrk := runK_le p q k
          have hst := runK_step p q k
          by_cases hlt : k + n' ≤ n
          · obtain ⟨hA, hA'⟩ := unhide HA
            have hAr := hA.below hb
            obtain ⟨ad, rfl⟩ : ∃ ad, A = some ad := by
              obtain ⟨ad, u, e, _⟩ := hAr.reads.at_ (show k < n by omega)
              exact ⟨ad, e⟩
            have hcut := hAr.cut (f := k) (m := n') (by omega)
            have H4 := hide (l2pat_any (some (ad.add k)) n' (c - k) B _ wr hcut (by omega))
            have hle1 : ((k : Int) + (n' : Int)) ≤ (n : Int) := by omega
            have hle2 : ((k : Int) + (n' : Int)) ≤ (c : Int) := by omega
            have hle3 : (k : Int) ≤ (k : Int) + (n' : Int) := by omega
            have hne : ¬ c = k := by omega
            have hwk : IntKind.i64.wrap ((k : Int) + (n' : Int)) = (k : Int) + (n' : Int) := by rw [IntKind.wrap_i64]; omega
            obtain ⟨Z, hZ⟩ : ∃ Z, Z = patL ((p.drop k).take n') := ⟨_, rfl⟩
            have hZl : Z.length = n' := by rw [hZ, patL_length, List.length_take, List.length_drop]; have := (unhide HL).1; omega
            have hZs : Small Z := by rw [hZ]; exact patL_small8 (by rw [List.length_take]; omega)
            rw [(unhide HL).2, ← hZ] at hst
            rw [← hZ] at H4
            obtain ⟨bb, hbb⟩ : ∃ b, decide (Z = q) = b := ⟨_, rfl⟩
            have H5 := hide (show ∀ w3 A3 c3, Below wr.heap.size wr w3 → Ints w3 wr.heap.size (.slice A3 Z.length c3) Z → _ from fun w3 A3 c3 d3 o3 => l2same_any A3 A' Z.length c3 _ n' c' B' Z q bb hbb w3 (o3.arg (by omega) o3.cap hZs) ((hA'.below hb).below d3))
            have H6 := hide (fun w4 => bit_any bb w4)
            have hbit : ((runK p q k).length : Int) + bitI bb = ((runK p q (k + 1)).length : Nat) := by
              rw [hst, ← hbb]
              by_cases e : Z = q
              · rw [if_pos e, decide_eq_true e]; simp [bitI]
              · rw [if_neg e, decide_eq_false e]; simp [bitI]
            have hbi : 0 ≤ bitI bb ∧ bitI bb ≤ 1 := by cases bb <;> simp [bitI]
            have HBI := hide hbit
            obtain ⟨bi, hbi2⟩ : ∃ bi, bi = bitI bb := ⟨_, rfl⟩
            rw [← hbi2] at hbi
            rw [← hbi2] at HBI H6
            clear hst hcut hA hA' hAr hZ hbb hbit hbi2 hZs
            go_wp2_with fail
            refine (unhide H4).mono ?_
            rintro e w3 ⟨A3, c3, rfl, o3, d3⟩
            have H7 := hide (unhide H5 w3 A3 c3 d3 o3)
            rw [hZl] at H7
            have hb3 := below_after hb d3
            clear H4 H5 o3 d3 hb
            go_wp2_with fail
            refine (unhide H7).mono ?_
            rintro e w4 ⟨rfl, d4⟩
            have hb4 := hb3.trans (d4.below _)
            have H8 := hide (unhide H6 w4)
            clear H7 H6 d4 hb3
            go_wp2_with fail
            refine (unhide H8).mono ?_
            rintro e w5 ⟨rfl, rfl⟩
            clear H8
            go_wp2
            go_roundw
            case rel => exact ⟨k + 1, .inl (by omega), by go_num, by rw [unhide HBI], hb4⟩
            case measure => simp [intOf]; omega
          · have hk2 : n + 1 - n' = k := by omega
            have hgt : ¬ ((k : Int) + (n' : Int) ≤ (n : Int)) := by omega
            have hwk : IntKind.i64.wrap ((k : Int) + (n' : Int)) = (k : Int) + (n' : Int) := by rw [IntKind.wrap_i64]; omega
            have HK := hide hk2
            clear hst hk2
            go_wp2
            go_ret
            exact ⟨ret_int (by rw [unhide HK]), hb⟩
end Go.Proofs.Ytnnpefgbneldiaa


/-
  PLAIN: overlaps, alternating permutations, choices, permutations without a run. Nothing here speaks of the program.
-/

namespace Go.Proofs.Ytnnpefgbneldiaa
set_option maxRecDepth 100000

/-! the runs of the reverse -/
theorem plRev_con (n : Nat) : plRev (n - 1) (conJ n) = conJ n := by
  refine ext_at0 (by unfold plRev conJ; simp) fun i hi => ?_
  have hi' : i < n - 1 := by unfold plRev conJ at hi; simpa using hi
  have hl : (conJ n).length = n - 1 := by unfold conJ; simp
  have ha : ∀ j, j < n - 1 → at0 (conJ n) j = (j : Int) + 1 := fun j hj => at0_of (by unfold conJ; rw [List.getElem?_map, List.getElem?_range hj]; rfl)
  rw [plRev_at (by omega), hl, ha _ (by omega), ha _ (by omega)]
  omega
theorem runN_rev {p q : List Int} (hp : isP p = true) (hq : isP q = true) (h0 : 0 < q.length) : runN p.reverse q.reverse = runN p q := by
  rw [← near_runs hp hq h0, ← near_runs (isP_rev hp) (isP_rev hq) (by rw [List.length_reverse]; exact h0), List.length_reverse]
  have h := near_rev (p := p) (q := q) (conJ_ok q.length)
  rw [plRev_con] at h
  exact h

/-! overlaps -/
def ovl (q : List Int) (k : Nat) : Bool := decide (patL (q.take k) = patL (q.drop (q.length - k)))
def ovlK (q : List Int) (m : Nat) : List Int := ((List.range m).filter fun i => ovl q (i + 1)).map fun (i : Nat) => (i : Int) + 1
def ovlR (q : List Int) : List Int := if isP q then ovlK q (q.length - 1) else []
theorem ovlK_step (q : List Int) (m : Nat) : ovlK q (m + 1) = ovlK q m ++ (if ovl q (m + 1) then [(m : Int) + 1] else []) := by
  unfold ovlK
  rw [List.range_succ, List.filter_append, List.map_append]
  congr 1
  by_cases h : ovl q (m + 1) = true
  · rw [if_pos h, List.filter_cons_of_pos (p := fun i => ovl q (i + 1)) h]; rfl
  · rw [if_neg h, List.filter_cons_of_neg (p := fun i => ovl q (i + 1)) h]; rfl
theorem ovlK_le (q : List Int) (m : Nat) : (ovlK q m).length ≤ m := by
  unfold ovlK
  rw [List.length_map]
  have := List.length_filter_le (fun i => ovl q (i + 1)) (List.range m)
  rwa [List.length_range] at this
theorem ovlR_yes {q : List Int} (h : isP q = true) : ovlR q = ovlK q (q.length - 1) := by unfold ovlR; rw [if_pos h]
theorem ovlR_no {q : List Int} (h : isP q = false) : ovlR q = [] := by unfold ovlR; rw [if_neg (by simp [h])]
theorem ovlR_le (q : List Int) : (ovlR q).length ≤ 8 := by
  cases h : isP q with
  | true => rw [ovlR_yes h]; have := ovlK_le q (q.length - 1); have := isP_le h; omega
  | false => rw [ovlR_no h]; simp
theorem ovlK_small (q : List Int) (m : Nat) (hm : m ≤ 8) : ∀ z ∈ ovlK q m, 1 ≤ z ∧ z ≤ 8 := fun z hz => by
  unfold ovlK at hz
  rw [List.mem_map] at hz
  obtain ⟨i, hi, rfl⟩ := hz
  have := List.mem_range.1 (List.mem_filter.1 hi).1
  omega
theorem ovlR_small (q : List Int) : ∀ z ∈ ovlR q, 1 ≤ z ∧ z ≤ 8 := by
  cases h : isP q with
  | true => rw [ovlR_yes h]; exact ovlK_small q _ (by have := isP_le h; omega)
  | false => rw [ovlR_no h]; simp
def looseR (q : List Int) : Bool := decide ((ovlR q).length = 1)

/-! alternating permutations -/
/-- A descent at each odd place, an ascent at each even one. -/
def altAt (p : List Int) (i : Nat) : Bool := decide (at0 p i < at0 p (i - 1)) == decide (i % 2 = 1)
def altK (p : List Int) (m : Nat) : Bool := (List.range m).all fun i => altAt p (i + 1)
def altR (p : List Int) : Bool := isP p && altK p (p.length - 1)
theorem altK_step (p : List Int) (m : Nat) : altK p (m + 1) = (altK p m && altAt p (m + 1)) := by
  unfold altK
  rw [List.range_succ, List.all_append]
  simp
theorem altK_no {p : List Int} {i m : Nat} (h : altAt p (i + 1) = false) (hi : i < m) : altK p m = false := by
  unfold altK
  rw [List.all_eq_false]
  exact ⟨i, List.mem_range.2 hi, by rw [h]; simp⟩

/-! choices -/
def choN (n : Nat) : Nat → Nat
  | 0 => 1
  | i + 1 => choN n i * (n - i) / (i + 1)
theorem choN_small : ∀ n : Nat, n ≤ 40 → ∀ i : Nat, i ≤ n → choN n i ≤ 137846528820 := by decide +kernel
def choZ (n k : Int) : Int := if 0 ≤ n ∧ n ≤ 40 ∧ 0 ≤ k ∧ k ≤ n then (choN n.toNat k.toNat : Int) else 0
theorem choZ_yes {n k : Nat} (h : n ≤ 40) (h' : k ≤ n) : choZ n k = (choN n k : Int) := by unfold choZ; rw [if_pos (by omega), Int.toNat_natCast, Int.toNat_natCast]
theorem choZ_no {n k : Int} (h : ¬ (0 ≤ n ∧ n ≤ 40 ∧ 0 ≤ k ∧ k ≤ n)) : choZ n k = 0 := by unfold choZ; rw [if_neg h]

/-! how many are alternating -/
def altN (n : Nat) : Nat := [1, 1, 1, 2, 5, 16, 61, 272, 1385, 7936, 50521, 353792, 2702765].getD n 0
def altS (m : Nat) : Nat → Nat
  | 0 => 0
  | k + 1 => altS m k + choN m k * altN k * altN (m - k)
theorem altS_half : ∀ m : Nat, m ≤ 11 → 1 ≤ m → altS m (m + 1) / 2 = altN (m + 1) := by decide +kernel
theorem altS_small : ∀ m : Nat, m ≤ 11 → ∀ k : Nat, k ≤ m + 1 → altS m k ≤ 10000000 := by decide +kernel
theorem altP_small : ∀ m : Nat, m ≤ 11 → ∀ k : Nat, k ≤ m → choN m k ≤ 10000000 ∧ altN k ≤ 10000000 ∧ altN (m - k) ≤ 10000000 ∧ choN m k * altN k ≤ 10000000 ∧ choN m k * altN k * altN (m - k) ≤ 10000000 := by decide +kernel
theorem altN_small : ∀ n : Nat, n ≤ 12 → altN n ≤ 2702765 := by decide
def altZ (n : Int) : Int := if 0 ≤ n ∧ n ≤ 12 then (altN n.toNat : Int) else -1
theorem altZ_yes {n : Nat} (h : n ≤ 12) : altZ n = (altN n : Int) := by unfold altZ; rw [if_pos (by omega), Int.toNat_natCast]
theorem altZ_no {n : Int} (h : ¬ (0 ≤ n ∧ n ≤ 12)) : altZ n = -1 := by unfold altZ; rw [if_neg h]
/-- .. among the permutations of a length. -/
theorem alt_count : ∀ n : Nat, n ≤ 5 → ((permL n).filter altR).length = altN n := by decide +kernel
def altC (zss : List (List Int)) (k : Nat) : Nat := ((zss.take k).filter altR).length
theorem altC_step {zss : List (List Int)} {k : Nat} {z : List Int} (h : zss[k]? = some z) : altC zss (k + 1) = altC zss k + if altR z then 1 else 0 := by
  unfold altC
  rw [List.take_add_one, h, List.filter_append, List.length_append]
  congr 1
  by_cases e : altR z = true
  · rw [if_pos e]; simp [e]
  · rw [if_neg e]; simp [e]
theorem altC_le (zss : List (List Int)) (k : Nat) : altC zss k ≤ k := by
  unfold altC
  have h1 := List.length_filter_le altR (zss.take k)
  have := List.length_take_le k zss
  omega
theorem altC_all {n : Nat} (h : n ≤ 5) : altC (permL n) (permL n).length = altN n := by
  unfold altC
  rw [List.take_of_length_le (Nat.le_refl _)]
  exact alt_count n h

/-! permutations without a run -/
theorem permL_isP6 : ∀ n : Nat, n ≤ 6 → ∀ r ∈ permL n, isP r = true := by decide +kernel
theorem permL_nodup5 : ∀ n : Nat, n ≤ 5 → (permL n).Nodup := by decide +kernel
theorem permL_rev5 : ∀ n : Nat, n ≤ 5 → ∀ r ∈ permL n, r.reverse ∈ permL n := by decide +kernel
def noRun (q p : List Int) : Bool := decide (runN p q = 0)
def avK (q : List Int) (zss : List (List Int)) (k : Nat) : Nat := ((zss.take k).filter (noRun q)).length
theorem avK_step {q : List Int} {zss : List (List Int)} {k : Nat} {z : List Int} (h : zss[k]? = some z) : avK q zss (k + 1) = avK q zss k + if runN z q = 0 then 1 else 0 := by
  unfold avK
  rw [List.take_add_one, h, List.filter_append, List.length_append]
  congr 1
  by_cases e : runN z q = 0
  · rw [if_pos e]; simp [noRun, e]
  · rw [if_neg e]; simp [noRun, e]
theorem avK_le (q : List Int) (zss : List (List Int)) (k : Nat) : avK q zss k ≤ k := by
  unfold avK
  have h1 := List.length_filter_le (noRun q) (zss.take k)
  have := List.length_take_le k zss
  omega
def avR (n : Int) (q : List Int) : Int := if (0 ≤ n ∧ n ≤ 6) ∧ isP q = true ∧ q.length ≠ 0 then (avK q (permL n.toNat) (permL n.toNat).length : Int) else -1
theorem avR_yes {n : Nat} {q : List Int} (h : n ≤ 6) (hq : isP q = true) (h0 : q.length ≠ 0) : avR n q = (avK q (permL n) (permL n).length : Int) := by unfold avR; rw [if_pos ⟨by omega, hq, h0⟩, Int.toNat_natCast]
theorem avR_no {n : Int} {q : List Int} (h : ¬ ((0 ≤ n ∧ n ≤ 6) ∧ isP q = true ∧ q.length ≠ 0)) : avR n q = -1 := by unfold avR; rw [if_neg h]
theorem av_rev_le {n : Nat} {q : List Int} (h : n ≤ 5) (hq : isP q = true) (h0 : 0 < q.length) : ((permL n).filter (noRun q)).length ≤ ((permL n).filter (noRun q.reverse)).length :=
  inject_le List.reverse ((permL_nodup5 n h).sublist List.filter_sublist) (fun p hp => by
    rw [List.mem_filter] at hp ⊢
    refine ⟨permL_rev5 n h p hp.1, ?_⟩
    have h1 := runN_rev (permL_isP6 n (by omega) p hp.1) hq h0
    unfold noRun at hp ⊢
    rw [h1]
    exact hp.2) fun x _ y _ e => by rw [← List.reverse_reverse x, e, List.reverse_reverse]
theorem av_rev {n : Int} {q : List Int} (h0 : 0 ≤ n) (h : n ≤ 5) (hl : 0 < q.length) : avR n (revR q) = avR n q := by
  obtain ⟨n, rfl⟩ : ∃ m : Nat, n = m := ⟨n.toNat, by omega⟩
  cases hq : isP q with
  | false => rw [revR_no hq, avR_no (by simp), avR_no (by simp [hq])]
  | true =>
    have hr := isP_rev hq
    rw [revR_yes hq, avR_yes (by omega) hr (by rw [List.length_reverse]; omega), avR_yes (by omega) hq (by omega)]
    unfold avK
    rw [List.take_of_length_le (Nat.le_refl _)]
    have h1 := av_rev_le (n := n) (by omega) hq hl
    have h2 := av_rev_le (n := n) (by omega) hr (by rw [List.length_reverse]; exact hl)
    rw [List.reverse_reverse] at h2
    omega
end Go.Proofs.Ytnnpefgbneldiaa


/-
  impl.samePattern, impl.CountRuns and impl.OverlapsOf, impl.IsLoose, by their contracts.
-/

namespace Go.Proofs.Ytnnpefgbneldiaa
set_option maxRecDepth 100000
open Go.RowKit

theorem patR_small (l : List Int) : Small (patR l) := fun z hz => by
  have h1 := patR_le l
  cases h : patOK l with
  | true =>
    rw [patR_yes h] at hz h1
    rw [patL_length] at h1
    have := patL_range z hz
    omega
  | false => rw [patR_no h] at hz; cases hz
theorem run_patOK {p : List Int} (hp : isP p = true) {s : List Int} (hs : s.Sublist p) : patOK s = true := patOK_yes (Nat.le_trans hs.length_le (isP_le hp)) ((isP_true.1 hp).2.2.sublist hs)
theorem run_same {p q s : List Int} (hp : isP p = true) (hq : isP q = true) (hs : s.Sublist p) : decide (patR s = patR q) = decide (patL s = q) := by
  rw [patR_yes (run_patOK hp hs), patR_yes (run_patOK hq (List.Sublist.refl q)), patL_self hq]
theorem ovl_same {q : List Int} (hq : isP q = true) (k : Nat) : decide (patR (q.take k) = patR (q.drop (q.length - k))) = ovl q k := by
  rw [patR_yes (run_patOK hq (List.take_sublist _ _)), patR_yes (run_patOK hq (List.drop_sublist _ _))]
  rfl
theorem below_same {w : World} : Below w.heap.size w w := Below.refl _ _
theorem ownNil (w : World) (B : Nat) (e : TypeId) : w.ownsRow B e 1 (.slice none 0 0) 0 [] := ⟨rfl, .inl ⟨rfl, rfl⟩⟩
/-- The beginning of a list, and its end, as arguments. -/
theorem Arg.front {w : World} {B n c k : Nat} {A : Option Addr} {zs : List Int} (h : Arg w B A n c zs) (hk : k ≤ n) : Arg w B A k c (zs.take k) :=
  ⟨h.reads.pre hk, h.under, Nat.le_trans hk h.le, Nat.le_trans hk h.cap, fun z hz => h.small z (List.mem_of_mem_take hz), h.nil⟩
theorem Arg.back {w : World} {B n c f : Nat} {ad : Addr} {zs : List Int} (h : Arg w B (some ad) n c zs) (hf : f ≤ n) : Arg w B (some (ad.add f)) (n - f) (c - f) (zs.drop f) := by
  have h1 := h.cut (f := f) (m := n - f) (by omega)
  rwa [List.take_of_length_le (by rw [List.length_drop]; have := h.len; omega)] at h1
set_option maxHeartbeats 800000 in
theorem isamp_any (A A' : Option Addr) (n c B n' c' B' : Nat) (p q : List Int) (b : Bool) (hb : decide (patR p = patR q) = b) (w : World) (h : Arg w B A n c p) (h' : Arg w B' A' n' c' q) :
    Calls Try.prog 63 #[.slice A n c, .slice A' n' c'] w (GivesB w b) := by
  obtain ⟨b1, hb1⟩ : ∃ b, patOK p = b := ⟨_, rfl⟩
  obtain ⟨b2, hb2⟩ : ∃ b, patOK q = b := ⟨_, rfl⟩
  have H1 := hide (ipat_any A n c B p b1 hb1 w h)
  have H2 := hide (show ∀ w1, Below w.heap.size w w1 → _ from fun w1 d1 => ipat_any A' n' c' B' q b2 hb2 w1 (h'.below d1))
  have h8 := patR_le p
  have h8' := patR_le q
  have HS := hide (patR_small p)
  have HS' := hide (patR_small q)
  have HB := hide hb
  clear h h' hb hb1 hb2
  go_enter Try.func63, Try.ntmps63
  go_wp2_with fail
  refine (unhide H1).mono ?_
  rintro e w1 ⟨A1, c1, rfl, o1, d1⟩
  have H3 := hide (unhide H2 w1 d1)
  clear H1 H2
  go_wp2_with fail
  refine (unhide H3).mono ?_
  rintro e w2 ⟨A2, c2, rfl, o2, d2⟩
  have a1 := (o1.arg (by omega) o1.cap (unhide HS)).below d2
  have a2 := o2.arg (by omega) o2.cap (unhide HS')
  have H4 := hide (eqsl_any _ _ _ _ _ _ _ _ _ _ b (unhide HB) w2 a1 a2)
  have hb2 := below_after d1 d2
  clear H3 o1 o2 d1 d2 a1 a2
  go_wp2_with fail
  refine (unhide H4).mono ?_
  rintro e w3 ⟨rfl, d3⟩
  have hb3 := below_after hb2 (d3.below _)
  clear H4 d3 hb2
  go_wp2
  go_ret
  exact ⟨rfl, hb3⟩
set_option maxHeartbeats 800000 in
theorem irun_any (A A' : Option Addr) (n c B n' c' B' : Nat) (p q : List Int) (w : World) (h : Arg w B A n c p) (h' : Arg w B' A' n' c' q) :
    Calls Try.prog 20 #[.slice A n c, .slice A' n' c'] w (GivesN w (numRun p q)) := by
  have hl := h.len
  have hl' := h'.len
  obtain ⟨bp, hp⟩ : ∃ b, isP p = b := ⟨_, rfl⟩
  obtain ⟨bq, hq⟩ : ∃ b, isP q = b := ⟨_, rfl⟩
  have H1 := hide (iisperm_any A n c B p bp hp w h.reads h.under h.le h.small)
  cases bp with
  | false =>
    rw [show numRun p q = -1 by unfold numRun; rw [hp]; rfl]
    clear h h' hp hq hl hl'
    go_enter Try.func20, Try.ntmps20
    go_wp2_with fail
    refine (unhide H1).mono ?_
    rintro e w1 ⟨rfl, hb⟩
    clear H1
    go_wp2
    go_ret
    exact ⟨rfl, hb⟩
  | true =>
    have H2 := hide (show ∀ w1, Below w.heap.size w w1 → _ from fun w1 d1 => iisperm_any A' n' c' B' q bq hq w1 (h'.below d1).reads (h'.below d1).under h'.le h'.small)
    cases bq with
    | false =>
      rw [show numRun p q = -1 by unfold numRun; rw [hp, hq]; rfl]
      clear h h' hp hq hl hl'
      go_enter Try.func20, Try.ntmps20
      go_wp2_with fail
      refine (unhide H1).mono ?_
      rintro e w1 ⟨rfl, d1⟩
      have H3 := hide (unhide H2 w1 d1)
      clear H1 H2
      go_wp2_with fail
      refine (unhide H3).mono ?_
      rintro e w2 ⟨rfl, d2⟩
      have hb := below_after d1 d2
      clear H3 d1 d2
      go_wp2
      go_ret
      exact ⟨rfl, hb⟩
    | true =>
      by_cases h0 : n' = 0
      · subst h0
        rw [show numRun p q = -1 by unfold numRun; rw [hp, hq, hl']; rfl]
        clear h h' hp hq hl hl'
        go_enter Try.func20, Try.ntmps20
        go_wp2_with fail
        refine (unhide H1).mono ?_
        rintro e w1 ⟨rfl, d1⟩
        have H3 := hide (unhide H2 w1 d1)
        clear H1 H2
        go_wp2_with fail
        refine (unhide H3).mono ?_
        rintro e w2 ⟨rfl, d2⟩
        have hb := below_after d1 d2
        clear H3 d1 d2
        go_wp2
        go_ret
        exact ⟨rfl, hb⟩
      · rw [show numRun p q = ((runK p q (n + 1 - n')).length : Nat) by unfold numRun runN; rw [hp, hq, hl', hl, decide_eq_true h0]; rfl]
        have hn8 : n ≤ 8 := by have := isP_le hp; omega
        have hn8' : n' ≤ 8 := by have := isP_le hq; omega
        have h0' : ((n' : Int) == 0) = false := by simp; omega
        have HA := hide (⟨h, h'⟩ : Arg w B A n c p ∧ Arg w B' A' n' c' q)
        have HL := hide (⟨hl, hl'⟩ : p.length = n ∧ q.length = n')
        have HP := hide (⟨hp, hq⟩ : isP p = true ∧ isP q = true)
        have hcap := h.cap
        clear h h' hp hq hl hl'
        go_enter Try.func20, Try.ntmps20
        go_wp2_with fail
        refine (unhide H1).mono ?_
        rintro e w1 ⟨rfl, d1⟩
        have H3 := hide (unhide H2 w1 d1)
        clear H1 H2
        go_wp2_with fail
        refine (unhide H3).mono ?_
        rintro e w2 ⟨rfl, d2⟩
        have hb2 := below_after d1 d2
        clear H3 d1 d2
        go_wp2
        go_loopw [5, 6] (fun s i wr => ∃ k : Nat, (k ≤ n + 1 - n' ∨ k = 0) ∧ i = .int .i64 ((k : Int) + (n' : Int)) ∧ s = .int .i64 ((runK p q k).length : Nat) ∧ Below w.heap.size w wr) (fun _ i _ => n + 1 - (intOf i).toNat)
        case atStart => exact ⟨0, .inr rfl, by rw [show ((0 : Nat) : Int) + (n' : Int) = (n' : Int) by omega], rfl, hb2⟩
        case round =>
          obtain ⟨k, hk, rfl, rfl, hb⟩ := hrel
          clear hb2
          have hrk := runK_le p q k
          have hst := runK_step p q k
          by_cases hlt : k + n' ≤ n
          · obtain ⟨hA, hA'⟩ := unhide HA
            have hAr := hA.below hb
            obtain ⟨ad, rfl⟩ : ∃ ad, A = some ad := by
              obtain ⟨ad, u, e, _⟩ := hAr.reads.at_ (show k < n by omega)
              exact ⟨ad, e⟩
            have hcut := hAr.cut (f := k) (m := n') (by omega)
            have hle1 : ((k : Int) + (n' : Int)) ≤ (n : Int) := by omega
            have hle2 : ((k : Int) + (n' : Int)) ≤ (c : Int) := by omega
            have hle3 : (k : Int) ≤ (k : Int) + (n' : Int) := by omega
            have hne : ¬ c = k := by omega
            have hwk : IntKind.i64.wrap ((k : Int) + (n' : Int) - (n' : Int)) = (k : Int) := by rw [IntKind.wrap_i64]; omega
            obtain ⟨bb, hbb⟩ : ∃ b, decide (patL ((p.drop k).take n') = q) = b := ⟨_, rfl⟩
            have H4 := hide (isamp_any (some (ad.add k)) A' n' (c - k) B n' c' B' _ q bb (by rw [run_same (unhide HP).1 (unhide HP).2 ((List.take_sublist _ _).trans (List.drop_sublist _ _))]; exact hbb) wr hcut (hA'.below hb))
            rw [(unhide HL).2] at hst
            clear hA hA' hAr hcut
            cases bb with
            | true =>
              rw [if_pos (by simpa using hbb)] at hst
              have HST := hide hst
              clear hst hbb
              go_wp2_with fail
              refine (unhide H4).mono ?_
              rintro e w3 ⟨rfl, d3⟩
              have hb3 := below_after hb d3
              clear H4 d3 hb
              go_wp2
              go_roundw
              case rel => exact ⟨k + 1, .inl (by omega), by go_num, by rw [unhide HST]; go_num, hb3⟩
              case measure => simp [intOf]; omega
            | false =>
              rw [if_neg (by simpa using hbb)] at hst
              have HST := hide hst
              clear hst hbb
              go_wp2_with fail
              refine (unhide H4).mono ?_
              rintro e w3 ⟨rfl, d3⟩
              have hb3 := below_after hb d3
              clear H4 d3 hb
              go_wp2
              go_roundw
              case rel => exact ⟨k + 1, .inl (by omega), by go_num, by rw [unhide HST]; rfl, hb3⟩
              case measure => simp [intOf]; omega
          · have hk2 : n + 1 - n' = k := by omega
            have hgt : ¬ ((k : Int) + (n' : Int) ≤ (n : Int)) := by omega
            have HK := hide hk2
            clear hst hk2
            go_wp2
            go_ret
            exact ⟨ret_int (by rw [unhide HK]), hb⟩
set_option maxHeartbeats 800000 in
theorem iovl_any (A : Option Addr) (n c B : Nat) (q : List Int) (w : World) (h : Arg w B A n c q) :
    Calls Try.prog 16 #[.slice A n c] w (GivesI w (ovlR q)) := by
  obtain ⟨i0, hi, hz0, hz1, hz2⟩ := info_parts intInfo
  have hl := h.len
  have hcap := h.cap
  obtain ⟨b, hb⟩ : ∃ b, isP q = b := ⟨_, rfl⟩
  have H1 := hide (iisperm_any A n c B q b hb w h.reads h.under h.le h.small)
  cases b with
  | false =>
    rw [ovlR_no hb]
    clear hb h hl hcap
    go_enter Try.func16, Try.ntmps16
    go_wp2_with fail
    refine (unhide H1).mono ?_
    rintro e w1 ⟨rfl, hb⟩
    clear H1
    go_wp2
    go_ret
    exact GivesI.mk (v := .slice none 0 0) (Ints.nil _ _) hb
  | true =>
    have hn8 : n ≤ 8 := by have := isP_le hb; omega
    rw [ovlR_yes hb, hl]
    have HA := hide h
    have HQ := hide hb
    have HL := hide hl
    clear hb h hl
    go_enter Try.func16, Try.ntmps16
    go_wp2_with fail
    refine (unhide H1).mono ?_
    rintro e w1 ⟨rfl, hb1⟩
    clear H1
    have hst := ownNil w1 w.heap.size 3
    go_wp2
    go_loopw [3, 4] (fun o i wr => ∃ k : Nat, (k = 0 ∨ k ≤ n - 1) ∧ i = .int .i64 ((k : Int) + 1) ∧ Below w.heap.size w wr ∧ wr.ownsRow w.heap.size 3 1 o (ovlK q k).length (i64s (ovlK q k))) (fun _ i _ => n - (intOf i).toNat)
    case atStart => exact ⟨0, .inl rfl, rfl, hb1, hst⟩
    case round =>
      obtain ⟨k, hk, rfl, hb, hown⟩ := hrel
      clear hst hb1
      have hle := ovlK_le q k
      have hstep := ovlK_step q k
      by_cases hlt : k + 1 < n
      · have hA := (unhide HA).below hb
        obtain ⟨ad, rfl⟩ : ∃ ad, A = some ad := by
          obtain ⟨ad, u, e, _⟩ := hA.reads.at_ (show k < n by omega)
          exact ⟨ad, e⟩
        have hfront := hA.front (k := k + 1) (by omega)
        have hback := hA.back (f := n - (k + 1)) (by omega)
        obtain ⟨bb, hbb⟩ : ∃ b, ovl q (k + 1) = b := ⟨_, rfl⟩
        obtain ⟨f, hf⟩ : ∃ f, f = n - (k + 1) := ⟨_, rfl⟩
        rw [← hf] at hback
        have hfi : (f : Int) = (n : Int) - ((k : Int) + 1) := by omega
        have hff : n - f = k + 1 := by omega
        rw [hff] at hback
        have H4 := hide (fun (w' : World) (d : Below wr.heap.size wr w') => isamp_any (some ad) (some (ad.add f)) (k + 1) c B (k + 1) (c - f) B _ _ bb (by rw [← hbb, ← ovl_same (unhide HQ), (unhide HL), hf]) w' (hfront.below d) (hback.below d))
        have hb0 : Below wr.heap.size wr wr.drew := (Below.refl _ _).drew
        have hwf : IntKind.i64.wrap ((n : Int) - ((k : Int) + 1)) = (f : Int) := by rw [IntKind.wrap_i64]; omega
        have hf0 : (0 : Int) ≤ (f : Int) := by omega
        have hf1 : (f : Int) ≤ (n : Int) := by omega
        have hk0 : (0 : Int) ≤ (k : Int) + 1 := by omega
        have hk1 : (k : Int) + 1 ≤ (c : Int) := by omega
        have hne : ¬ c = f := by omega
        have hfr : n - f = k + 1 := hff
        rw [hbb] at hstep
        have HO := hide hown
        have HB := hide hb
        have HST := hide hstep
        clear hfront hback hA hf hff hfi hown hb hbb hstep
        go_wp2_with fail
        go_region_held3 (fun _ => True) (trivial) ((go_simp; go_at_call 63; refine (unhide H4 _ hb0).mono ?_; rintro e w3 ⟨rfl, d3⟩))
        have hbd := below_after hb0 d3
        have hb3 := below_after (unhide HB) hbd
        have hown3 := own_below (unhide HO) hbd
        clear H4 HO HB d3 hbd hb0
        cases bb with
        | true =>
          have e2 : ovlK q (k + 1) = ovlK q k ++ [(k : Int) + 1] := by rw [unhide HST, if_pos rfl]
          have e3 : i64s (ovlK q k) ++ [.int .i64 ((k : Int) + 1)] = i64s (ovlK q (k + 1)) := by rw [e2]; unfold i64s; simp
          have e4 : (ovlK q k).length + 1 = (ovlK q (k + 1)).length := by rw [e2]; simp
          have HE := hide (⟨e3, e4⟩ : _ ∧ _)
          clear HST e2 e3 e4
          obtain ⟨L, hL⟩ : ∃ L, L = (ovlK q k).length := ⟨_, rfl⟩
          rw [← hL] at hown3 HE hle
          clear hL
          go_wp2_with (first
            | (at_builtin; refine wpList_append_one rfl (.tmp 24) (.tmp 26) 24 rfl w.heap.size 3 i0 (.int .i64 0) 8 Try.underlying24 hi hz0 hz1 hz2 rfl w w3 _ _ _ rfl hown3 (.int .i64 ((k : Int) + 1)) rfl rfl rfl (by omega) (by simp only [maxLen]; omega) hb3 hb3.size ?_; intro v4 w4 hown4 hb4 hg4; clear hg4))
          rw [(unhide HE).1, (unhide HE).2] at hown4
          clear hown3 hb3 HE
          go_roundw
          case rel => exact ⟨k + 1, .inr (by omega), by go_num, hb4, hown4⟩
          case measure => simp [intOf]; omega
        | false =>
          have e2 : ovlK q (k + 1) = ovlK q k := by rw [unhide HST, if_neg (by decide), List.append_nil]
          have HE := hide e2
          clear HST e2
          go_wp2
          go_roundw
          case rel => exact ⟨k + 1, .inr (by omega), by go_num, hb3, by rw [unhide HE]; exact hown3⟩
          case measure => simp [intOf]; omega
      · have hkn : k = n - 1 := by omega
        have hge : ¬ ((k : Int) + 1 < (n : Int)) := by omega
        have hI : Ints wr w.heap.size u3 (ovlK q k) := Ints.of_own hown
        rw [hkn] at hI
        have HI := hide hI
        clear hown hstep hkn hI
        go_wp2
        go_ret
        exact GivesI.mk (unhide HI) hb
theorem iloose_any (A : Option Addr) (n c B : Nat) (q : List Int) (w : World) (h : Arg w B A n c q) :
    Calls Try.prog 32 #[.slice A n c] w (GivesB w (looseR q)) := by
  have H1 := hide (iovl_any A n c B q w h)
  unfold looseR
  obtain ⟨L, hL⟩ : ∃ L, L = (ovlR q).length := ⟨_, rfl⟩
  have hle := ovlR_le q
  rw [← hL] at hle ⊢
  clear h
  by_cases h1 : L = 1
  · have he : ((L : Int) == 1) = true := by simp; omega
    rw [decide_eq_true h1]
    have HL := hide hL
    clear hL h1
    go_enter Try.func32, Try.ntmps32
    go_wp2_with fail
    refine (unhide H1).mono ?_
    rintro e w1 ⟨A1, c1, rfl, o1, d1⟩
    rw [← unhide HL]
    clear H1 o1
    go_wp2
    go_ret
    exact ⟨rfl, d1⟩
  · have he : ((L : Int) == 1) = false := by simp; omega
    rw [decide_eq_false h1]
    have HL := hide hL
    clear hL h1
    go_enter Try.func32, Try.ntmps32
    go_wp2_with fail
    refine (unhide H1).mono ?_
    rintro e w1 ⟨A1, c1, rfl, o1, d1⟩
    rw [← unhide HL]
    clear H1 o1
    go_wp2
    go_ret
    exact ⟨rfl, d1⟩
set_option maxHeartbeats 800000 in
theorem sovl_any (A : Option Addr) (n c B : Nat) (q : List Int) (w : World) (h : Arg w B A n c q) :
    Calls Try.prog 25 #[.slice A n c] w (GivesI w (ovlR q)) := by
  obtain ⟨i0, hi, hz0, hz1, hz2⟩ := info_parts intInfo
  have hl := h.len
  have hcap := h.cap
  obtain ⟨b, hb⟩ : ∃ b, isP q = b := ⟨_, rfl⟩
  have HS := hide (show ∀ w', Below w.heap.size w w' → _ from fun w' d => sisperm_any A n c B q b hb w' (h.below d).reads h.le h.cap)
  have hst := own0 w w.heap.size (Nat.le_refl _)
  have hbel := (Below.refl w.heap.size w).alloc (Nat.le_refl _) (.cells #[] 3)
  have hn9 := h.le
  have HF := hide (show ∀ k, (k = 0 ∧ b = false) ∨ (b = true ∧ k = n - 1) → ovlK q k = ovlR q from fun k hk => by
    rcases hk with ⟨rfl, h1⟩ | ⟨h1, rfl⟩
    · rw [ovlR_no (hb.trans h1)]; rfl
    · rw [ovlR_yes (hb.trans h1), hl])
  have HA := hide h
  have HL := hide hl
  have H8 := hide (show b = true → n ≤ 8 from fun e => by have := isP_le (hb.trans e); omega)
  have HQ := hide hb
  clear hb h hl
  go_enter Try.func25, Try.ntmps25
  go_wp2
  go_loopw [3, 4] (fun o i wr => ∃ k : Nat, (k = 0 ∨ (k ≤ n - 1 ∧ b = true)) ∧ i = .int .i64 ((k : Int) + 1) ∧ Below w.heap.size w wr ∧ wr.ownsRow w.heap.size 3 1 o (ovlK q k).length (i64s (ovlK q k))) (fun _ i _ => n - (intOf i).toNat)
  case atStart => exact ⟨0, .inl rfl, rfl, hbel, hst⟩
  case round =>
    obtain ⟨k, hk, rfl, hb, hown⟩ := hrel
    clear hst hbel
    by_cases hlt : k + 1 < n
    · have H1 := hide (unhide HS wr hb)
      cases b with
      | false =>
        obtain rfl : k = 0 := by rcases hk with h | h; exact h; exact absurd h.2 (by decide)
        have hlt' : (((0 : Nat) : Int) + 1) < (n : Int) := by omega
        have HF0 := hide (unhide HF 0 (.inl ⟨rfl, rfl⟩))
        clear HS HF
        go_wp2_with fail
        refine (unhide H1).mono ?_
        rintro e w2 ⟨rfl, d2⟩
        have hown2 := own_below hown (d2.below _)
        have hb2 := hb.trans (d2.below _)
        have hI : Ints w2 w.heap.size u3 (ovlK q 0) := Ints.of_own hown2
        rw [unhide HF0] at hI
        have HI := hide hI
        clear hI hown hown2 d2 H1 hb
        go_wp2
        go_ret
        exact GivesI.mk (unhide HI) hb2
      | true =>
        have hn8 := unhide H8 rfl
        have hlt' : ((k : Int) + 1) < (n : Int) := by omega
        have hstep := ovlK_step q k
        have hle := ovlK_le q k
        have HO := hide hown
        have HB := hide hb
        clear HS HF hown hb
        go_wp2_with fail
        refine (unhide H1).mono ?_
        rintro e w2 ⟨rfl, d2⟩
        have hown := own_below (unhide HO) (d2.below _)
        have hb := (unhide HB).trans (d2.below _)
        clear H1 HO HB d2
        have hA := (unhide HA).below hb
        obtain ⟨ad, rfl⟩ : ∃ ad, A = some ad := by
          obtain ⟨ad, u, e, _⟩ := hA.reads.at_ (show k < n by omega)
          exact ⟨ad, e⟩
        have hfront := hA.front (k := k + 1) (by omega)
        have hback := hA.back (f := n - (k + 1)) (by omega)
        obtain ⟨bb, hbb⟩ : ∃ b, ovl q (k + 1) = b := ⟨_, rfl⟩
        obtain ⟨f, hf⟩ : ∃ f, f = n - (k + 1) := ⟨_, rfl⟩
        rw [← hf] at hback
        have hfi : (f : Int) = (n : Int) - ((k : Int) + 1) := by omega
        have hff : n - f = k + 1 := by omega
        rw [hff] at hback
        have HBB := hide (show decide (patL (q.take (k + 1)) = patL (q.drop f)) = bb by rw [← hbb, hf, ← (unhide HL)]; rfl)
        have hx1 : (patL (q.take (k + 1))).length ≤ 1048576 := by rw [patL_length, List.length_take]; omega
        have hx2 : (patL (q.drop f)).length ≤ 1048576 := by rw [patL_length, List.length_drop]; have := unhide HL; omega
        have HM1 := hide (patL_small8 (l := q.take (k + 1)) (by rw [patL_length] at hx1; exact hx1))
        have HM2 := hide (patL_small8 (l := q.drop f) (by rw [patL_length] at hx2; exact hx2))
        have H4 := hide (fun (w' : World) (d : Below w2.heap.size w2 w') => l2pat_any (some ad) (k + 1) c B _ w' (hfront.below d) (by omega))
        have H5 := hide (fun (w' : World) (d : Below w2.heap.size w2 w') => l2pat_any (some (ad.add f)) (k + 1) (c - f) B _ w' (hback.below d) (by omega))
        obtain ⟨X, hX⟩ : ∃ X, X = patL (q.take (k + 1)) := ⟨_, rfl⟩
        obtain ⟨Y, hY⟩ : ∃ Y, Y = patL (q.drop f) := ⟨_, rfl⟩
        rw [← hX] at H4 HBB hx1 HM1
        rw [← hY] at H5 HBB hx2 HM2
        have hb0 : Below w2.heap.size w2 w2.drew := (Below.refl _ _).drew
        have hwf : IntKind.i64.wrap ((n : Int) - ((k : Int) + 1)) = (f : Int) := by rw [IntKind.wrap_i64]; omega
        have hf0 : (0 : Int) ≤ (f : Int) := by omega
        have hf1 : (f : Int) ≤ (n : Int) := by omega
        have hk0 : (0 : Int) ≤ (k : Int) + 1 := by omega
        have hk1 : (k : Int) + 1 ≤ (c : Int) := by omega
        have hne : ¬ c = f := by omega
        have hfr : n - f = k + 1 := hff
        rw [hbb] at hstep
        have HO := hide hown
        have HB := hide hb
        have HST := hide hstep
        clear hfront hback hA hf hff hfi hown hb hbb hstep hX hY
        go_wp2_with fail
        go_region_held3 (fun _ => True) (trivial)
          (first
            | (have g0 := hb0; clear hb0; go_simp; go_at_call 67; refine (unhide H4 _ g0).mono ?_; rintro e w3 ⟨A3, c3, rfl, o3, d3⟩; have hb1 := below_after g0 d3)
            | (have g1 := hb1; clear hb1; go_simp; go_at_call 67; refine (unhide H5 _ g1).mono ?_; rintro e w4 ⟨A4, c4, rfl, o4, d4⟩; have hb5 := below_after g1 d4; have a3 := (o3.arg hx1 o3.cap (unhide HM1)).below d4; have a4 := o4.arg hx2 o4.cap (unhide HM2))
            | (go_simp; go_at_call 66; refine (l2same_any _ _ _ _ _ _ _ _ _ _ bb (unhide HBB) _ a3 a4).mono ?_; rintro e w5 ⟨rfl, d5⟩))
        have hbd := below_after hb5 (d5.below _)
        have hb3 := below_after (unhide HB) hbd
        have hown3 := own_below (unhide HO) hbd
        clear H4 H5 HO HB d3 d4 d5 hbd g0 g1 o3 o4 a3 a4 hb5
        cases bb with
        | true =>
          have e2 : ovlK q (k + 1) = ovlK q k ++ [(k : Int) + 1] := by rw [unhide HST, if_pos rfl]
          have e3 : i64s (ovlK q k) ++ [.int .i64 ((k : Int) + 1)] = i64s (ovlK q (k + 1)) := by rw [e2]; unfold i64s; simp
          have e4 : (ovlK q k).length + 1 = (ovlK q (k + 1)).length := by rw [e2]; simp
          have HE := hide (⟨e3, e4⟩ : _ ∧ _)
          clear HST e2 e3 e4
          obtain ⟨L, hL⟩ : ∃ L, L = (ovlK q k).length := ⟨_, rfl⟩
          rw [← hL] at hown3 HE hle
          clear hL
          go_wp2_with (first
            | (at_builtin; refine wpList_append_one rfl (.tmp 28) (.tmp 30) 24 rfl w.heap.size 3 i0 (.int .i64 0) 8 Try.underlying24 hi hz0 hz1 hz2 rfl w w5 _ _ _ rfl hown3 (.int .i64 ((k : Int) + 1)) rfl rfl rfl (by omega) (by simp only [maxLen]; omega) hb3 hb3.size ?_; intro v4 w6 hown4 hb4 hg4; clear hg4))
          rw [(unhide HE).1, (unhide HE).2] at hown4
          clear hown3 hb3 HE
          go_roundw
          case rel => exact ⟨k + 1, .inr ⟨by omega, trivial⟩, by go_num, hb4, hown4⟩
          case measure => simp [intOf]; omega
        | false =>
          have e2 : ovlK q (k + 1) = ovlK q k := by rw [unhide HST, if_neg (by decide), List.append_nil]
          have HE := hide e2
          clear HST e2
          go_wp2
          go_roundw
          case rel => exact ⟨k + 1, .inr ⟨by omega, trivial⟩, by go_num, hb3, by rw [unhide HE]; exact hown3⟩
          case measure => simp [intOf]; omega
    · have hge : ¬ ((k : Int) + 1 < (n : Int)) := by omega
      have hI : Ints wr w.heap.size u3 (ovlK q k) := Ints.of_own hown
      rw [unhide HF k (by cases b with | true => exact .inr ⟨rfl, by omega⟩ | false => exact .inl ⟨by rcases hk with h | h; exact h; exact absurd h.2 (by decide), rfl⟩)] at hI
      have HI := hide hI
      clear hown hI HF HS
      go_wp2
      go_ret
      exact GivesI.mk (unhide HI) hb
theorem sloose_any (A : Option Addr) (n c B : Nat) (q : List Int) (w : World) (h : Arg w B A n c q) :
    Calls Try.prog 39 #[.slice A n c] w (GivesB w (looseR q)) := by
  have H1 := hide (sovl_any A n c B q w h)
  unfold looseR
  obtain ⟨L, hL⟩ : ∃ L, L = (ovlR q).length := ⟨_, rfl⟩
  have hle := ovlR_le q
  rw [← hL] at hle ⊢
  clear h
  by_cases h1 : L = 1
  · have he : ((L : Int) == 1) = true := by simp; omega
    rw [decide_eq_true h1]
    have HL := hide hL
    clear hL h1
    go_enter Try.func39, Try.ntmps39
    go_wp2_with fail
    refine (unhide H1).mono ?_
    rintro e w1 ⟨A1, c1, rfl, o1, d1⟩
    rw [← unhide HL]
    clear H1 o1
    go_wp2
    go_ret
    exact ⟨rfl, d1⟩
  · have he : ((L : Int) == 1) = false := by simp; omega
    rw [decide_eq_false h1]
    have HL := hide hL
    clear hL h1
    go_enter Try.func39, Try.ntmps39
    go_wp2_with fail
    refine (unhide H1).mono ?_
    rintro e w1 ⟨A1, c1, rfl, o1, d1⟩
    rw [← unhide HL]
    clear H1 o1
    go_wp2
    go_ret
    exact ⟨rfl, d1⟩
end Go.Proofs.Ytnnpefgbneldiaa


/-
  THE LAST STEP OF A LAW: the walk's answer 'true' and 'nothing below the call's own blocks has turned' give the row's post. One lemma for all laws.
-/

namespace Go.Proofs.Ytnnpefgbneldiaa
set_option maxRecDepth 100000
open Go.ChangeShapes Go.WideShapes Go.ChangeAt Go.RowKit

theorem trodAll_below {H : Type} {enc : TypeId × Value → H} {P : Program} (hl : laidOutB P = true) {W W' : World} (hb : Below W.heap.size W W') :
    ∀ (ts : List TypeId) (vs : List Value) (ds : List (DataW H)) (ps : List MemPlace), (∀ t ∈ ts, P.readableRec t = true ∧ t < P.types.size) → (∀ x ∈ ps, x.block < W.heap.size) →
      DataW.TrodAll enc P W 0 (fun _ => true) true ts vs ds ps → DataW.TrodAll enc P W' 0 (fun b => decide (b < W.heap.size)) true ts vs ds ps
  | [], vs, ds, ps, _, _, h => by
    obtain ⟨rfl, rfl, rfl⟩ := trodAll_nil h
    exact trodAll_mk0
  | t :: ts, vs, ds, ps, ht, hp, h => by
    obtain ⟨v, vs1, d, ds1, a, b, rfl, rfl, rfl, h1, h2⟩ := trodAll_cons h
    exact ⟨a, b, Below.trod hl (ht t (by simp)).1 (ht t (by simp)).2 h1 hb (fun x hx => hp x (by simp [hx])),
      trodAll_below hl hb ts vs1 ds1 b (fun t' h' => ht t' (by simp [h'])) (fun x hx => hp x (by simp [hx])) h2, rfl⟩

theorem law_end {H : Type} {enc : TypeId × Value → H} {P : Program} {f : Func} {s : ChangeSpec} {W W' : World} {args : Array Value} {ds gs : List (DataW H)} {before : List MemPlace} {tb : TypeId}
    (hl : laidOutB P = true) (hts : ∀ t ∈ f.params.toList, P.readableRec t = true ∧ t < P.types.size) (hb4 : P.underlying tb = some .bool) (hrt : f.resultTypes = #[tb]) (hv : s.vars = [])
    (hW : DataW.Whole enc P f.params.toList s.vars false W args.toList ds gs before)
    (hfn : s.fn H (ds ++ gs) = { results := [.lit (.bool true)], args := ds }) (hbel : Below W.heap.size W W') :
    s.post enc P f false true false false W args (.bool true) W' := by
  have hlt : ∀ x ∈ before, x.block < W.heap.size := fun x hx => by simpa using hW.lt x hx
  have hW' := hW
  obtain ⟨p, q, hA, hV, rfl, _, _⟩ := hW
  rw [hv] at hV
  obtain ⟨rfl, rfl⟩ := trodVars_none hV
  have hargs := trodAll_below hl hbel _ _ _ _ hts (fun x hx => hlt x (by simp [hx])) hA
  refine ⟨ds, [], _, [] ++ [], p, [], hW', ?_, ?_, ?_, hbel.frame _, fun h => by cases h⟩
  · rw [hfn, hrt]; exact trodAll_mk1 (shut_bool hb4 _)
  · rw [hfn]; exact hargs
  · rw [hfn, hv]; rfl

theorem lt_of_row {W : World} {a : Addr} {m j : Nat} (hlt : ∀ x ∈ MemPlace.row a m, x.block < W.heap.size) (hj : j < m) : a.block < W.heap.size :=
  hlt (.cell a.block (a.off + j)) (MemPlace.mem_row.2 ⟨j, hj, rfl⟩)

/-- An argument []string, as 'Reads'. -/
theorem open_strs_reads {H : Type} {enc : TypeId × Value → H} {P : Program} {w : World} {r : Reach} {b0 t e : TypeId} {v : Value} {d : DataW H} {ps : List MemPlace} (ht : P.underlying t = some (.slice e)) (he : P.underlying e = some .string) (hc : P.cellsOf e = 1)
    (hval : Value.okWide P w r b0 t v) (h : DataW.Trod enc P w 0 (fun _ => true) true t v d ps) (hlt : ∀ x ∈ ps, x.block < w.heap.size) :
    ∃ (A : Option Addr) (n c : Nat) (ss : List ByteArray), v = .slice A n c ∧ Reads w w.heap.size A n (ss.map Value.string) ∧ n ≤ maxLen ∧ ∀ s ∈ ss, s.size ≤ maxLen := by
  obtain ⟨a0, len, cap, rfl⟩ := okWide_slice ht hval
  obtain ⟨fuel, hf⟩ := h
  rcases open_strings ht he hc hf with ⟨hcs, hx⟩ | ⟨a, len', cap', ss, hcs, _, hl, hm, hz, hx, hcell, hws⟩
  · simp [Value.cells] at hcs
    obtain ⟨rfl, rfl, rfl⟩ := hcs
    exact ⟨none, 0, 0, [], rfl, Reads.none_, Nat.zero_le _, by simp⟩
  · simp [Value.cells] at hcs
    obtain ⟨rfl, rfl, rfl⟩ := hcs
    simp only [Prod.mk.injEq] at hx
    obtain ⟨rfl, rfl⟩ := hx
    simp only [if_true] at hz
    refine ⟨some a, len, cap, ss.take len, rfl, ⟨by simp; omega, fun hn => ⟨a, rfl, lt_of_row (j := 0) hlt (by omega), fun j u hu => ?_⟩⟩, by omega, fun s hs => hws s (List.mem_of_mem_take hs)⟩
    rw [List.getElem?_map, List.getElem?_take] at hu
    by_cases hj : j < len
    · rw [if_pos hj] at hu
      rw [hcell j (by omega), ← hu, List.getD_eq_getElem?_getD]
      have : ss[j]? = some ss[j] := List.getElem?_eq_getElem (by omega)
      rw [this]; rfl
    · rw [if_neg hj] at hu; cases hu

/-- An argument of integers, as 'Reads'. -/
theorem open_ints_reads {H : Type} {enc : TypeId × Value → H} {P : Program} {w : World} {r : Reach} {b0 t e : TypeId} {ik : IntKind} {v : Value} {d : DataW H} {ps : List MemPlace} (ht : P.underlying t = some (.slice e)) (he : P.underlying e = some (.int ik)) (hc : P.cellsOf e = 1)
    (hval : Value.okWide P w r b0 t v) (h : DataW.Trod enc P w 0 (fun _ => true) true t v d ps) (hlt : ∀ x ∈ ps, x.block < w.heap.size) :
    ∃ (A : Option Addr) (n c : Nat) (zs : List Int), v = .slice A n c ∧ Reads w w.heap.size A n (zs.map (Value.int ik)) ∧ n ≤ maxLen ∧ ∀ z ∈ zs, (Lit.int ik z).wf = true := by
  obtain ⟨a0, len, cap, rfl⟩ := okWide_slice ht hval
  obtain ⟨fuel, hf⟩ := h
  rcases open_ints ht he hc hf with ⟨hcs, hx⟩ | ⟨a, len', cap', zs, hcs, _, hl, hm, hz, hx, hcell, hws⟩
  · simp [Value.cells] at hcs
    obtain ⟨rfl, rfl, rfl⟩ := hcs
    exact ⟨none, 0, 0, [], rfl, Reads.none_, Nat.zero_le _, by simp⟩
  · simp [Value.cells] at hcs
    obtain ⟨rfl, rfl, rfl⟩ := hcs
    simp only [Prod.mk.injEq] at hx
    obtain ⟨rfl, rfl⟩ := hx
    simp only [if_true] at hz
    refine ⟨some a, len, cap, zs.take len, rfl, ⟨by simp; omega, fun hn => ⟨a, rfl, lt_of_row (j := 0) hlt (by omega), fun j u hu => ?_⟩⟩, by omega, fun s hs => hws s (List.mem_of_mem_take hs)⟩
    rw [List.getElem?_map, List.getElem?_take] at hu
    by_cases hj : j < len
    · rw [if_pos hj] at hu
      rw [hcell j (by omega), ← hu, List.getD_eq_getElem?_getD]
      have : zs[j]? = some zs[j] := List.getElem?_eq_getElem (by omega)
      rw [this]; rfl
    · rw [if_neg hj] at hu; cases hu
theorem bytes_of_wf : ∀ (zs : List Int), (∀ z ∈ zs, (Lit.int .u8 z).wf = true) → ∃ bs : List UInt8, zs.map (Value.int .u8) = u8s bs
  | [], _ => ⟨[], rfl⟩
  | z :: r, h => by
    obtain ⟨bs, hb⟩ := bytes_of_wf r (fun y hy => h y (by simp [hy]))
    have hz : 0 ≤ z ∧ z ≤ 255 := by simpa [Lit.wf, IntKind.min, IntKind.max, IntKind.signed, IntKind.bits] using h z (by simp)
    refine ⟨UInt8.ofNat z.toNat :: bs, ?_⟩
    have e : ((UInt8.ofNat z.toNat).toNat : Int) = z := by rw [UInt8.toNat_ofNat']; omega
    simp only [u8s, List.map_cons, e]
    rw [hb]; rfl
theorem open_bytes_reads {H : Type} {enc : TypeId × Value → H} {P : Program} {w : World} {r : Reach} {b0 t e : TypeId} {v : Value} {d : DataW H} {ps : List MemPlace} (ht : P.underlying t = some (.slice e)) (he : P.underlying e = some (.int .u8)) (hc : P.cellsOf e = 1)
    (hval : Value.okWide P w r b0 t v) (h : DataW.Trod enc P w 0 (fun _ => true) true t v d ps) (hlt : ∀ x ∈ ps, x.block < w.heap.size) :
    ∃ (A : Option Addr) (n c : Nat) (bs : List UInt8), v = .slice A n c ∧ Reads w w.heap.size A n (u8s bs) ∧ n ≤ maxLen := by
  obtain ⟨A, n, c, zs, rfl, hr, hn, hw⟩ := open_ints_reads ht he hc hval h hlt
  obtain ⟨bs, hb⟩ := bytes_of_wf zs hw
  exact ⟨A, n, c, bs, rfl, by rw [← hb]; exact hr, hn⟩
theorem cellsByte : Try.prog.cellsOf 5 = 1 := by kernel_rfl

theorem laidOut : laidOutB Try.prog = true := by kernel_rfl
theorem own : ownKnob Try.prog.godebug = none := by kernel_rfl
end Go.Proofs.Ytnnpefgbneldiaa


/-
  spec.PermsOf and impl.PermsOf, by their contracts.
-/

namespace Go.Proofs.Ytnnpefgbneldiaa
set_option maxRecDepth 100000
open Go.RowKit

theorem own_head {w : World} {base n : Nat} {v : Value} {xs : List Value} {e : TypeId} (h : w.ownsRow base e 1 v n xs) (hn : 0 < n) : ∃ g c, v = .slice (some ⟨g, 0, none⟩) n c := by
  rcases h.2 with ⟨_, h0⟩ | ⟨g, cap, cur, rfl, _⟩
  · omega
  · exact ⟨g, cap, rfl⟩

set_option maxHeartbeats 400000 in
theorem behind_any (f : Int) (A : Option Addr) (n c B : Nat) (r : List Int) (w : World) (hr : Reads w B A n (i64s r)) (hB : B ≤ w.heap.size) (hn : n ≤ 8) (hx : ∀ x ∈ r, 1 ≤ x ∧ x ≤ 6) :
    Calls Try.prog 97 #[.int .i64 f, .slice A n c] w (GivesI w (behind f r)) := by
  obtain ⟨i0, hi, hz0, hz1, hz2⟩ := info_parts intInfo
  have HL := hide hr.len
  have HX := hide (fun k z (hz : r[k]? = some z) => hx z (List.mem_of_getElem? hz))
  clear hx
  go_enter Try.func97, Try.ntmps97
  go_wp2_with (first
    | (at_make; refine wpList_make_own _ rfl (.const (.int .i64 0)) (.tmp 10) 24 rfl w.heap.size 3 i0 (.int .i64 0) 1 Try.underlying24 hi hz0 hz1 .i64 .i64 _ (n + 1) rfl rfl (by omega) (by rw [hz2]; omega) (by unfold maxLen; omega) (Nat.le_refl _) ?_; intro w1 hown1 hg1; have hb1 := (Below.refl w.heap.size w).grown hg1 (Nat.le_refl _) (by simp); clear hg1)
    | (at_builtin; refine wpList_append_one rfl (.tmp 12) (.tmp 14) 24 rfl w.heap.size 3 i0 (.int .i64 0) 8 Try.underlying24 hi hz0 hz1 hz2 rfl w w1 _ _ _ rfl hown1 (.int .i64 f) rfl rfl rfl (by omega) (by simp only [maxLen]; omega) hb1 hb1.size ?_; intro v2 w2 hown2 hb2 hg2; clear hg2))
  clear hown1 hb1
  go_loopw [5, 7, 18] (fun v _ i wr => ∃ k : Nat, k ≤ n ∧ i = .int .i64 k ∧ Below w.heap.size w wr ∧ wr.ownsRow w.heap.size 3 1 v (k + 1) (i64s (f :: (r.take k).map (up f)))) (fun _ _ i _ => n - (intOf i).toNat)
  case atStart => exact ⟨0, Nat.zero_le _, rfl, hb2, hown2⟩
  case round =>
    obtain ⟨k, hk, rfl, hb, hown⟩ := hrel
    clear hown2 hb2
    by_cases hlt : k < n
    · obtain ⟨ad, u, rfl, _, hu, hc⟩ := ((hr.more hB).below hb).at_ hlt
      obtain ⟨z, hz, rfl⟩ := i64_at hu
      obtain ⟨hz3, hz4⟩ := unhide HX k z hz
      have hst := behind_step (f := f) hz
      have e : i64s (f :: (r.take k).map (up f)) ++ [.int .i64 (up f z)] = i64s (f :: (r.take (k + 1)).map (up f)) := by rw [hst]; unfold i64s; simp
      clear hst hu hz
      by_cases hfz : f ≤ z
      · rw [up_yes hfz] at e
        have HE := hide e
        clear e
        go_wp2_with (first
          | (at_builtin; refine wpList_append_one rfl (.tmp 27) (.tmp 29) 24 rfl w.heap.size 3 i0 (.int .i64 0) 8 Try.underlying24 hi hz0 hz1 hz2 rfl w wr _ _ _ rfl hown (.int .i64 (z + 1)) rfl rfl rfl (by omega) (by simp only [maxLen]; omega) hb hb.size ?_; intro v3 w3 hown3 hb3 hg3; clear hg3))
        rw [unhide HE] at hown3
        clear hown hb HE
        go_roundw
        case rel => exact ⟨k + 1, by omega, by go_num, hb3, hown3⟩
        case measure => simp [intOf]; omega
      · have hfz' : z < f := by omega
        rw [up_no hfz'] at e
        have HE := hide e
        clear e
        go_wp2_with (first
          | (at_builtin; refine wpList_append_one rfl (.tmp 27) (.tmp 29) 24 rfl w.heap.size 3 i0 (.int .i64 0) 8 Try.underlying24 hi hz0 hz1 hz2 rfl w wr _ _ _ rfl hown (.int .i64 z) rfl rfl rfl (by omega) (by simp only [maxLen]; omega) hb hb.size ?_; intro v3 w3 hown3 hb3 hg3; clear hg3))
        rw [unhide HE] at hown3
        clear hown hb HE
        go_roundw
        case rel => exact ⟨k + 1, by omega, by go_num, hb3, hown3⟩
        case measure => simp [intOf]; omega
    · obtain rfl : n = k := by omega
      have e : r.take n = r := List.take_of_length_le (by rw [unhide HL]; exact Nat.le_refl _)
      rw [e] at hown
      have hI : Ints wr w.heap.size u5 (behind f r) := Ints.of_own hown
      clear hown e
      go_wp2
      go_ret
      exact GivesI.mk hI hb

theorem IntsS.push {w : World} {B : Nat} {v : Value} {vs : List Value} {zss : List (List Int)} {u : Value} {zs : List Int} {n : Nat} (hn : n = zss.length) (hown : w.ownsRow B 24 1 v (n + 1) (vs ++ [u])) (hin : Inner w B (vs ++ [u]) (zss ++ [zs])) : IntsS w B v (zss ++ [zs]) := by
  subst hn
  refine ⟨vs ++ [u], ?_, hin⟩
  rw [List.length_append]
  exact hown

set_option maxHeartbeats 1600000 in
theorem iperms_step (n : Nat) (hn : n + 1 ≤ 6) (IH : ∀ w, Calls Try.prog 68 #[.int .i64 (n : Int)] w (GivesSS w (permL n))) (w : World) :
    Calls Try.prog 68 #[.int .i64 ((n : Int) + 1)] w (GivesSS w (permL (n + 1))) := by
  obtain ⟨i0, hi, hz0, hz1, hz2⟩ := info_parts rowsInfo
  have hL := (permL_small n (by omega)).1
  have HR := hide (fun i r (h : (permL n)[i]? = some r) => permL_rows n (by omega) r (List.mem_of_getElem? h))
  have HI := hide IH
  clear IH
  go_enter Try.func68, Try.ntmps68
  go_wp2_with fail
  refine (unhide HI _).mono ?_
  rintro e w1 ⟨A1, c1, rfl, hR, hb1⟩
  have hrest := hide hR
  have hs1 := hb1.size
  clear HI hR
  obtain ⟨L, hLL⟩ : ∃ L, L = (permL n).length := ⟨_, rfl⟩
  rw [← hLL] at hL hrest ⊢
  have HLL := hide hLL
  clear hLL
  go_wp2
  go_loopw [3, 5, 7, 28] (fun o i _ _ wr => ∃ j : Nat, j ≤ n + 1 ∧ i = .int .i64 ((j : Int) + 1) ∧ Below w1.heap.size w1 wr ∧ IntsS wr w1.heap.size o (permK n j)) (fun _ i _ _ _ => n + 2 - (intOf i).toNat)
  case atStart => exact ⟨0, Nat.zero_le _, rfl, Below.refl _ _, IntsS.nil _ _⟩
  case round =>
    obtain ⟨j, hj, rfl, hb, hall⟩ := hrel
    by_cases hlt : j < n + 1
    · have hlt' : (j : Int) + 1 ≤ (n : Int) + 1 := by omega
      have hall' := hide hall
      clear hall
      obtain ⟨wo, rfl⟩ : ∃ wo : World, wo = wr := ⟨_, rfl⟩
      go_wp2
      go_loopw [3, 7, 28] (fun o _ i wi => ∃ k : Nat, k ≤ L ∧ i = .int .i64 k ∧ Below w1.heap.size w1 wi ∧ IntsS wi w1.heap.size o (permI n j k)) (fun _ _ i _ => L - (intOf i).toNat)
      case atStart => exact ⟨0, Nat.zero_le _, rfl, hb, by rw [permI_zero]; exact unhide hall'⟩
      case round =>
        obtain ⟨k, hk, rfl, hbi, hal⟩ := hrel
        clear hall' hb
        by_cases hkt : k < L
        · obtain ⟨ad, A2, c2, r, rfl, hr, hc, hI⟩ := ((unhide hrest).stay hbi (Nat.le_refl _)).at_ hkt
          have hrow := unhide HR k r hr
          have H1 := hide (behind_any ((j : Int) + 1) A2 r.length c2 wr.heap.size r wr hI.reads (Nat.le_refl _) (by omega) hrow.2)
          obtain ⟨vs, hown, hin⟩ := hal
          have hlen : (permI n j k).length ≤ 5040 := by
            rw [permI_length n j k (by rw [← unhide HLL]; exact hk), ← unhide HLL]
            have := Nat.mul_le_mul (show j ≤ 6 by omega) hL
            omega
          have hstep := hide (permI_step (j := j) hr)
          have hrl : r.length ≤ 6 := by omega
          have Hin := hide hin
          have Hown := hide hown
          have hsi := hbi.size
          clear hr hrow hI hin hown
          go_wp2_with fail
          refine (unhide H1).mono ?_
          rintro e w2 ⟨A3, c3, rfl, own3, b3⟩
          have hown2 := own_below (unhide Hown) b3
          have hb2 := hbi.trans (b3.mono hsi)
          have Own3 := hide own3
          have B3 := hide b3
          clear H1 own3 b3 hbi
          go_wp2_with (first
            | (at_builtin; refine wpList_append_one rfl (.tmp 32) (.tmp 36) 40 rfl w1.heap.size 24 i0 (.slice none 0 0) 24 Try.underlying40 hi hz0 hz1 hz2 rfl w1 w2 _ _ _ rfl hown2 (.slice A3 (behind ((j : Int) + 1) r).length c3) rfl rfl rfl (by omega) (by simp only [maxLen]; omega) hb2 hb2.size ?_; intro v4 w4 hown4 hb4 hg4))
          have hk4 := KeepI.of_grown hown2 hg4
          have hin4 := (((unhide Hin).keepI (KeepI.of_below (unhide B3))).keepI hk4).push (((unhide Own3).low hsi).keepI hk4) ((unhide Hin).away_new (unhide Own3).since (Nat.le_refl _))
          have hnext : IntsS w4 w1.heap.size v4 (permI n j (k + 1)) := by rw [unhide hstep]; exact IntsS.push rfl hown4 hin4
          clear hk4 hin4 hown4 hg4 hown2 hb2
          go_roundw
          case rel => exact ⟨k + 1, by omega, by go_num, hb4, hnext⟩
          case measure => simp [intOf]; omega
        · obtain rfl : L = k := by omega
          rw [unhide HLL, permI_all] at hal
          go_wp2
          go_roundw
          case rel => exact ⟨j + 1, by omega, by go_num, hbi, hal⟩
          case measure => simp [intOf]; omega
    · obtain rfl : j = n + 1 := by omega
      have hlt' : ¬ (((n + 1 : Nat) : Int) + 1 ≤ (n : Int) + 1) := by omega
      have hbe := below_after hb1 hb
      have hfin := hall.low hs1
      rw [permK_all] at hfin
      clear hall hb hb1
      go_wp2
      go_ret
      exact GivesSS.mk hfin hbe

theorem iperms_zero (w : World) : Calls Try.prog 68 #[.int .i64 0] w (GivesSS w (permL 0)) := by
  go_enter Try.func68, Try.ntmps68
  go_wp2
  go_ret
  have hI := (Ints.made0 w w.heap.size (Nat.le_refl _)).below (w' := (w.alloc (.cells #[] 3)).alloc (.cells #[.slice (some ⟨w.heap.size, 0, none⟩) 0 0] 24)) ((Below.refl _ _).alloc (Nat.le_refl _) _)
  have hown : ((w.alloc (.cells #[] 3)).alloc (.cells #[.slice (some ⟨w.heap.size, 0, none⟩) 0 0] 24)).ownsRow w.heap.size 24 1 (.slice (some ⟨w.heap.size + 1, 0, none⟩) 1 1) 1 [.slice (some ⟨w.heap.size, 0, none⟩) 0 0] := by
    refine ⟨rfl, .inr ⟨w.heap.size + 1, 1, #[.slice (some ⟨w.heap.size, 0, none⟩) 0 0], rfl, by omega, ?_, Nat.le_refl _, by unfold maxLen; omega, rfl, rfl⟩⟩
    have := heap_alloc_new (w.alloc (.cells #[] 3)) (.cells #[.slice (some ⟨w.heap.size, 0, none⟩) 0 0] 24)
    rwa [show (w.alloc (.cells #[] 3)).heap.size = w.heap.size + 1 by simp] at this
  have hin : Inner ((w.alloc (.cells #[] 3)).alloc (.cells #[.slice (some ⟨w.heap.size, 0, none⟩) 0 0] 24)) w.heap.size [.slice (some ⟨w.heap.size, 0, none⟩) 0 0] (permL 0) :=
    (Inner.nil _ _).push hI (fun x hx => by simp at hx)
  exact GivesSS.mk ⟨_, hown, hin⟩ (((Below.refl _ _).alloc (Nat.le_refl _) _).alloc (by simp) _)

theorem iperms_in : ∀ (n : Nat), n ≤ 6 → ∀ w, Calls Try.prog 68 #[.int .i64 (n : Int)] w (GivesSS w (permL n))
  | 0, _ => fun w => iperms_zero w
  | n + 1, hn => fun w => by
    have h := iperms_step n hn (iperms_in n (by omega)) w
    rw [show (((n + 1 : Nat) : Int)) = (n : Int) + 1 by omega]
    exact h
theorem iperms_any (m : Int) (hm : -9223372036854775808 ≤ m ∧ m ≤ 9223372036854775807) (w : World) :
    Calls Try.prog 68 #[.int .i64 m] w (GivesSS w (permsR m)) := by
  by_cases h0 : 0 ≤ m
  · by_cases h6 : m ≤ 6
    · obtain ⟨n, rfl⟩ : ∃ n : Nat, m = (n : Int) := ⟨m.toNat, by omega⟩
      rw [permsR_yes (by omega)]
      exact iperms_in n (by omega) w
    · rw [permsR_no (by omega)]
      have h0' : ¬ m < 0 := by omega
      have h6' : 6 < m := by omega
      obtain ⟨hm1, hm2⟩ := hm
      go_enter Try.func68, Try.ntmps68
      go_wp2
      go_ret
      exact GivesSS.mk (v := .slice none 0 0) (IntsS.nil _ _) (Below.refl _ _)
  · rw [permsR_no (by omega)]
    have h0' : m < 0 := by omega
    obtain ⟨hm1, hm2⟩ := hm
    go_enter Try.func68, Try.ntmps68
    go_wp2
    go_ret
    exact GivesSS.mk (v := .slice none 0 0) (IntsS.nil _ _) (Below.refl _ _)

end Go.Proofs.Ytnnpefgbneldiaa


/-
  spec.l2Fill and spec.PermsOf, by their contracts.
-/

namespace Go.Proofs.Ytnnpefgbneldiaa
set_option maxRecDepth 100000
open Go.RowKit

def FillEnds (w : World) (B : Nat) (zss : List (List Int)) (e : Ending) (w' : World) : Prop := ∃ v, e = .returned v ∧ IntsS w' B v zss ∧ Below B w w' ∧ KeepI w w'
/-- What l2Fill is handed: a head, a list of rows, the head away from them. -/
structure Handed (w : World) (B : Nat) (hv : Value) (hd : List Int) (ov : Value) (out : List (List Int)) (vs : List Value) : Prop where
  head : Ints w B hv hd
  own : w.ownsRow B 24 1 ov out.length vs
  inner : Inner w B vs out
  away : ∀ x ∈ vs, Away x hv

set_option maxHeartbeats 800000 in
theorem fill_leaf (n : Nat) (g c : Nat) (hd : List Int) (out : List (List Int)) (ov : Value) (vs : List Value) (B : Nat) (w : World) (hn : hd.length = n) (h : Handed w B (.slice (some ⟨g, 0, none⟩) n c) hd ov out vs) (hB : B ≤ w.heap.size) (hl : out.length ≤ 1000000) :
    Calls Try.prog 72 #[.int .i64 (n : Int), .slice (some ⟨g, 0, none⟩) n c, ov] w (FillEnds w B (out ++ fillL n 0 hd)) := by
  obtain ⟨i0, hi, hz0, hz1, hz2⟩ := info_parts rowsInfo
  have hown := h.own
  have hbel := Below.refl B w
  have HH := hide h
  clear h
  have HN := hide hn
  clear hn
  go_enter Try.func72, Try.ntmps72
  go_wp2_with (first
    | (at_builtin; refine wpList_append_one rfl (.tmp 12) (.tmp 14) 40 rfl B 24 i0 (.slice none 0 0) 24 Try.underlying40 hi hz0 hz1 hz2 rfl w w _ _ _ rfl hown (.slice (some ⟨g, 0, none⟩) n c) rfl rfl rfl (by omega) (by simp only [maxLen]; omega) hbel hB ?_; intro v4 w4 hown4 hb4 hg4))
  have hk4 := KeepI.of_grown hown hg4
  have hin4 := ((unhide HH).inner.keepI hk4).push ((unhide HH).head.keepI hk4) (unhide HH).away
  have hfin : IntsS w4 B v4 (out ++ fillL n 0 hd) := IntsS.push rfl hown4 hin4
  clear hin4 hown4 hg4 hown hbel
  go_ret
  exact ⟨_, rfl, hfin, hb4, hk4⟩

theorem below_ends {w0 w w' : World} {B : Nat} {zss : List (List Int)} {e : Ending} (hb : Below B w0 w) (hk : KeepI w0 w) (h : FillEnds w B zss e w') : FillEnds w0 B zss e w' := by
  obtain ⟨v, he, hI, hb2, hk2⟩ := h
  exact ⟨v, he, hI, hb.trans hb2, hk.trans hk2⟩

set_option maxHeartbeats 1600000 in
theorem fill_step (n d : Nat) (hn6 : n ≤ 6) (B : Nat)
    (IH : ∀ (m : Nat) (g c : Nat) (hd : List Int) (out : List (List Int)) (ov : Value) (vs : List Value) (w : World), hd.length = m → m + d = n → Handed w B (.slice (some ⟨g, 0, none⟩) m c) hd ov out vs → B ≤ w.heap.size → out.length + (fillL n d hd).length ≤ 1000000 →
      Calls Try.prog 72 #[.int .i64 (n : Int), .slice (some ⟨g, 0, none⟩) m c, ov] w (FillEnds w B (out ++ fillL n d hd)))
    (m g c : Nat) (hd : List Int) (out : List (List Int)) (ov : Value) (vs : List Value) (w : World) (hm : hd.length = m) (hmd : m + (d + 1) = n) (h : Handed w B (.slice (some ⟨g, 0, none⟩) m c) hd ov out vs) (hB : B ≤ w.heap.size) (hl : out.length + (fillL n (d + 1) hd).length ≤ 1000000) :
    Calls Try.prog 72 #[.int .i64 (n : Int), .slice (some ⟨g, 0, none⟩) m c, ov] w (FillEnds w B (out ++ fillL n (d + 1) hd)) := by
  obtain ⟨i0, hi, hz0, hz1, hz2⟩ := info_parts intInfo
  have hne : ((m : Int) == (n : Int)) = false := by simp; omega
  have hm6 : m < n := by omega
  have hst : IntsS w B ov (out ++ fillK n d hd 0) := by rw [fillK_zero, List.append_nil]; exact ⟨vs, h.own, h.inner⟩
  have HH := hide h.head
  have HI := hide IH
  have HM := hide hm
  have HMD := hide hmd
  have HLL := hide hl
  clear IH h hm hmd hl
  go_enter Try.func72, Try.ntmps72
  go_wp2
  go_loopw [2, 7] (fun o i wr => ∃ k : Nat, k ≤ n ∧ i = .int .i64 ((k : Int) + 1) ∧ Below B w wr ∧ KeepI w wr ∧ IntsS wr B o (out ++ fillK n d hd k)) (fun _ i _ => n + 1 - (intOf i).toNat)
  case atStart => exact ⟨0, Nat.zero_le _, rfl, Below.refl _ _, KeepI.refl _, hst⟩
  case round =>
    obtain ⟨k, hk, rfl, hb, hkk, hout⟩ := hrel
    clear hst
    by_cases hlt : k < n
    · have hlt' : (k : Int) + 1 ≤ (n : Int) := by omega
      have hI := (unhide HH).keepI hkk
      obtain ⟨b2, hb2⟩ : ∃ b2, decide ((k : Int) + 1 ∈ hd) = b2 := ⟨_, rfl⟩
      have H1 := hide (l2has_any (some ⟨g, 0, none⟩) m c _ hd ((k : Int) + 1) b2 hb2 wr hI.reads (by omega))
      have HB2 := hide hb2
      clear hb2
      cases b2 with
      | true =>
        have hin : (k : Int) + 1 ∈ hd := by simpa using unhide HB2
        rw [← fillK_in (n := n) (d := d) hin] at hout
        clear hin hI
        go_wp2_with fail
        refine (unhide H1).mono ?_
        rintro e w' ⟨rfl, hw'⟩
        rw [hw']
        clear hw' H1
        go_wp2
        go_roundw
        case rel => exact ⟨k + 1, by omega, by go_num, hb, hkk, hout⟩
        case measure => simp [intOf]; omega
      | false =>
        have hno : (k : Int) + 1 ∉ hd := by simpa using unhide HB2
        have hstep := hide (fillK_out (n := n) (d := d) hno)
        obtain ⟨vs2, hown, hin⟩ := hout
        have hg : g < wr.heap.size := (Row.lt hI g rfl).2
        -- the head's cells, behind the new empty row
        have hcl : ∀ j u, (i64s hd)[j]? = some u → (wr.alloc (.cells #[] 3)).cell? ((⟨g, 0, none⟩ : Addr).add j) = some u := fun j u hu => by
          rw [World.cell?_alloc_lt]
          · have hr := hI.reads
            have hj : j < m := by have := (List.getElem?_eq_some_iff.1 hu).1; rw [i64_length, unhide HM] at this; exact this
            obtain ⟨ad, he, _, hc⟩ := hr.2 (by omega)
            injection he with he
            subst he
            exact hc j u hu
          · rw [block_of_add]; exact hg
        have hs1 := Nat.le_trans hB hb.size
        have hown0 := own0 wr wr.heap.size (Nat.le_refl _)
        have hb0 := (Below.refl wr.heap.size wr).alloc (Nat.le_refl _) (.cells #[] 3)
        have hone : ∀ u ∈ i64s hd, u.oneCell' = true := fun u hu => by
          unfold i64s at hu
          obtain ⟨z, _, rfl⟩ := List.mem_map.1 hu
          rfl
        have hln : (i64s hd).length = m * 1 := by rw [i64_length, unhide HM]; omega
        have HCL := hide hcl
        have HONE := hide hone
        have HLN := hide hln
        have Hown := hide hown
        have Hin := hide hin
        clear hcl hone hln hno hI hown hin
        go_wp2_with fail
        refine (unhide H1).mono ?_
        rintro e w' ⟨rfl, hw'⟩
        rw [hw']
        clear hw' H1
        go_wp2_with (at_builtin; refine wpList_append_own _ rfl (.tmp 26) (.tmp 27) 24 rfl wr.heap.size 3 i0 (.int .i64 0) 1 8 Try.underlying24 hi hz0 hz1 hz2 rfl (by decide) _ _ _ rfl hown0 ⟨g, 0, none⟩ m c (i64s hd) rfl ?_ ?_ ?_ ?_ ?_ ?_ ?_)
        · exact unhide HLN
        · exact unhide HCL
        · exact unhide HONE
        · unfold maxLen; omega
        · omega
        · simp
        intro v1 w1 hown1 hg1 _
        have hb1 : Below wr.heap.size wr w1 := hb0.grown hg1 (by simp) (fun q hq => by simp [Value.ownBlock] at hq; omega)
        clear hg1
        go_wp2_with (at_builtin; refine wpList_append_one rfl (.tmp 28) (.tmp 30) 24 rfl wr.heap.size 3 i0 (.int .i64 0) 8 Try.underlying24 hi hz0 hz1 hz2 rfl wr w1 _ _ _ rfl hown1 (.int .i64 ((k : Int) + 1)) rfl rfl rfl (by omega) (by simp only [maxLen]; omega) hb1 hb1.size ?_; intro v3 w3 hown3 hb3 hg3; clear hg3; obtain ⟨g3, c3, rfl⟩ := own_head hown3 (by omega))
        have hI3 : Ints w3 wr.heap.size (.slice (some ⟨g3, 0, none⟩) (m + 1) c3) (hd ++ [(k : Int) + 1]) := Ints.of_own (n := m + 1) (by have h := hown3; rwa [show i64s hd ++ [Value.int .i64 ((k : Int) + 1)] = i64s (hd ++ [(k : Int) + 1]) by unfold i64s; simp] at h)
        have hk3 := KeepI.of_below hb3
        have hH : Handed w3 B (.slice (some ⟨g3, 0, none⟩) (m + 1) c3) (hd ++ [(k : Int) + 1]) _ (out ++ fillK n d hd k) vs2 := ⟨hI3.low hs1, own_below (unhide Hown) hb3, (unhide Hin).keepI hk3, (unhide Hin).away_new hI3.since (Nat.le_refl _)⟩
        have hb4 := hb.trans (hb3.mono hs1)
        have hk4 := hkk.trans hk3
        have hlen : (out ++ fillK n d hd k).length + (fillL n d (hd ++ [(k : Int) + 1])).length ≤ 1000000 := by
          have h1 := unhide HLL
          have h2 := fillK_mono n d hd (k + 1) (n - (k + 1))
          rw [show k + 1 + (n - (k + 1)) = n by omega, fillK_all, unhide hstep, List.length_append] at h2
          rw [List.length_append]
          omega
        have H5 := hide (unhide HI (m + 1) g3 c3 (hd ++ [(k : Int) + 1]) _ _ vs2 w3 (by rw [List.length_append, unhide HM]; rfl) (by have := unhide HMD; omega) hH (Nat.le_trans hB hb4.size) hlen)
        rw [List.append_assoc, ← unhide hstep] at H5
        clear hown0 hb0 hown1 hb1 hown3 hb3 hI3 hk3 hH hlen hb hkk
        go_wp2_with fail
        refine (unhide H5).mono ?_
        rintro e w5 ⟨v5, rfl, hI5, hb5, hk5⟩
        have hb6 := hb4.trans hb5
        have hk6 := hk4.trans hk5
        clear H5 hb4 hk4 hb5 hk5
        go_wp2
        go_roundw
        case rel => exact ⟨k + 1, by omega, by go_num, hb6, hk6, hI5⟩
        case measure => simp [intOf]; omega
    · obtain rfl : n = k := by omega
      have hlt' : ¬ ((n : Int) + 1 ≤ (n : Int)) := by omega
      rw [fillK_all] at hout
      go_wp2
      go_ret
      exact ⟨_, rfl, hout, hb, hkk⟩

theorem fill_any (n : Nat) (hn6 : n ≤ 6) (B : Nat) : ∀ (d m g c : Nat) (hd : List Int) (out : List (List Int)) (ov : Value) (vs : List Value) (w : World), hd.length = m → m + d = n → Handed w B (.slice (some ⟨g, 0, none⟩) m c) hd ov out vs → B ≤ w.heap.size → out.length + (fillL n d hd).length ≤ 1000000 →
    Calls Try.prog 72 #[.int .i64 (n : Int), .slice (some ⟨g, 0, none⟩) m c, ov] w (FillEnds w B (out ++ fillL n d hd))
  | 0, m, g, c, hd, out, ov, vs, w, hm, hmd, h, hB, hl => by
    obtain rfl : m = n := by omega
    exact fill_leaf m g c hd out ov vs B w hm h hB (by omega)
  | d + 1, m, g, c, hd, out, ov, vs, w, hm, hmd, h, hB, hl => fill_step n d hn6 B (fill_any n hn6 B d) m g c hd out ov vs w hm hmd h hB hl

set_option maxHeartbeats 800000 in
theorem sperms_any (m : Int) (hm : -9223372036854775808 ≤ m ∧ m ≤ 9223372036854775807) (w : World) :
    Calls Try.prog 34 #[.int .i64 m] w (GivesSS w (permsR m)) := by
  by_cases hin : 0 ≤ m ∧ m ≤ 6
  · obtain ⟨n, rfl⟩ : ∃ n : Nat, m = (n : Int) := ⟨m.toNat, by omega⟩
    have hn : n ≤ 6 := by omega
    rw [permsR_yes hn]
    have H1 := hide (l1in_any (n : Int) 0 6 true (by simp; omega) w)
    -- the two empty rows
    have hI0 := Ints.made0 w w.heap.size (Nat.le_refl _)
    have hb1 := (Below.refl w.heap.size w).alloc (Nat.le_refl _) (.cells #[] 3)
    have hsz : (w.alloc (.cells #[] 3)).heap.size = w.heap.size + 1 := by simp
    have hown := ownS0 (w.alloc (.cells #[] 3)) w.heap.size (by simp)
    rw [hsz] at hown
    have hbA := (Below.refl (w.alloc (.cells #[] 3)).heap.size (w.alloc (.cells #[] 3))).alloc (Nat.le_refl _) (.cells #[] 24)
    have hI1 := hI0.below hbA
    have hb2 := hb1.alloc (by simp) (.cells #[] 24)
    have hH : Handed ((w.alloc (.cells #[] 3)).alloc (.cells #[] 24)) w.heap.size (.slice (some ⟨w.heap.size, 0, none⟩) 0 0) [] (.slice (some ⟨w.heap.size + 1, 0, none⟩) 0 0) [] [] := ⟨hI1, hown, Inner.nil _ _, fun x hx => by simp at hx⟩
    have hlen : ([] : List (List Int)).length + (fillL n n []).length ≤ 1000000 := by
      rw [two_ways n hn]
      have := (permL_small n hn).1
      simp only [List.length_nil]
      omega
    have H2 := hide (fill_any n hn w.heap.size n 0 w.heap.size 0 [] [] _ [] _ rfl (by omega) hH (by simp; omega) hlen)
    rw [List.nil_append, two_ways n hn] at H2
    clear hI0 hb1 hsz hown hbA hI1 hH hlen hin hm
    go_enter Try.func34, Try.ntmps34
    go_wp2_with fail
    refine (unhide H1).mono ?_
    rintro e w' ⟨rfl, hw'⟩
    rw [hw']
    clear hw' H1
    go_wp2_with fail
    refine (unhide H2).mono ?_
    rintro e w5 ⟨v5, rfl, hI5, hb5, _⟩
    have hb6 := hb2.trans hb5
    clear H2 hb5 hb2
    go_wp2
    go_ret
    exact GivesSS.mk hI5 hb6
  · rw [permsR_no hin]
    have H1 := hide (l1in_any m 0 6 false (by simp; omega) w)
    have hI := IntsS.made0 w w.heap.size (Nat.le_refl _)
    have hb := (Below.refl w.heap.size w).alloc (Nat.le_refl _) (.cells #[] 24)
    obtain ⟨hm1, hm2⟩ := hm
    clear hin
    go_enter Try.func34, Try.ntmps34
    go_wp2_with fail
    refine (unhide H1).mono ?_
    rintro e w' ⟨rfl, hw'⟩
    rw [hw']
    clear hw' H1
    go_wp2
    go_ret
    exact GivesSS.mk hI hb
end Go.Proofs.Ytnnpefgbneldiaa


/-
  impl.AvoidRuns and spec.AvoidRuns, by their contracts.
-/

namespace Go.Proofs.Ytnnpefgbneldiaa
set_option maxRecDepth 100000
open Go.RowKit

theorem numRun_yes {p q : List Int} (hp : isP p = true) (hq : isP q = true) (h0 : q.length ≠ 0) : numRun p q = ((runN p q : Nat) : Int) := by unfold numRun; rw [hp, hq, decide_eq_true h0]; rfl
set_option maxHeartbeats 800000 in
theorem iav_any (m : Int) (hm : -9223372036854775808 ≤ m ∧ m ≤ 9223372036854775807) (A : Option Addr) (n c B : Nat) (q : List Int) (w : World) (h : Arg w B A n c q) :
    Calls Try.prog 22 #[.int .i64 m, .slice A n c] w (GivesN w (avR m q)) := by
  obtain ⟨hm1, hm2⟩ := hm
  have hl := h.len
  have hb0 := Below.refl w.heap.size w
  obtain ⟨bq, hq⟩ : ∃ b, isP q = b := ⟨_, rfl⟩
  have HS := hide (show ∀ w', Below w.heap.size w w' → _ from fun w' d => iisperm_any A n c B q bq hq w' (h.below d).reads (h.below d).under h.le h.small)
  by_cases h1 : m < 0
  · rw [avR_no (by omega)]
    clear h hl hq HS
    go_enter Try.func22, Try.ntmps22
    go_wp2
    go_ret
    exact ⟨rfl, hb0⟩
  by_cases h2 : 6 < m
  · rw [avR_no (by omega)]
    clear h hl hq HS
    go_enter Try.func22, Try.ntmps22
    go_wp2
    go_ret
    exact ⟨rfl, hb0⟩
  have hin : 0 ≤ m ∧ m ≤ 6 := by omega
  cases bq with
  | false =>
    rw [avR_no (by rw [hq]; simp)]
    clear h hl hq hin
    go_enter Try.func22, Try.ntmps22
    go_wp2_with fail
    refine (unhide HS w hb0).mono ?_
    rintro e w2 ⟨rfl, hb2⟩
    clear HS hb0
    go_wp2
    go_ret
    exact ⟨rfl, hb2⟩
  | true =>
    by_cases h0 : n = 0
    · subst h0
      rw [avR_no (by rw [hl]; simp)]
      clear h hl hq hin
      go_enter Try.func22, Try.ntmps22
      go_wp2_with fail
      refine (unhide HS w hb0).mono ?_
      rintro e w2 ⟨rfl, hb2⟩
      clear HS hb0
      go_wp2
      go_ret
      exact ⟨rfl, hb2⟩
    · obtain ⟨m, rfl⟩ : ∃ k : Nat, m = k := ⟨m.toNat, by omega⟩
      have hm6 : m ≤ 6 := by omega
      rw [avR_yes hm6 hq (by omega)]
      have h0' : ((n : Int) == 0) = false := by simp; omega
      have HP := hide (fun w' => by have h5 := iperms_any ((m : Nat) : Int) (by omega) w'; rw [permsR_yes hm6] at h5; exact h5)
      have hLs := (permL_small m hm6).1
      have HPP := hide (show ∀ (k : Nat) (z : List Int), (permL m)[k]? = some z → isP z = true ∧ z.length ≤ 8 from fun k z hz => by have h5 := permL_isP6 m hm6 z (List.mem_of_getElem? hz); exact ⟨h5, isP_le h5⟩)
      have HA := hide h
      have HR := hide (show ∀ z, isP z = true → numRun z q = ((runN z q : Nat) : Int) from fun z hz => numRun_yes hz hq (by omega))
      clear h hl hq hin
      go_enter Try.func22, Try.ntmps22
      go_wp2_with fail
      refine (unhide HS w hb0).mono ?_
      rintro e w2 ⟨rfl, hb2⟩
      clear HS hb0
      have H3 := hide (unhide HP w2)
      clear HP
      go_wp2_with fail
      refine (unhide H3).mono ?_
      rintro e w3 ⟨A3, c3, rfl, o3, d3⟩
      have hb3 := below_after hb2 d3
      have HO := hide o3
      obtain ⟨Z, hZ⟩ : ∃ Z, Z = permL m := ⟨_, rfl⟩
      obtain ⟨N, hN⟩ : ∃ N, N = Z.length := ⟨_, rfl⟩
      rw [← hZ] at hLs HPP HO ⊢
      rw [← hN] at hLs HO ⊢
      have HZN := hide (⟨hZ, hN⟩ : Z = permL m ∧ N = Z.length)
      clear H3 hb2 d3 o3 hN hZ
      go_wp2
      go_loopw [5, 7, 27] (fun s _ i wr => ∃ k : Nat, k ≤ N ∧ i = .int .i64 k ∧ s = .int .i64 (avK q Z k : Nat) ∧ Below w3.heap.size w3 wr) (fun _ _ i _ => N - (intOf i).toNat)
      case atStart => exact ⟨0, Nat.zero_le _, rfl, rfl, Below.refl _ _⟩
      case round =>
        obtain ⟨k, hk, rfl, rfl, hd⟩ := hrel
        have hle := avK_le q Z k
        by_cases hlt : k < N
        · obtain ⟨ad, A6, c6, z, rfl, hz, hcell, hI⟩ := ((unhide HO).below hd).at_ hlt
          obtain ⟨hz1, hz2⟩ := unhide HPP k z hz
          have hbw := below_after hb3 hd
          have H4 := hide (irun_any A6 A z.length c6 _ n c B z q wr (hI.argP hz1) ((unhide HA).below hbw))
          have hst := avK_step (q := q) hz
          rw [unhide HR z hz1] at H4
          obtain ⟨r, hr⟩ : ∃ r, r = runN z q := ⟨_, rfl⟩
          rw [← hr] at H4 hst
          have HD := hide hd
          clear hz hI hz1 hr hbw hd
          by_cases hr0 : r = 0
          · rw [if_pos hr0] at hst
            subst hr0
            have HST := hide hst
            clear hst
            go_wp2_with fail
            refine (unhide H4).mono ?_
            rintro e w4 ⟨rfl, d4⟩
            have hd4 := below_after (unhide HD) d4
            clear H4 HD d4
            go_wp2
            go_roundw
            case rel => exact ⟨k + 1, by omega, by go_num, by rw [unhide HST]; go_num, hd4⟩
            case measure => simp [intOf]; omega
          · rw [if_neg hr0] at hst
            have hrb : ((r : Int) == 0) = false := by simp; omega
            have HST := hide hst
            clear hst hr0
            go_wp2_with fail
            refine (unhide H4).mono ?_
            rintro e w4 ⟨rfl, d4⟩
            have hd4 := below_after (unhide HD) d4
            clear H4 HD d4
            go_wp2
            go_roundw
            case rel => exact ⟨k + 1, by omega, by go_num, by rw [unhide HST]; rfl, hd4⟩
            case measure => simp [intOf]; omega
        · have hkN : N = k := by omega
          have hbe := below_after hb3 hd
          have HK := hide hkN
          clear hkN hd
          go_wp2
          go_ret
          exact ⟨ret_int (by rw [← (unhide HZN).1, ← (unhide HZN).2, unhide HK]), hbe⟩
set_option maxHeartbeats 800000 in
theorem sav_any (m : Int) (hm : -9223372036854775808 ≤ m ∧ m ≤ 9223372036854775807) (A : Option Addr) (n c B : Nat) (q : List Int) (w : World) (h : Arg w B A n c q) :
    Calls Try.prog 23 #[.int .i64 m, .slice A n c] w (GivesN w (avR m q)) := by
  obtain ⟨hm1, hm2⟩ := hm
  have hl := h.len
  have hb0 := Below.refl w.heap.size w
  obtain ⟨bq, hq⟩ : ∃ b, isP q = b := ⟨_, rfl⟩
  have HS := hide (show ∀ w', Below w.heap.size w w' → _ from fun w' d => sisperm_any A n c B q bq hq w' (h.below d).reads h.le h.cap)
  by_cases hin : 0 ≤ m ∧ m ≤ 6
  rotate_left
  · have H1 := hide (l1in_any m 0 6 false (decide_eq_false hin) w)
    rw [avR_no (fun e => hin e.1)]
    clear h hl hq HS hin
    go_enter Try.func23, Try.ntmps23
    go_wp2_with fail
    refine (unhide H1).mono ?_
    rintro e w1 ⟨rfl, rfl⟩
    clear H1
    go_wp2
    go_ret
    exact ⟨rfl, hb0⟩
  have H1 := hide (l1in_any m 0 6 true (decide_eq_true hin) w)
  cases bq with
  | false =>
    rw [avR_no (by rw [hq]; simp)]
    clear h hl hq hin
    go_enter Try.func23, Try.ntmps23
    go_wp2_with fail
    refine (unhide H1).mono ?_
    rintro e w1 ⟨rfl, rfl⟩
    clear H1
    go_wp2_with fail
    refine (unhide HS w1 hb0).mono ?_
    rintro e w2 ⟨rfl, d2⟩
    have hb2 := d2.below w1.heap.size
    clear HS hb0 d2
    go_wp2
    go_ret
    exact ⟨rfl, hb2⟩
  | true =>
    by_cases h0 : n = 0
    · subst h0
      rw [avR_no (by rw [hl]; simp)]
      clear h hl hq hin
      go_enter Try.func23, Try.ntmps23
      go_wp2_with fail
      refine (unhide H1).mono ?_
      rintro e w1 ⟨rfl, rfl⟩
      clear H1
      go_wp2_with fail
      refine (unhide HS w1 hb0).mono ?_
      rintro e w2 ⟨rfl, d2⟩
      have hb2 := d2.below w1.heap.size
      clear HS hb0 d2
      go_wp2
      go_ret
      exact ⟨rfl, hb2⟩
    · obtain ⟨m, rfl⟩ : ∃ k : Nat, m = k := ⟨m.toNat, by omega⟩
      have hm6 : m ≤ 6 := by omega
      rw [avR_yes hm6 hq (by omega)]
      have h0' : ((n : Int) == 0) = false := by simp; omega
      have HP := hide (fun w' => by have h5 := sperms_any ((m : Nat) : Int) (by omega) w'; rw [permsR_yes hm6] at h5; exact h5)
      have hLs := (permL_small m hm6).1
      have HPP := hide (show ∀ (k : Nat) (z : List Int), (permL m)[k]? = some z → isP z = true ∧ z.length ≤ 8 from fun k z hz => by have h5 := permL_isP6 m hm6 z (List.mem_of_getElem? hz); exact ⟨h5, isP_le h5⟩)
      have HA := hide h
      have HR := hide (show ∀ z, isP z = true → numRun z q = ((runN z q : Nat) : Int) from fun z hz => numRun_yes hz hq (by omega))
      clear h hl hq hin
      go_enter Try.func23, Try.ntmps23
      go_wp2_with fail
      refine (unhide H1).mono ?_
      rintro e w1 ⟨rfl, rfl⟩
      clear H1
      go_wp2_with fail
      refine (unhide HS w1 hb0).mono ?_
      rintro e w2 ⟨rfl, d2⟩
      have hb2 := d2.below w1.heap.size
      clear HS hb0 d2
      have H3 := hide (unhide HP w2)
      clear HP
      go_wp2_with fail
      refine (unhide H3).mono ?_
      rintro e w3 ⟨A3, c3, rfl, o3, d3⟩
      have hb3 := below_after hb2 d3
      have HO := hide o3
      obtain ⟨Z, hZ⟩ : ∃ Z, Z = permL m := ⟨_, rfl⟩
      obtain ⟨N, hN⟩ : ∃ N, N = Z.length := ⟨_, rfl⟩
      rw [← hZ] at hLs HPP HO ⊢
      rw [← hN] at hLs HO ⊢
      have HZN := hide (⟨hZ, hN⟩ : Z = permL m ∧ N = Z.length)
      clear H3 hb2 d3 o3 hN hZ
      go_wp2
      go_loopw [5, 7] (fun s i wr => ∃ k : Nat, k ≤ N ∧ i = .int .i64 k ∧ s = .int .i64 (avK q Z k : Nat) ∧ Below w3.heap.size w3 wr) (fun _ i _ => N - (intOf i).toNat)
      case atStart => exact ⟨0, Nat.zero_le _, rfl, rfl, Below.refl _ _⟩
      case round =>
        obtain ⟨k, hk, rfl, rfl, hd⟩ := hrel
        have hle := avK_le q Z k
        by_cases hlt : k < N
        · obtain ⟨ad, A6, c6, z, rfl, hz, hcell, hI⟩ := ((unhide HO).below hd).at_ hlt
          obtain ⟨hz1, hz2⟩ := unhide HPP k z hz
          have hbw := below_after hb3 hd
          have H4 := hide (srun_any A6 A z.length c6 _ n c B z q wr (hI.argP hz1) ((unhide HA).below hbw))
          have hst := avK_step (q := q) hz
          rw [unhide HR z hz1] at H4
          obtain ⟨r, hr⟩ : ∃ r, r = runN z q := ⟨_, rfl⟩
          rw [← hr] at H4 hst
          have HD := hide hd
          clear hz hI hz1 hr hbw hd
          by_cases hr0 : r = 0
          · rw [if_pos hr0] at hst
            subst hr0
            have HST := hide hst
            clear hst
            go_wp2_with fail
            refine (unhide H4).mono ?_
            rintro e w4 ⟨rfl, d4⟩
            have hd4 := below_after (unhide HD) d4
            clear H4 HD d4
            go_wp2_with fail
            refine (bit_true _).mono ?_
            rintro e w5 ⟨rfl, rfl⟩
            go_wp2
            go_roundw
            case rel => exact ⟨k + 1, by omega, by go_num, by rw [unhide HST]; go_num, hd4⟩
            case measure => simp [intOf]; omega
          · rw [if_neg hr0] at hst
            have hrb : ((r : Int) == 0) = false := by simp; omega
            have HST := hide hst
            clear hst hr0
            go_wp2_with fail
            refine (unhide H4).mono ?_
            rintro e w4 ⟨rfl, d4⟩
            have hd4 := below_after (unhide HD) d4
            clear H4 HD d4
            go_wp2_with fail
            refine (bit_false _).mono ?_
            rintro e w5 ⟨rfl, rfl⟩
            go_wp2
            go_roundw
            case rel => exact ⟨k + 1, by omega, by go_num, by rw [unhide HST]; rfl, hd4⟩
            case measure => simp [intOf]; omega
        · have hkN : N = k := by omega
          have hbe := below_after hb3 hd
          have HK := hide hkN
          clear hkN hd
          go_wp2
          go_ret
          exact ⟨ret_int (by rw [← (unhide HZN).1, ← (unhide HZN).2, unhide HK]), hbe⟩
end Go.Proofs.Ytnnpefgbneldiaa


/-
  impl.IsAlternating and spec.IsAlternating, by their contracts.
-/

namespace Go.Proofs.Ytnnpefgbneldiaa
set_option maxRecDepth 100000
open Go.RowKit

set_option maxHeartbeats 800000 in
theorem ialt_any (A : Option Addr) (n c B : Nat) (p : List Int) (w : World) (h : Arg w B A n c p) :
    Calls Try.prog 26 #[.slice A n c] w (GivesB w (altR p)) := by
  have hl := h.len
  have hr := h.reads
  have hB := h.under
  have hn9 := h.le
  obtain ⟨b, hb⟩ : ∃ b, isP p = b := ⟨_, rfl⟩
  have H1 := hide (iisperm_any A n c B p b hb w h.reads h.under h.le h.small)
  cases b with
  | false =>
    rw [show altR p = false by unfold altR; rw [hb]; rfl]
    clear hb h hl hr hB hn9
    go_enter Try.func26, Try.ntmps26
    go_wp2_with fail
    refine (unhide H1).mono ?_
    rintro e w1 ⟨rfl, hb⟩
    clear H1
    go_wp2
    go_ret
    exact ⟨rfl, hb⟩
  | true =>
    rw [show altR p = altK p (n - 1) by unfold altR; rw [hb, hl]; rfl]
    clear hb h hl
    go_enter Try.func26, Try.ntmps26
    go_wp2_with fail
    refine (unhide H1).mono ?_
    rintro e w1 ⟨rfl, hb1⟩
    clear H1
    go_wp2
    go_loopw [3, 4] (fun i _ wr => ∃ k : Nat, (k = 0 ∨ k ≤ n - 1) ∧ i = .int .i64 ((k : Int) + 1) ∧ Below w.heap.size w wr ∧ Hid (altK p k = true)) (fun i _ _ => n - (intOf i).toNat)
    case atStart => exact ⟨0, .inl rfl, rfl, hb1, by exact (rfl : altK p 0 = true)⟩
    case round =>
      clear hb1
      obtain ⟨k, hk, rfl, hb, hs⟩ := hrel
      by_cases hlt : k + 1 < n
      · obtain ⟨ad, u, rfl, _, hu, hc⟩ := ((hr.more hB).below hb).at_ hlt
        obtain ⟨ad', u', he', _, hu', hc'⟩ := ((hr.more hB).below hb).at_ (show k < n by omega)
        obtain rfl : ad = ad' := Option.some.inj he'
        clear he'
        obtain ⟨x, hx, rfl⟩ := i64_at hu
        obtain ⟨y, hy, rfl⟩ := i64_at hu'
        have hat : altAt p (k + 1) = (decide (x < y) == decide ((k + 1) % 2 = 1)) := by unfold altAt; rw [at0_of hx, Nat.add_sub_cancel, at0_of hy]
        have HB := hide hb
        have HS := hide (unhide hs)
        have q1 : IntKind.i64.wrap ((k : Int) + 1 - 1) = (k : Int) := by rw [IntKind.wrap_i64]; omega
        have q2 : IntKind.i64.wrap (k : Int) = (k : Int) := by rw [IntKind.wrap_i64]; omega
        have hbd0 : (0 : Int) ≤ (k : Int) + 1 := by omega
        have hbd1 : (k : Int) + 1 < (n : Int) := by omega
        have hbd2 : (k : Int) < (n : Int) := by omega
        have hadd : ad.add (k + 1) = ⟨ad.block, ad.off + (k + 1), none⟩ := by unfold Addr.add; rw [if_neg (by omega)]
        rw [hadd] at hc
        clear hadd hu hu' hx hy hr hb hs
        by_cases hxy : x < y
        · have hd : decide (x < y) = true := decide_eq_true hxy
          by_cases hp : (k + 1) % 2 = 1
          · skip
            have hm : ((k : Int) + 1).tmod 2 = 1 := by rw [IntWalk.rem_in _ _ (by omega)]; omega
            have HST := hide (show altAt p (k + 1) = true by rw [hat, hd, decide_eq_true hp]; rfl)
            clear hat hd hp
            go_wp2
            go_quiet (fail)
            go_wp2
            go_roundw
            case rel => exact ⟨k + 1, .inr (by omega), by go_num, (unhide HB).trans ((Drew.refl wr |>.more nq).below _), hide (by rw [altK_step, unhide HS, unhide HST]; rfl)⟩
            case measure => simp [intOf]; omega
          · skip
            have hm : ((k : Int) + 1).tmod 2 = 0 := by rw [IntWalk.rem_in _ _ (by omega)]; omega
            have HST := hide (show altAt p (k + 1) = false by rw [hat, hd, decide_eq_false hp]; rfl)
            clear hat hd hp
            go_wp2
            go_quiet (fail)
            go_wp2
            go_ret
            rw [altK_no (m := n - 1) (unhide HST) (by omega)]
            exact ⟨rfl, (unhide HB).trans ((Drew.refl wr |>.more nq).below _)⟩
        · have hd : decide (x < y) = false := decide_eq_false hxy
          have hcc : (!decide (x < y)) = true := by rw [hd]; rfl
          by_cases hp : (k + 1) % 2 = 1
          · skip
            have hm : ((k : Int) + 1).tmod 2 = 1 := by rw [IntWalk.rem_in _ _ (by omega)]; omega
            have HST := hide (show altAt p (k + 1) = false by rw [hat, hd, decide_eq_true hp]; rfl)
            clear hat hd hp
            go_wp2
            go_quiet (fail)
            go_wp2
            go_ret
            rw [altK_no (m := n - 1) (unhide HST) (by omega)]
            exact ⟨rfl, (unhide HB).trans ((Drew.refl wr |>.more nq).below _)⟩
          · skip
            have hm : ((k : Int) + 1).tmod 2 = 0 := by rw [IntWalk.rem_in _ _ (by omega)]; omega
            have HST := hide (show altAt p (k + 1) = true by rw [hat, hd, decide_eq_false hp]; rfl)
            clear hat hd hp
            go_wp2
            go_quiet (fail)
            go_wp2
            go_roundw
            case rel => exact ⟨k + 1, .inr (by omega), by go_num, (unhide HB).trans ((Drew.refl wr |>.more nq).below _), hide (by rw [altK_step, unhide HS, unhide HST]; rfl)⟩
            case measure => simp [intOf]; omega
      · have hkn : k = n - 1 := by omega
        have hge : ¬ ((k : Int) + 1 < (n : Int)) := by omega
        subst hkn
        have HS := hide (unhide hs)
        clear hs hr
        go_wp2
        go_ret
        rw [unhide HS]
        exact ⟨rfl, hb⟩
set_option maxHeartbeats 800000 in
theorem salt_any (A : Option Addr) (n c B : Nat) (p : List Int) (w : World) (h : Arg w B A n c p) :
    Calls Try.prog 27 #[.slice A n c] w (GivesB w (altR p)) := by
  have hl := h.len
  have hr := h.reads
  have hB := h.under
  have hn9 := h.le
  obtain ⟨b, hb⟩ : ∃ b, isP p = b := ⟨_, rfl⟩
  have HW := hide (fun w' (hd : Below w.heap.size w w') => sisperm_any A n c B p b hb w' (h.reads.below (hd.mono h.under)) h.le h.cap)
  have HR := hide (show altR p = (b && altK p (n - 1)) by unfold altR; rw [hb, hl])
  have hb1 := Below.refl w.heap.size w
  clear h hl hb
  go_enter Try.func27, Try.ntmps27
  go_wp2
  go_loopw [3] (fun i wr => ∃ k : Nat, (k = 0 ∨ k ≤ n - 1) ∧ i = .int .i64 ((k : Int) + 1) ∧ Below w.heap.size w wr ∧ Hid (altK p k = true)) (fun i _ => n - (intOf i).toNat)
  case atStart => exact ⟨0, .inl rfl, rfl, hb1, by exact (rfl : altK p 0 = true)⟩
  case round =>
    clear hb1
    obtain ⟨k, hk, rfl, hb, hs⟩ := hrel
    by_cases hlt : k + 1 < n
    · obtain ⟨ad, u, rfl, _, hu, hc⟩ := ((hr.more hB).below hb).at_ hlt
      obtain ⟨ad', u', he', _, hu', hc'⟩ := ((hr.more hB).below hb).at_ (show k < n by omega)
      obtain rfl : ad = ad' := Option.some.inj he'
      clear he'
      obtain ⟨x, hx, rfl⟩ := i64_at hu
      obtain ⟨y, hy, rfl⟩ := i64_at hu'
      have hat : altAt p (k + 1) = (decide (x < y) == decide ((k + 1) % 2 = 1)) := by unfold altAt; rw [at0_of hx, Nat.add_sub_cancel, at0_of hy]
      have HB := hide hb
      have HS := hide (unhide hs)
      have q1 : IntKind.i64.wrap ((k : Int) + 1 - 1) = (k : Int) := by rw [IntKind.wrap_i64]; omega
      have q2 : IntKind.i64.wrap (k : Int) = (k : Int) := by rw [IntKind.wrap_i64]; omega
      have hbd0 : (0 : Int) ≤ (k : Int) + 1 := by omega
      have hbd1 : (k : Int) + 1 < (n : Int) := by omega
      have hbd2 : (k : Int) < (n : Int) := by omega
      have hadd : ad.add (k + 1) = ⟨ad.block, ad.off + (k + 1), none⟩ := by unfold Addr.add; rw [if_neg (by omega)]
      rw [hadd] at hc
      clear hadd hu hu' hx hy hr hb hs
      by_cases hxy : x < y
      · have hd : decide (x < y) = true := decide_eq_true hxy
        by_cases hp : (k + 1) % 2 = 1
        · skip
          have hm : ((k : Int) + 1).tmod 2 = 1 := by rw [IntWalk.rem_in _ _ (by omega)]; omega
          have HST := hide (show altAt p (k + 1) = true by rw [hat, hd, decide_eq_true hp]; rfl)
          clear hat hd hp
          go_wp2
          go_quiet (fail)
          go_wp2
          go_roundw
          case rel => exact ⟨k + 1, .inr (by omega), by go_num, (unhide HB).trans ((Drew.refl wr |>.more nq).below _), hide (by rw [altK_step, unhide HS, unhide HST]; rfl)⟩
          case measure => simp [intOf]; omega
        · skip
          have hm : ((k : Int) + 1).tmod 2 = 0 := by rw [IntWalk.rem_in _ _ (by omega)]; omega
          have HST := hide (show altAt p (k + 1) = false by rw [hat, hd, decide_eq_false hp]; rfl)
          clear hat hd hp
          go_wp2
          go_quiet (fail)
          go_wp2
          go_ret
          rw [unhide HR, altK_no (m := n - 1) (unhide HST) (by omega), Bool.and_false]
          exact ⟨rfl, (unhide HB).trans ((Drew.refl wr |>.more nq).below _)⟩
      · have hd : decide (x < y) = false := decide_eq_false hxy
        have hcc : (!decide (x < y)) = true := by rw [hd]; rfl
        by_cases hp : (k + 1) % 2 = 1
        · skip
          have hm : ((k : Int) + 1).tmod 2 = 1 := by rw [IntWalk.rem_in _ _ (by omega)]; omega
          have HST := hide (show altAt p (k + 1) = false by rw [hat, hd, decide_eq_true hp]; rfl)
          clear hat hd hp
          go_wp2
          go_quiet (fail)
          go_wp2
          go_ret
          rw [unhide HR, altK_no (m := n - 1) (unhide HST) (by omega), Bool.and_false]
          exact ⟨rfl, (unhide HB).trans ((Drew.refl wr |>.more nq).below _)⟩
        · skip
          have hm : ((k : Int) + 1).tmod 2 = 0 := by rw [IntWalk.rem_in _ _ (by omega)]; omega
          have HST := hide (show altAt p (k + 1) = true by rw [hat, hd, decide_eq_false hp]; rfl)
          clear hat hd hp
          go_wp2
          go_quiet (fail)
          go_wp2
          go_roundw
          case rel => exact ⟨k + 1, .inr (by omega), by go_num, (unhide HB).trans ((Drew.refl wr |>.more nq).below _), hide (by rw [altK_step, unhide HS, unhide HST]; rfl)⟩
          case measure => simp [intOf]; omega
    · have hkn : k = n - 1 := by omega
      have hge : ¬ ((k : Int) + 1 < (n : Int)) := by omega
      subst hkn
      have H5 := hide (unhide HW wr hb)
      have HE := hide (show altR p = b by rw [unhide HR, unhide hs, Bool.and_true])
      clear HW HR hs hr
      go_wp2_with fail
      refine (unhide H5).mono ?_
      rintro e w5 ⟨rfl, d5⟩
      have hb5 := hb.trans (d5.below _)
      clear H5 d5 hb
      go_wp2
      go_ret
      rw [unhide HE]
      exact ⟨rfl, hb5⟩
end Go.Proofs.Ytnnpefgbneldiaa
