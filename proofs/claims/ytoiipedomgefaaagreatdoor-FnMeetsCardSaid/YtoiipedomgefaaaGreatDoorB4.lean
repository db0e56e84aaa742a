/-
  Words and contracts that the laws lean on, bundled: Filled, Push, LowS, Rev, OccS, PatsS, ChM, ClassP, OccF.
-/
import Derived.Test.YtoiipedomgefaaaGreatDoorB3
import Derived.Maps.AppendAt
import Derived.Test.YtoiipedomgefaaaGreatDoorB2
import Derived.Deep.RegionHeld3
import Derived.Test.YtoiipedomgefaaaGreatDoorB1
import Derived.Lib.SliceRun
import Derived.Laws.BitsLemmas

/-
  WORDS FOR A LIST OF ROWS THAT IS FILLED PLACE BY PLACE. Nothing here speaks of a function of the program.
-/

namespace Go.Proofs.YtoiipedomgefaaaGreatDoor
set_option maxRecDepth 100000
open Go.RowKit

/-! a list of rows that is filled place by place -/
def fillS (zss : List (List Int)) (k : Nat) : List (List Int) := zss.take k ++ List.replicate (zss.length - k) []
theorem fillS_zero (zss : List (List Int)) : fillS zss 0 = List.replicate zss.length [] := by simp [fillS]
theorem fillS_length (zss : List (List Int)) (k : Nat) (h : k ≤ zss.length) : (fillS zss k).length = zss.length := by simp [fillS]; omega
theorem fillS_all (zss : List (List Int)) : fillS zss zss.length = zss := by simp [fillS]
theorem fillS_set {zss : List (List Int)} {k : Nat} {z : List Int} (h : zss[k]? = some z) : (fillS zss k).set k z = fillS zss (k + 1) := by
  have hk : k < zss.length := (List.getElem?_eq_some_iff.1 h).1
  unfold fillS
  rw [List.set_append_right _ _ (by rw [List.length_take]; omega), List.length_take, Nat.min_eq_left (by omega), Nat.sub_self, show zss.length - k = (zss.length - (k + 1)) + 1 by omega, List.replicate_succ, List.set_cons_zero, List.take_add_one, h]
  simp
theorem Inner.zero (w : World) (B n : Nat) : Inner w B (List.replicate n (.slice none 0 0)) (List.replicate n []) := by
  refine ⟨by simp, fun i u zs hu hz => ?_, ?_⟩
  · obtain ⟨_, rfl⟩ := List.mem_replicate.1 (List.mem_of_getElem? hu)
    obtain ⟨_, rfl⟩ := List.mem_replicate.1 (List.mem_of_getElem? hz)
    exact Ints.nil w B
  · refine List.pairwise_of_forall_mem_list fun a ha b _ => ?_
    obtain ⟨_, rfl⟩ := List.mem_replicate.1 ha
    exact .inl rfl
theorem Inner.set {w : World} {B : Nat} {vs : List Value} {zss : List (List Int)} {u : Value} {z : List Int} (h : Inner w B vs zss) (k : Nat) (hu : Ints w B u z) (ha : ∀ x ∈ vs, Away x u) : Inner w B (vs.set k u) (zss.set k z) := by
  have hl := h.len
  refine ⟨by simp [hl], fun i x ys hx hy => ?_, ?_⟩
  · rw [List.getElem?_set] at hx hy
    by_cases e : k = i
    · subst e
      rw [if_pos rfl] at hx hy
      by_cases hk : k < vs.length
      · rw [if_pos hk] at hx
        rw [if_pos (by omega)] at hy
        cases hx; cases hy
        exact hu
      · rw [if_neg hk] at hx
        cases hx
    · rw [if_neg e] at hx hy
      exact h.row i x ys hx hy
  · rw [List.pairwise_iff_getElem]
    intro i j hi hj hij
    rw [List.length_set] at hi hj
    rw [List.getElem_set, List.getElem_set]
    by_cases e1 : k = i
    · rw [if_pos e1, if_neg (by omega)]
      exact (ha _ (List.getElem_mem hj)).symm
    · rw [if_neg e1]
      by_cases e2 : k = j
      · rw [if_pos e2]
        exact ha _ (List.getElem_mem hi)
      · rw [if_neg e2]
        exact List.pairwise_iff_getElem.1 h.away i j hi hj hij
/-- A row of rows that is filled up to k. -/
structure Filled (w wr : World) (g n : Nat) (zss : List (List Int)) (k : Nat) : Prop where
  below : Below w.heap.size w wr
  rows : ∃ vs, wr.ownsRow w.heap.size 36 1 (.slice (some ⟨g, 0, none⟩) n n) n vs ∧ Inner wr w.heap.size vs (fillS zss k)
theorem made_rows (n : Nat) : (madeCells (Value.slice none 0 0).cells (n * 1)).toList = List.replicate n (.slice none 0 0) := by
  rw [Nat.mul_one]
  exact toList_madeCells_one _ _
/-- One more row, made behind all that stands. -/
theorem Filled.put {w wr w' : World} {g n k : Nat} {zss : List (List Int)} {z : List Int} {u : Value} (h : Filled w wr g n zss k) (hz : zss[k]? = some z) (hb : Below wr.heap.size wr w') (hu : Ints w' wr.heap.size u z) :
    Filled w (w'.setCell ⟨g, k, none⟩ u) g n zss (k + 1) := by
  obtain ⟨h1, vs, h2, h3⟩ := h
  have o := own_below h2 hb
  have i := h3.keepI (KeepI.of_below hb)
  have ha := h3.away_new hu.since (Nat.le_refl _)
  have st := o.stored k u
  have hk := KeepI.of_grown o st.2
  have hg := (h2.lt g rfl).1
  refine ⟨(below_after h1 hb).setCell hg _, _, st.1, ?_⟩
  rw [← fillS_set hz]
  exact (i.keepI hk).set k ((hu.low h1.size).keepI hk) ha
theorem Filled.old {w wr w' : World} {g n k : Nat} {zss : List (List Int)} (h : Filled w wr g n zss k) (hb : Below wr.heap.size wr w') (hk : k < n) : (∃ old, w'.cell? ⟨g, k, none⟩ = some old) ∧ w'.frozen? ⟨g, k, none⟩ = false := by
  obtain ⟨_, vs, h2, _⟩ := h
  have o := own_below h2 hb
  have hl : vs.length = n := by simpa using o.1
  exact ⟨⟨_, by rw [o.cellAt k (by omega)]; exact List.getElem?_eq_getElem (by omega)⟩, o.frozenAt k⟩
theorem Filled.start {w w0 w1 : World} {g n : Nat} {zss : List (List Int)} (hl : zss.length = n) (hb : Below w.heap.size w w0) (hown : w1.ownsRow w.heap.size 36 1 (.slice (some ⟨g, 0, none⟩) n n) n (madeCells (Value.slice none 0 0).cells (n * 1)).toList) (hg : w0.grownBy w1 none) : Filled w w1 g n zss 0 := by
  refine ⟨hb.grown hg hb.size (by simp), _, hown, ?_⟩
  rw [made_rows, fillS_zero, hl]
  exact Inner.zero _ _ _

end Go.Proofs.YtoiipedomgefaaaGreatDoor


/-
  WORDS: 'list = append(list, row)', row a list that was just made; a cut of an argument. Nothing here speaks of a function of the program.
-/

namespace Go.Proofs.YtoiipedomgefaaaGreatDoor
set_option maxRecDepth 100000
open Go.RowKit

theorem wpList_push_row {ops : Array Oper} {rest : List Oper} {o : Oper} {a : Act} {W : World} {Q : Exit → Act → World → Prop} (hgd : o.guard = none) (sl x : Operand)
    (ho : o.op = .call { callee := .builtin .append, args := #[sl, x], argTypes := #[24, 24] })
    (base : Nat) (W0 w0 wr : World) (v u : Value) (zss : List (List Int)) (zs : List Int) (hs : a.eval sl = v) (hx : a.eval x = .slice (some ⟨wr.heap.size, 0, none⟩) 1 1) (hW : W = wr.alloc (.cells #[u] 36))
    (hS : IntsS w0 base v zss) (hb0 : Below w0.heap.size w0 wr) (hu : Ints wr w0.heap.size u zs) (hn : zss.length ≤ 1048576) (hb : Below base W0 wr) (hbase : base ≤ w0.heap.size)
    (K : ∀ v' w', IntsS w' base v' (zss ++ [zs]) → Below base W0 w' → wpList Tryz.prog ops Q rest (a.put o.dst v') w') : wpList Tryz.prog ops Q (o :: rest) a W := by
  obtain ⟨i0, hi, hz0, hz1, hz2⟩ := info_parts rowsInfo
  obtain ⟨vs, hown, hin⟩ := hS
  have hown1 := own_below hown hb0
  obtain ⟨A1, c1, rfl⟩ := hu.slice
  refine wpList_append_one hgd sl x 24 ho base 36 i0 (.slice none 0 0) 24 Tryz.underlying24 hi hz0 hz1 hz2 rfl W0 wr v _ _ hs hown1 _ hx hW rfl (by omega) (by unfold maxLen; omega) hb (Nat.le_trans hbase hb0.size) fun v' w' h1 h2 h3 => K v' w' ?_ h2
  have hk := KeepI.of_grown hown1 h3
  refine ⟨vs ++ [.slice A1 zs.length c1], by rw [List.length_append]; exact h1, ?_⟩
  exact ((hin.keepI (KeepI.of_below hb0)).keepI hk).push ((hu.low hbase).keepI hk) (hin.away_new hu.since (Nat.le_refl _))
/-- The same, with what it leaves of other lists of rows. -/
theorem wpList_push_row_at {ops : Array Oper} {rest : List Oper} {o : Oper} {a : Act} {W : World} {Q : Exit → Act → World → Prop} (hgd : o.guard = none) (sl x : Operand)
    (ho : o.op = .call { callee := .builtin .append, args := #[sl, x], argTypes := #[24, 24] })
    (base : Nat) (W0 w0 wr : World) (v u : Value) (zss : List (List Int)) (zs : List Int) (hs : a.eval sl = v) (hx : a.eval x = .slice (some ⟨wr.heap.size, 0, none⟩) 1 1) (hW : W = wr.alloc (.cells #[u] 36))
    (hS : IntsS w0 base v zss) (hb0 : Below w0.heap.size w0 wr) (hu : Ints wr w0.heap.size u zs) (hn : zss.length ≤ 1048576) (hb : Below base W0 wr) (hbase : base ≤ w0.heap.size)
    (K : ∀ v' w', IntsS w' base v' (zss ++ [zs]) → Below base W0 w' → (∀ B' l yss, IntsS w0 B' l yss → Away l v → IntsS w' B' l yss ∧ Away l v') → wpList Tryz.prog ops Q rest (a.put o.dst v') w') : wpList Tryz.prog ops Q (o :: rest) a W := by
  obtain ⟨i0, hi, hz0, hz1, hz2⟩ := info_parts rowsInfo
  obtain ⟨vs, hown, hin⟩ := hS
  have hown1 := own_below hown hb0
  have hal := (Below.refl wr.heap.size wr).alloc (Nat.le_refl _) (.cells #[u] 36)
  have hown2 := own_below hown1 hal
  obtain ⟨A1, c1, rfl⟩ := hu.slice
  subst hW
  refine wpList_append_own_at _ hgd sl x 24 ho base 36 i0 (.slice none 0 0) 1 24 Tryz.underlying24 hi hz0 hz1 hz2 rfl (by decide) v _ _ hs hown2 ⟨wr.heap.size, 0, none⟩ 1 1 [.slice A1 zs.length c1] hx rfl ?_ ?_ (by unfold maxLen; omega) (by omega) (by simp; have := hb0.size; omega) ?_
  · intro j u hj
    match j, hj with
    | 0, hj => simp at hj; subst hj; simp [Addr.add]
  · intro y hy
    obtain rfl := List.mem_singleton.1 hy
    rfl
  · intro v' w' h1 h2 _ h4
    have hk := (KeepI.of_below hal).trans (KeepI.of_grown hown2 h2)
    refine K v' w' ⟨vs ++ [.slice A1 zs.length c1], by rw [List.length_append]; exact h1, ?_⟩ ?_ ?_
    · exact ((hin.keepI (KeepI.of_below hb0)).keepI hk).push ((hu.low hbase).keepI hk) (hin.away_new hu.since (Nat.le_refl _))
    · exact (hb.trans (hal.mono (Nat.le_trans hbase hb0.size))).grown h2 (by simp; have := hb0.size; omega) (fun k hk => (hown.lt k hk).1)
    · rintro B' l yss ⟨ys, ho, hi'⟩ ha
      have ho1 := own_below ho hb0
      refine ⟨⟨ys, (own_below ho1 hal).kept h2 ha, (hi'.keepI (KeepI.of_below hb0)).keepI hk⟩, ?_⟩
      rcases h4 with h4 | h4
      · rcases ha with ha | ha
        · exact .inl ha
        · exact .inr (by rw [h4]; exact ha)
      · cases hl : l.ownBlock with
        | none => exact .inl hl
        | some g =>
          refine .inr ?_
          rw [hl, h4]
          intro e
          have h5 := (ho1.lt g hl).2
          simp at e
          omega
/-- A row of rows whose row k is made anew. -/
theorem IntsS.put {w w' : World} {B g n cap k : Nat} {zss : List (List Int)} {z : List Int} {u : Value} (h : IntsS w B (.slice (some ⟨g, 0, none⟩) n cap) zss) (hb : Below w.heap.size w w') (hu : Ints w' w.heap.size u z) (hB : B ≤ w.heap.size) :
    IntsS (w'.setCell ⟨g, k, none⟩ u) B (.slice (some ⟨g, 0, none⟩) n cap) (zss.set k z) := by
  have hl := h.len
  subst hl
  obtain ⟨vs, h2, h3⟩ := h
  have o := own_below h2 hb
  have i := h3.keepI (KeepI.of_below hb)
  have ha := h3.away_new hu.since (Nat.le_refl _)
  have st := o.stored k u
  have hk := KeepI.of_grown o st.2
  refine ⟨vs.set k u, by rw [List.length_set]; exact st.1, ?_⟩
  exact (i.keepI hk).set k ((hu.low hB).keepI hk) ha
theorem IntsS.old {w : World} {B g n cap k : Nat} {zss : List (List Int)} (h : IntsS w B (.slice (some ⟨g, 0, none⟩) n cap) zss) (hk : k < n) : (∃ old, w.cell? ⟨g, k, none⟩ = some old) ∧ w.frozen? ⟨g, k, none⟩ = false ∧ B ≤ g := by
  have hl := h.len
  subst hl
  obtain ⟨vs, h2, _⟩ := h
  have hv : vs.length = zss.length := by simpa using h2.1
  exact ⟨⟨_, by rw [h2.cellAt k (by omega)]; exact List.getElem?_eq_getElem (by omega)⟩, h2.frozenAt k, (h2.lt g rfl).1⟩
theorem IntsS.shape {w : World} {B n c : Nat} {A : Option Addr} {zss : List (List Int)} (h : IntsS w B (.slice A n c) zss) (h0 : 0 < n) : ∃ g, A = some ⟨g, 0, none⟩ := by
  obtain ⟨vs, h1, _⟩ := h
  rcases h1.2 with ⟨hv, hz⟩ | ⟨g, cap, cur, hv, _⟩
  · injection hv with _ h3; omega
  · injection hv with h3
    exact ⟨g, h3⟩
theorem cut_at {zs : List Int} {f m j : Nat} (hj : j < m) : ((zs.drop f).take m)[j]? = zs[f + j]? := by rw [List.getElem?_take_of_lt hj, List.getElem?_drop]
/-- 'p[f : f + m]' as an argument. -/
theorem Arg.cut {w : World} {B n c f m : Nat} {ad : Addr} {zs : List Int} (h : Arg w B (some ad) n c zs) (hm : f + m ≤ n) : Arg w B (some (ad.add f)) m (c - f) ((zs.drop f).take m) := by
  have hl := h.len
  have hcap := h.cap
  refine ⟨⟨by rw [i64_length, List.length_take, List.length_drop]; omega, fun h0 => ?_⟩, h.under, by have := h.le; omega, by omega, fun z hz => h.small z (List.mem_of_mem_drop (List.mem_of_mem_take hz)), fun e => by cases e⟩
  obtain ⟨ad', he, hb, hc⟩ := h.reads.2 (by omega)
  injection he with he
  subst he
  refine ⟨_, rfl, by rw [block_of_add]; exact hb, fun j u hu => ?_⟩
  obtain ⟨z, hz, rfl⟩ := i64_at hu
  have hj : j < m := by have := (List.getElem?_eq_some_iff.1 hz).1; rw [List.length_take] at this; omega
  rw [cut_at hj] at hz
  rw [add_of_add]
  exact hc _ _ (i64_get hz)
end Go.Proofs.YtoiipedomgefaaaGreatDoor


/-
  spec.l7Without, spec.WithoutPlace, spec.LowersOf, by their contracts.
-/

namespace Go.Proofs.YtoiipedomgefaaaGreatDoor
set_option maxRecDepth 100000
open Go.RowKit

theorem place_nat' {n : Nat} {x : Int} (h : 1 ≤ x ∧ x ≤ (n : Int)) : ∃ X : Nat, x = ((X + 1 : Nat) : Int) ∧ X < n := ⟨x.toNat - 1, by omega, by omega⟩
/-- A list without the number at index k. -/
def cutAt (p : List Int) (k : Nat) : List Int := p.take k ++ p.drop (k + 1)
theorem cutAt_len {p : List Int} {k : Nat} (h : k < p.length) : (cutAt p k).length + 1 = p.length := by
  unfold cutAt
  rw [List.length_append, List.length_take, List.length_drop]; omega
theorem cutAt_sub (p : List Int) (k : Nat) : (cutAt p k).Sublist p := by
  have h : (p.take k ++ p.drop (k + 1)).Sublist (p.take k ++ p.drop k) := (List.Sublist.refl _).append (by
    rw [← List.drop_drop]; exact List.drop_sublist _ _)
  rwa [List.take_append_drop] at h
theorem cutAt_isP {p : List Int} (hp : isP p = true) (k : Nat) : isP (patL (cutAt p k)) = true := by
  rw [isP_pat]
  have h := isP_true.1 hp
  exact patOK_yes (Nat.le_trans (cutAt_sub p k).length_le (isP_le hp)) (h.2.2.sublist (cutAt_sub p k))

set_option maxHeartbeats 1600000 in
theorem l7without_any (A : Option Addr) (n c B : Nat) (zs : List Int) (k : Nat) (w : World) (h : Arg w B A n c zs) (hn8 : n ≤ 8) (hk : k < n) :
    Calls Tryz.prog 139 #[.slice A n c, .int .i64 k] w (GivesI w (patL (cutAt zs k))) := by
  have hl := h.len
  have hcap := h.cap
  obtain ⟨ad, rfl⟩ : ∃ ad, A = some ad := by
    obtain ⟨ad, u, hA, _⟩ := h.reads.at_ hk
    exact ⟨ad, hA⟩
  have hA1 := h.cut (f := 0) (m := k) (by omega)
  rw [show ad.add 0 = ad by unfold Addr.add; split <;> simp_all, Nat.sub_zero, List.drop_zero] at hA1
  have hbd0 : (0 : Int) ≤ (k : Int) + 1 := by omega
  have hbd1 : (k : Int) + 1 ≤ (n : Int) := by omega
  have hbd2 : (k : Int) ≤ (c : Int) := by omega
  have hbd3 : (k : Int) + 1 ≤ (c : Int) := by omega
  have hw1 : IntKind.i64.wrap ((k : Int) + 1) = (k : Int) + 1 := by rw [IntKind.wrap_i64]; omega
  have hbd4 : (n : Int) ≤ (c : Int) := by omega
  have hbd5 : (0 : Int) ≤ (k : Int) := by omega
  have hsm := h.small
  have hst := own0 w w.heap.size (Nat.le_refl _)
  have hbel := (Below.refl w.heap.size w).alloc (Nat.le_refl _) (.cells #[] 3)
  have hs0 := hbel.size
  have HSM := hide (show Small (cutAt zs k) from fun z hz => hsm z ((cutAt_sub zs k).mem hz))
  have HCL := hide (cutAt_len (p := zs) (show k < zs.length by omega))
  have HL := hide hl
  by_cases hc : c = k + 1
  · obtain rfl := hc
    obtain rfl : n = k + 1 := by omega
    have hb6 : (k : Int) ≤ ((k + 1 : Nat) : Int) := by omega
    have hb7 : (k : Int) ≤ (k : Int) + 1 := by omega
    have hb8 : (k : Int) + 1 ≤ ((k + 1 : Nat) : Int) := by omega
    clear hbd1 hbd2 hbd3 hbd4 hcap
    have hd : zs.drop (k + 1) = [] := List.drop_of_length_le (by omega)
    have hA2 : Arg w B (some ad) 0 0 ([] : List Int) := ⟨⟨rfl, fun h => by omega⟩, h.under, by omega, Nat.le_refl _, fun z hz => by simp at hz, fun h => by cases h⟩
    have HDD := hide hd
    clear hd
    have hA1d := (hA1.below hbel).drew
    clear hA1 hl hsm h
    go_enter Tryz.func139, Tryz.ntmps139
    go_wp2
    go_region_held3 (fun _ => True) (trivial)
      (first
        | ((refine step_append_arg (by rfl) (.tmp 5) (.tmp 8) (by rfl) w.heap.size B 0 k (k + 1) w _ (some ad) [] (zs.take k) (by rfl) (by rfl) hst hA1d (by omega) hbel.drew hs0 ?_); intro v1 w1 hown1 hb1 hg1; rw [Nat.zero_add, List.nil_append] at hown1; clear hg1 hA1d hst hbel hs0; have hA3 := hA2.below hb1; have hs1 := hb1.size; clear hA2)
        | ((refine step_append_arg (by rfl) (.tmp 9) (.tmp 13) (by rfl) w.heap.size B k 0 0 w _ (some ad) (zs.take k) [] (by rfl) (by rfl) hown1 hA3 (by omega) hb1 hs1 ?_); intro v2 w2 hown2 hb2 hg2; clear hg2 hown1 hb1 hs1 hA3; have hI2 : Ints w2 w.heap.size v2 (cutAt zs k) := (by unfold cutAt; rw [unhide HDD]; exact Ints.of_own hown2); obtain ⟨A2, c2, rfl⟩ := hI2.slice; have hcl := unhide HCL; rw [unhide HL] at hcl; have H3 := hide (l2pat_any A2 _ c2 _ (cutAt zs k) w2 (hI2.arg (by omega) hI2.cap (unhide HSM)) (by omega)); clear hown2 hI2 hcl)
        | (go_simp; go_at_call 118; refine (unhide H3).mono ?_; rintro e w3 ⟨A3, c3, rfl, o3, hb3⟩; clear H3))
    have hI := o3.low hb2.size
    have hb4 := hb2.trans (hb3.mono hb2.size)
    clear o3 hb2 hb3
    go_wp2
    go_ret
    exact GivesI.mk hI hb4
  · have hA2 := h.cut (f := k + 1) (m := n - (k + 1)) (by omega)
    rw [List.take_of_length_le (by rw [List.length_drop]; omega)] at hA2
    rw [show ad.add (k + 1) = ⟨ad.block, ad.off + (k + 1), none⟩ by unfold Addr.add; rw [if_neg (by omega)]] at hA2
    have hA1d := (hA1.below hbel).drew
    clear hA1 hl hsm h
    go_enter Tryz.func139, Tryz.ntmps139
    go_wp2
    go_region_held3 (fun _ => True) (trivial)
      (first
        | ((refine step_append_arg (by rfl) (.tmp 5) (.tmp 8) (by rfl) w.heap.size B 0 k c w _ (some ad) [] (zs.take k) (by rfl) (by rfl) hst hA1d (by omega) hbel.drew hs0 ?_); intro v1 w1 hown1 hb1 hg1; rw [Nat.zero_add, List.nil_append] at hown1; clear hg1 hA1d hst hbel hs0; have hA3 := hA2.below hb1; have hs1 := hb1.size; clear hA2)
        | ((refine step_append_arg (by rfl) (.tmp 9) (.tmp 13) (by rfl) w.heap.size B k (n - (k + 1)) (c - (k + 1)) w _ (some ⟨ad.block, ad.off + (k + 1), none⟩) (zs.take k) (zs.drop (k + 1)) (by rfl) (by rfl) hown1 hA3 (by omega) hb1 hs1 ?_); intro v2 w2 hown2 hb2 hg2; clear hg2 hown1 hb1 hs1 hA3; have hI2 : Ints w2 w.heap.size v2 (cutAt zs k) := Ints.of_own hown2; obtain ⟨A2, c2, rfl⟩ := hI2.slice; have hcl := unhide HCL; rw [unhide HL] at hcl; have H3 := hide (l2pat_any A2 _ c2 _ (cutAt zs k) w2 (hI2.arg (by omega) hI2.cap (unhide HSM)) (by omega)); clear hown2 hI2 hcl)
        | (go_simp; go_at_call 118; refine (unhide H3).mono ?_; rintro e w3 ⟨A3, c3, rfl, o3, hb3⟩; clear H3))
    have hI := o3.low hb2.size
    have hb4 := hb2.trans (hb3.mono hb2.size)
    clear o3 hb2 hb3
    go_wp2
    go_ret
    exact GivesI.mk hI hb4
def wplOK (p : List Int) (x : Int) : Bool := isP p && decide (1 ≤ x ∧ x ≤ (p.length : Int))
def wplR (p : List Int) (x : Int) : List Int := if wplOK p x then patL (cutAt p (x.toNat - 1)) else []
theorem wplR_yes {p : List Int} {x : Int} (h : wplOK p x = true) : wplR p x = patL (cutAt p (x.toNat - 1)) := by unfold wplR; rw [if_pos h]
theorem wplR_no {p : List Int} {x : Int} (h : wplOK p x = false) : wplR p x = [] := by unfold wplR; rw [if_neg (by simp [h])]
theorem wplR_le (p : List Int) (x : Int) : (wplR p x).length ≤ 8 := by
  cases h : wplOK p x with
  | false => rw [wplR_no h]; exact Nat.zero_le _
  | true =>
    have hp : isP p = true := by unfold wplOK at h; simp at h; exact h.1
    rw [wplR_yes h]
    exact isP_le (cutAt_isP hp _)
/-- The patterns without one of the first k indices, in order. -/
def lowK (p : List Int) (k : Nat) : List (List Int) := ((List.range k).map fun i => patL (cutAt p i)).foldl putL []
theorem lowK_step (p : List Int) (k : Nat) : lowK p (k + 1) = putL (lowK p k) (patL (cutAt p k)) := by
  unfold lowK
  rw [List.range_succ, List.map_append, List.foldl_append]; rfl
theorem lowK_all {p : List Int} (hp : isP p = true) : ∀ k, ∀ z ∈ lowK p k, isP z = true
  | 0, z, hz => by simp [lowK] at hz
  | k + 1, z, hz => by
    rw [lowK_step, mem_putL] at hz
    rcases hz with hz | rfl
    · exact lowK_all hp k z hz
    · exact cutAt_isP hp k
theorem lowK_len (p : List Int) : ∀ k, (lowK p k).length ≤ k
  | 0 => by simp [lowK]
  | k + 1 => by
    have h1 := lowK_len p k
    have h2 := (putL_len (lowK p k) (patL (cutAt p k))).2
    rw [lowK_step]; omega
def lowR (p : List Int) : List (List Int) := if isP p then lowK p p.length else []
theorem lowR_yes {p : List Int} (h : isP p = true) : lowR p = lowK p p.length := by unfold lowR; rw [if_pos h]
theorem lowR_no {p : List Int} (h : isP p = false) : lowR p = [] := by unfold lowR; rw [if_neg (by simp [h])]
theorem lput_start (w : World) : PutS (w.alloc (.cells #[] 36)) w.heap.size (.slice (some ⟨w.heap.size, 0, none⟩) 0 0) [] := ⟨IntsS.made0 w w.heap.size (Nat.le_refl _), _, _, rfl⟩
theorem lput_below {w w' : World} {B : Nat} {v : Value} {zss : List (List Int)} (h : PutS w B v zss) (hb : Below w.heap.size w w') : PutS w' B v zss := ⟨h.1.below hb, h.2⟩
set_option maxHeartbeats 800000 in
theorem slow_any (A : Option Addr) (n c B : Nat) (zs : List Int) (w : World) (h : Arg w B A n c zs) :
    Calls Tryz.prog 113 #[.slice A n c] w (GivesSS w (lowR zs)) := by
  have hl := h.len
  obtain ⟨b, hb⟩ : ∃ b, isP zs = b := ⟨_, rfl⟩
  have H0 := hide (fun w' (hb' : Below w.heap.size w w') => sisperm_any A n c B zs b hb w' (h.below hb').reads h.le h.cap)
  have hst := lput_start w
  have hbel := (Below.refl w.heap.size w).alloc (Nat.le_refl _) (.cells #[] 36)
  cases b with
  | false =>
    rw [lowR_no hb]
    by_cases hn : 0 < n
    · have hn0 : (0 : Int) < (n : Int) := by omega
      have H1 := hide (unhide H0 _ hbel)
      clear h hb hl H0
      go_enter Tryz.func113, Tryz.ntmps113
      go_wp2
      go_loopw [3, 4] (fun v i wr => v = .slice (some ⟨w.heap.size, 0, none⟩) 0 0 ∧ i = .int .i64 0 ∧ wr = w.alloc (.cells #[] 36)) (fun _ _ _ => 0)
      case atStart => exact ⟨rfl, rfl, rfl⟩
      case round =>
        obtain ⟨rfl, rfl, rfl⟩ := hrel
        go_wp2_with fail
        refine (unhide H1).mono ?_
        rintro e w2 ⟨rfl, hd⟩
        have hst2 := lput_below hst (hd.below _)
        have hb2 := below_after hbel (hd.below _)
        clear H1 hst hbel hd
        go_wp2
        go_ret
        exact GivesSS.mk hst2.1 hb2
    · exfalso
      have : zs = [] := List.eq_nil_of_length_eq_zero (by omega)
      subst this
      cases hb
  | true =>
    have h8 := isP_le hb
    have hn8 : n ≤ 8 := by omega
    rw [lowR_yes hb, hl]
    have HA := hide (fun k => lowK_all hb k)
    have HB := hide (fun k => cutAt_isP hb k)
    have HL := hide hl
    clear hb hl h8
    go_enter Tryz.func113, Tryz.ntmps113
    go_wp2
    go_loopw [3, 4] (fun v i wr => ∃ k : Nat, k ≤ n ∧ i = .int .i64 k ∧ Below w.heap.size w wr ∧ PutS wr w.heap.size v (lowK zs k)) (fun _ i _ => n - (intOf i).toNat)
    case atStart => exact ⟨0, Nat.zero_le _, rfl, hbel, hst⟩
    case round =>
      obtain ⟨k, hk, rfl, hbw, hP⟩ := hrel
      clear hst hbel
      obtain ⟨g, cap, rfl⟩ := hP.2
      by_cases hlt : k < n
      · have H1 := hide (unhide H0 wr hbw)
        go_wp2_with fail
        refine (unhide H1).mono ?_
        rintro e w2 ⟨rfl, hd⟩
        have hP2 := lput_below hP (hd.below _)
        have hb2 := hbw.trans (hd.below _)
        have H2 := hide (l7without_any A n c B zs k w2 (h.below hb2) hn8 hlt)
        clear H1 hd hP hbw
        go_wp2_with fail
        refine (unhide H2).mono ?_
        rintro e w3 ⟨A3, c3, rfl, o3, hb3⟩
        have hP3 := lput_below hP2 hb3
        have hb4 := below_after hb2 hb3
        have hlen : (lowK zs k).length ≤ 1048576 := by have := lowK_len zs k; omega
        have H3 := hide (l3put_any w.heap.size (lowK zs k) g (lowK zs k).length cap A3 (patL (cutAt zs k)).length c3 w3.heap.size (patL (cutAt zs k)) w3 hP3.1 (o3.argP (unhide HB k)) hb4.size (unhide HA k) hlen)
        rw [← lowK_step] at H3
        clear H2 hP2 o3 hb3 hP3 hlen hb2
        go_wp2_with fail
        refine (unhide H3).mono ?_
        rintro e w4 ⟨v4, rfl, hS4, hb5, _⟩
        have hb6 := hb4.trans hb5
        clear H3 hb5 hb4
        go_wp2
        go_roundw
        case rel => exact ⟨k + 1, by omega, by go_num, hb6, hS4⟩
        case measure => simp [intOf]; omega
      · obtain rfl : n = k := by omega
        go_wp2
        go_ret
        exact GivesSS.mk hP.1 hbw
end Go.Proofs.YtoiipedomgefaaaGreatDoor


/-
  spec.l3Reverse, spec.l3Complement, spec.ReversePerm, spec.ComplementPerm; slices.Clone, impl.ComplementPerm, by their contracts.
-/

namespace Go.Proofs.YtoiipedomgefaaaGreatDoor
set_option maxRecDepth 100000
open Go.RowKit

theorem rev_step {zs : List Int} {k : Nat} {z : Int} (h : zs[k]? = some z) : (zs.drop k).reverse = (zs.drop (k + 1)).reverse ++ [z] := by
  have hk : k < zs.length := (List.getElem?_eq_some_iff.1 h).1
  rw [List.drop_eq_getElem_cons hk, List.reverse_cons]
  rw [List.getElem?_eq_getElem hk] at h
  rw [Option.some.inj h]
theorem i64_snoc (xs : List Int) (z : Int) : i64s xs ++ [Value.int .i64 z] = i64s (xs ++ [z]) := by unfold i64s; simp
set_option maxHeartbeats 400000 in
theorem l3rev_any (A : Option Addr) (n c B : Nat) (zs : List Int) (w : World) (h : Arg w B A n c zs) :
    Calls Tryz.prog 60 #[.slice A n c] w (GivesI w zs.reverse) := by
  obtain ⟨i0, hi, hz0, hz1, hz2⟩ := info_parts intInfo
  have hl := h.len
  have hr := h.reads
  have hB := h.under
  have hn := h.le
  have HL := hide hl
  have hst := own0 w w.heap.size (Nat.le_refl _)
  have hbel := (Below.refl w.heap.size w).alloc (Nat.le_refl _) (.cells #[] 3)
  clear h hl
  go_enter Tryz.func60, Tryz.ntmps60
  go_wp2
  go_loopw [3, 4] (fun v i wr => ∃ k : Nat, k ≤ n ∧ i = .int .i64 ((k : Int) - 1) ∧ Below w.heap.size w wr ∧ wr.ownsRow w.heap.size 3 1 v (n - k) (i64s (zs.drop k).reverse)) (fun _ i _ => (intOf i + 1).toNat)
  case atStart =>
    refine ⟨n, Nat.le_refl _, rfl, hbel, ?_⟩
    rw [Nat.sub_self, List.drop_of_length_le (by rw [unhide HL]; exact Nat.le_refl _)]
    exact hst
  case round =>
    obtain ⟨k, hk, rfl, hbw, hown⟩ := hrel
    clear hst hbel
    cases k with
    | succ k =>
      obtain ⟨ad, u, rfl, had, hu, hc⟩ := ((hr.more hB).below hbw).at_ (show k < n by omega)
      obtain ⟨z, hz, rfl⟩ := i64_at hu
      have hstep := hide (rev_step hz)
      have hi1 : (((k + 1 : Nat) : Int) - 1) = (k : Int) := by omega
      have hnk : n - (k + 1) + 1 = n - k := by omega
      rw [hi1]
      clear hu hz hi1
      go_wp2_with (first
        | (at_builtin; refine wpList_append_one rfl (.tmp 13) (.tmp 18) 36 rfl w.heap.size 3 i0 (.int .i64 0) 8 Tryz.underlying36 hi hz0 hz1 hz2 rfl w wr _ _ _ rfl hown (.int .i64 z) rfl rfl rfl (by omega) (by simp only [maxLen]; omega) hbw hbw.size ?_; intro v2 w2 hown2 hb2 hg2; clear hg2))
      rw [i64_snoc, ← unhide hstep, hnk] at hown2
      clear hown hbw hstep
      go_roundw
      case rel => exact ⟨k, by omega, by go_num, hb2, hown2⟩
      case measure => simp [intOf]
    | zero =>
      have hI : Ints wr w.heap.size u3 zs.reverse := by
        have h := hown
        rw [Nat.sub_zero, List.drop_zero, ← unhide HL] at h
        rw [← List.length_reverse] at h
        exact Ints.of_own h
      clear hown
      go_wp2
      go_ret
      exact GivesI.mk hI hbw
set_option maxHeartbeats 400000 in
theorem l3cpl_any (A : Option Addr) (n c B : Nat) (zs : List Int) (w : World) (h : Arg w B A n c zs) (hp : isP zs = true) :
    Calls Tryz.prog 109 #[.slice A n c] w (GivesI w (cplL zs)) := by
  obtain ⟨i0, hi, hz0, hz1, hz2⟩ := info_parts intInfo
  have hl := h.len
  have hr := h.reads
  have hB := h.under
  have hn8 : n ≤ 8 := by have := isP_le hp; omega
  have HP := hide (fun k z hz => isP_range hp (k := k) (z := z) hz)
  have HL := hide hl
  have hst := own0 w w.heap.size (Nat.le_refl _)
  have hbel := (Below.refl w.heap.size w).alloc (Nat.le_refl _) (.cells #[] 3)
  clear h hl hp
  go_enter Tryz.func109, Tryz.ntmps109
  go_wp2
  go_loopw [3, 4] (fun v i wr => ∃ k : Nat, k ≤ n ∧ i = .int .i64 k ∧ Below w.heap.size w wr ∧ wr.ownsRow w.heap.size 3 1 v k (i64s ((cplL zs).take k))) (fun _ i _ => n - (intOf i).toNat)
  case atStart => exact ⟨0, Nat.zero_le _, rfl, hbel, hst⟩
  case round =>
    obtain ⟨k, hk, rfl, hbw, hown⟩ := hrel
    clear hst hbel
    by_cases hlt : k < n
    · obtain ⟨ad, u, rfl, had, hu, hc⟩ := ((hr.more hB).below hbw).at_ hlt
      obtain ⟨z, hz, rfl⟩ := i64_at hu
      obtain ⟨hz1', hz2'⟩ := unhide HP k z hz
      have hst := cplL_at hz
      rw [unhide HL] at hz2' hst
      have hstep := hide (take_snoc_i hst)
      clear hu hz hst
      go_wp2_with (first
        | (at_builtin; refine wpList_append_one rfl (.tmp 12) (.tmp 21) 36 rfl w.heap.size 3 i0 (.int .i64 0) 8 Tryz.underlying36 hi hz0 hz1 hz2 rfl w wr _ _ _ rfl hown (.int .i64 ((n : Int) + 1 - z)) rfl rfl rfl (by omega) (by simp only [maxLen]; omega) hbw hbw.size ?_; intro v2 w2 hown2 hb2 hg2; clear hg2))
      rw [i64_snoc, ← unhide hstep] at hown2
      clear hown hbw hstep
      go_roundw
      case rel => exact ⟨k + 1, by omega, by go_num, hb2, hown2⟩
      case measure => simp [intOf]; omega
    · obtain rfl : n = k := by omega
      have hI : Ints wr w.heap.size u3 (cplL zs) := by
        have h := hown
        rw [List.take_of_length_le (by rw [cplL_length, unhide HL]; exact Nat.le_refl _), ← unhide HL, ← cplL_length zs] at h
        exact Ints.of_own h
      clear hown
      go_wp2
      go_ret
      exact GivesI.mk hI hbw
set_option maxHeartbeats 400000 in
theorem clone_any (A : Option Addr) (n c B : Nat) (zs : List Int) (w : World) (h : Arg w B A n c zs) :
    Calls Tryz.prog 62 #[.slice A n c] w (GivesI w zs) := by
  obtain ⟨i0, hi, hz0, hz1, hz2⟩ := info_parts intInfo
  have hl := h.len
  have hn := h.le
  have hr := h.reads
  have q22 : ∀ (w : World) (a : Option Addr) (n c n' c' : Nat), (binOp .eql 36 (.slice a n c) (.slice none n' c')).run Tryz.prog w = .ok (.bool a.isNone) w := fun w a n c n' c' => Lib.run_eql_slice_nil w _ _ a n c n' c' Tryz.underlying36
  cases A with
  | none =>
    obtain rfl : n = 0 := by
      by_cases h0 : 0 < n
      · obtain ⟨ad, he, _⟩ := hr.2 h0
        cases he
      · omega
    obtain rfl := List.eq_nil_of_length_eq_zero hl
    clear h hr hl
    go_enter Tryz.func62, Tryz.ntmps62
    go_wp2
    go_ret
    exact GivesI.mk (Ints.nil _ _) (Below.refl _ _)
  | some ad =>
    have hcl : ∀ j u, (i64s zs)[j]? = some u → w.cell? (ad.add j) = some u := fun j u hu => by
      have hj : j < n := by have := (List.getElem?_eq_some_iff.1 hu).1; rw [i64_length, hl] at this; exact this
      obtain ⟨ad', he, _, hc⟩ := hr.2 (by omega)
      injection he with he
      subst he
      exact hc j u hu
    have hbl : 0 < n → ad.block < w.heap.size := fun h0 => by
      obtain ⟨ad', he, hb', _⟩ := hr.2 h0
      injection he with he
      subst he
      exact Nat.lt_of_lt_of_le hb' h.under
    have hcl2 : ∀ j u, (i64s zs)[j]? = some u → (w.alloc (.cells #[] 3)).cell? (ad.add j) = some u := fun j u hu => by
      have hj : j < n := by have := (List.getElem?_eq_some_iff.1 hu).1; rw [i64_length, hl] at this; exact this
      rw [World.cell?_alloc_lt]
      · exact hcl j u hu
      · rw [block_of_add]; exact hbl (by omega)
    have hone : ∀ u ∈ i64s zs, u.oneCell' = true := fun u hu => by
      unfold i64s at hu
      obtain ⟨z, _, rfl⟩ := List.mem_map.1 hu
      rfl
    have hln : (i64s zs).length = n * 1 := by rw [i64_length, hl]; omega
    have HCL := hide hcl2
    have HONE := hide hone
    have HLN := hide hln
    have HL := hide hl
    have hst := own0 w w.heap.size (Nat.le_refl _)
    have hbel := (Below.refl w.heap.size w).alloc (Nat.le_refl _) (.cells #[] 3)
    clear h hr hl hcl hcl2 hbl hone hln
    go_enter Tryz.func62, Tryz.ntmps62
    go_wp2_with (at_builtin; refine wpList_append_own _ rfl (.tmp 5) (.tmp 6) 36 rfl w.heap.size 3 i0 (.int .i64 0) 1 8 Tryz.underlying36 hi hz0 hz1 hz2 rfl (by decide) _ _ _ rfl hst ad n c (i64s zs) rfl ?_ ?_ ?_ ?_ ?_ ?_ ?_)
    · exact unhide HLN
    · exact unhide HCL
    · exact unhide HONE
    · unfold maxLen; omega
    · omega
    · simp
    intro v1 w1 hown1 hg1 _
    have hb1 : Below w.heap.size w w1 := hbel.grown hg1 (by simp) (fun q hq => by simp [Value.ownBlock] at hq; omega)
    have hI : Ints w1 w.heap.size v1 zs := by
      have h := hown1
      rw [← unhide HL] at h
      exact Ints.of_own h
    clear hg1 hown1
    go_wp2
    go_ret
    exact GivesI.mk hI hb1
set_option maxHeartbeats 400000 in
theorem icpl_any (A : Option Addr) (n c B : Nat) (zs : List Int) (w : World) (h : Arg w B A n c zs) :
    Calls Tryz.prog 133 #[.slice A n c] w (GivesI w (cplR zs)) := by
  obtain ⟨b, hb⟩ : ∃ b, isP zs = b := ⟨_, rfl⟩
  have H1 := hide (iisperm_any A n c B zs b hb w h.reads h.under h.le h.small)
  cases b with
  | false =>
    rw [cplR_no hb]
    clear hb h
    go_enter Tryz.func133, Tryz.ntmps133
    go_wp2_with fail
    refine (unhide H1).mono ?_
    rintro e w1 ⟨rfl, hb⟩
    clear H1
    go_wp2
    go_ret
    exact GivesI.mk (v := .slice none 0 0) (Ints.nil _ _) hb
  | true =>
    rw [cplR_yes hb]
    obtain ⟨i0, hi, hz0, hz1, hz2⟩ := info_parts intInfo
    have hl := h.len
    have hr := h.reads
    have hB := h.under
    have hn8 : n ≤ 8 := by have := isP_le hb; omega
    have HL := hide hl
    have HP := hide (fun k z hz => isP_range hb (k := k) (z := z) hz)
    clear hl h hb
    go_enter Tryz.func133, Tryz.ntmps133
    go_wp2_with fail
    refine (unhide H1).mono ?_
    rintro e w0 ⟨rfl, hb0⟩
    have hs0 := hb0.size
    clear H1
    go_wp2_with (first
      | (at_make; refine wpList_make_full _ rfl (.tmp 10) (.tmp 10) 36 rfl w.heap.size 3 i0 (.int .i64 0) 1 Tryz.underlying36 hi hz0 hz1 _ _ _ _ n rfl rfl (by first | rfl | omega) (by first | rfl | omega) (by rw [hz2]; omega) (by unfold maxLen; omega) hs0 ?_; intro w1 hown hg))
    have hb1 := hb0.grown hg hs0 (by simp)
    clear hg hb0
    obtain ⟨g, hg⟩ : ∃ g, g = w0.heap.size := ⟨_, rfl⟩
    rw [← hg] at hown ⊢
    clear hg hs0
    go_loopw [4, 5, 14] (fun _ _ i wr => ∃ (k : Nat) (xs : List Value), k ≤ n ∧ i = .int .i64 k ∧ Below w.heap.size w wr ∧ wr.ownsRow w.heap.size 3 1 (.slice (some ⟨g, 0, none⟩) n n) n xs ∧ Hid (xs.take k = (i64s (cplL zs)).take k)) (fun _ _ i _ => n - (intOf i).toNat)
    case atStart => exact ⟨0, _, Nat.zero_le _, rfl, hb1, hown, by exact rfl⟩
    case round =>
      obtain ⟨k, xs, hk, rfl, hb, hown', hx⟩ := hrel
      clear hown hb1
      have hlx : xs.length = n := by simpa using hown'.1
      by_cases hlt : k < n
      · obtain ⟨ad, u, rfl, had, hu, hc⟩ := ((hr.more hB).below hb).at_ hlt
        obtain ⟨z, hz, rfl⟩ := i64_at hu
        obtain ⟨hz1', hz2'⟩ := unhide HP k z hz
        have hst := cplL_at hz
        rw [unhide HL] at hz2' hst
        obtain ⟨old, hold⟩ : ∃ old, wr.cell? ⟨g, k, none⟩ = some old := ⟨_, by rw [hown'.cellAt k (by omega)]; exact List.getElem?_eq_getElem (by omega)⟩
        have hfz := hown'.frozenAt k
        have ho2 := (hown'.stored k (.int .i64 ((n : Int) + 1 - z))).1
        have hb2 := below_set_i hb hown' k (.int .i64 ((n : Int) + 1 - z))
        have hnext := hide (take_set_i (unhide hx) (i64_get hst) (by omega))
        clear hu hz hst hx hown' hb hlx
        go_wp2
        go_roundw
        case rel => exact ⟨k + 1, _, by omega, by go_num, hb2, ho2, hnext⟩
        case measure => simp [intOf]; omega
      · obtain rfl : n = k := by omega
        have hE : xs = i64s (cplL zs) := by
          have h := unhide hx
          rwa [List.take_of_length_le (by omega), List.take_of_length_le (by rw [i64_length, cplL_length, unhide HL]; exact Nat.le_refl _)] at h
        subst hE
        have hI : Ints wr w.heap.size (.slice (some ⟨g, 0, none⟩) n n) (cplL zs) := by
          have h := hown'
          rw [← unhide HL, ← cplL_length zs] at h ⊢
          exact Ints.of_own h
        clear hown' hx hlx
        go_wp2
        go_ret
        exact GivesI.mk hI hb
end Go.Proofs.YtoiipedomgefaaaGreatDoor


/-
  spec.l7At, spec.l7Fits, spec.l7Find, spec.OccurrencesOf, spec.CountPattern, spec.HasPattern, by their contracts.
-/

namespace Go.Proofs.YtoiipedomgefaaaGreatDoor
set_option maxRecDepth 100000
open Go.RowKit

theorem Arg.stay {w w' : World} {B B' n c : Nat} {A : Option Addr} {zs : List Int} (h : Arg w B A n c zs) (hb : Below B' w w') (hB : B ≤ B') : Arg w' B A n c zs :=
  ⟨h.reads.below (hb.mono hB), Nat.le_trans h.under hb.size, h.le, h.cap, h.small, h.nil⟩
theorem Arg.at_ {w : World} {B n c k : Nat} {A : Option Addr} {zs : List Int} (h : Arg w B A n c zs) (hk : k < n) : ∃ ad, A = some ad ∧ ad.block < B ∧ zs[k]? = some (at0 zs k) ∧ w.cell? (ad.add k) = some (.int .i64 (at0 zs k)) := by
  obtain ⟨ad, u, hA, hb, hu, hc⟩ := h.reads.at_ hk
  obtain ⟨z, hz, rfl⟩ := i64_at hu
  have e := at0_of hz
  subst e
  exact ⟨ad, hA, hb, hz, hc⟩
theorem isP_rng {p : List Int} (h : isP p = true) {k : Nat} (hk : k < p.length) : 1 ≤ at0 p k ∧ at0 p k ≤ (p.length : Int) := by
  have := (isP_true.1 h).2.1 _ (at0_mem hk)
  exact this
theorem place_nat {n : Nat} {x : Int} (h : 1 ≤ x ∧ x ≤ (n : Int)) : ∃ X : Nat, x = ((X + 1 : Nat) : Int) ∧ X < n := ⟨x.toNat - 1, by omega, by omega⟩

set_option maxHeartbeats 1600000 in
theorem l7fits_any (A A' A2 : Option Addr) (n c B n' c' B' n2 c2 B2 : Nat) (p q pl : List Int) (b : Bool) (hb : fitL p q pl = b) (w : World) (h : Arg w B A n c p) (h' : Arg w B' A' n' c' q) (h2 : Arg w B2 A2 n2 c2 pl) (hr : PlOK p.length pl) (hlt : 0 < n2) (hle : n2 ≤ n') :
    Calls Tryz.prog 144 #[.slice A n c, .slice A' n' c', .slice A2 n2 c2] w fun e w' => e = .returned (.bool b) ∧ Drew w w' := by
  have hl := h.len
  have hl' := h'.len
  have hl2 := h2.len
  obtain ⟨L, rfl⟩ : ∃ L, n2 = L + 1 := ⟨n2 - 1, by omega⟩
  have hn2 := h2.le
  have hL1 : ((L + 1 : Nat) : Int) - 1 = (L : Int) := by omega
  have HB := hide hb
  have HL := hide hl2
  have HR := hide hr
  clear hb hr
  go_enter Tryz.func144, Tryz.ntmps144
  go_wp2
  go_loopw [8] (fun i wr => ∃ k : Nat, k ≤ L ∧ i = .int .i64 k ∧ Drew w wr ∧ Hid (∀ j, j < k → decide (at0 q j < at0 q L) = decide (at0 (nums p pl) j < at0 (nums p pl) L))) (fun i _ => L - (intOf i).toNat)
  case atStart => exact ⟨0, Nat.zero_le _, rfl, Drew.refl _, fun j hj => by omega⟩
  case round =>
    obtain ⟨k, hk, rfl, hd, hx⟩ := hrel
    by_cases hkl : k < L
    · have hdb := hd.below w.heap.size
      obtain ⟨ad', rfl, _, _, ca⟩ := (h'.below hdb).at_ (show k < n' by omega)
      obtain ⟨_, he, _, _, cb⟩ := (h'.below hdb).at_ (show L < n' by omega)
      obtain rfl := Option.some.inj he
      obtain ⟨ad2, rfl, _, _, cx⟩ := (h2.below hdb).at_ (show k < L + 1 by omega)
      obtain ⟨_, he2, _, _, cy⟩ := (h2.below hdb).at_ (show L < L + 1 by omega)
      obtain rfl := Option.some.inj he2
      obtain ⟨X, hX, hXn⟩ := place_nat ((unhide HR).rng (i := k) (by omega))
      obtain ⟨Y, hY, hYn⟩ := place_nat ((unhide HR).rng (i := L) (by omega))
      obtain ⟨ad, rfl, _, _, cc⟩ := (h.below hdb).at_ (show X < n by omega)
      obtain ⟨_, he3, _, _, cd⟩ := (h.below hdb).at_ (show Y < n by omega)
      obtain rfl := Option.some.inj he3
      have e1 : at0 (nums p pl) k = at0 p X := by rw [nums_at0 (by omega), hX]; simp
      have e2 : at0 (nums p pl) L = at0 p Y := by rw [nums_at0 (by omega), hY]; simp
      rw [hX] at cx
      rw [hY] at cy
      have k1 : ((X + 1 : Nat) : Int) - 1 = (X : Int) := by omega
      have k2 : ((Y + 1 : Nat) : Int) - 1 = (Y : Int) := by omega
      have hnn := h.le
      have w1 : IntKind.i64.wrap (X : Int) = X := by rw [IntKind.wrap_i64]; omega
      have w2 : IntKind.i64.wrap (Y : Int) = Y := by rw [IntKind.wrap_i64]; omega
      have HE := hide (And.intro e1 e2)
      have HD := hide hd
      have HX := hide (And.intro hX hY)
      clear e1 e2 hd hdb hX hY he he2 he3
      obtain ⟨a, ha⟩ : ∃ a, at0 q k = a := ⟨_, rfl⟩
      obtain ⟨b', hb'⟩ : ∃ b', at0 q L = b' := ⟨_, rfl⟩
      obtain ⟨y, hy⟩ : ∃ y, at0 p X = y := ⟨_, rfl⟩
      obtain ⟨z, hz⟩ : ∃ z, at0 p Y = z := ⟨_, rfl⟩
      have HA := hide (And.intro ha (And.intro hb' (And.intro hy hz)))
      rw [ha] at ca
      rw [hb'] at cb
      rw [hy] at cc
      rw [hz] at cd
      clear ha hb' hy hz
      by_cases t1 : a < b'
      · have d1 := decide_eq_true t1
        by_cases t2 : y < z
        · have d2 := decide_eq_true t2
          have hnext : Hid (∀ j, j < k + 1 → decide (at0 q j < at0 q L) = decide (at0 (nums p pl) j < at0 (nums p pl) L)) := hide (fun j hj => by
            by_cases hjk : j < k
            · exact unhide hx j hjk
            · obtain rfl : j = k := by omega
              rw [(unhide HE).1, (unhide HE).2, (unhide HA).1, (unhide HA).2.1, (unhide HA).2.2.1, (unhide HA).2.2.2, decide_eq_true t1, decide_eq_true t2])
          clear hx
          go_wp2
          go_quiet (fail)
          go_wp2
          go_roundw
          case rel => exact ⟨k + 1, by omega, by go_num, (unhide HD).more _, hnext⟩
          case measure => simp [intOf]; omega
        · have d2 := decide_eq_false t2
          obtain rfl : b = false := (unhide HB).symm.trans (fitL_no (k := k) (by rw [unhide HL]; omega) (by rw [unhide HL, Nat.add_sub_cancel, (unhide HE).1, (unhide HE).2, (unhide HA).1, (unhide HA).2.1, (unhide HA).2.2.1, (unhide HA).2.2.2, decide_eq_true t1, decide_eq_false t2]; decide))
          clear hx HB
          go_wp2
          go_quiet (fail)
          go_wp2
          go_ret
          exact ⟨rfl, (unhide HD).more _⟩
      · have d1 := decide_eq_false t1
        by_cases t2 : y < z
        · have d2 := decide_eq_true t2
          obtain rfl : b = false := (unhide HB).symm.trans (fitL_no (k := k) (by rw [unhide HL]; omega) (by rw [unhide HL, Nat.add_sub_cancel, (unhide HE).1, (unhide HE).2, (unhide HA).1, (unhide HA).2.1, (unhide HA).2.2.1, (unhide HA).2.2.2, decide_eq_false t1, decide_eq_true t2]; decide))
          clear hx HB
          go_wp2
          go_quiet (fail)
          go_wp2
          go_ret
          exact ⟨rfl, (unhide HD).more _⟩
        · have d2 := decide_eq_false t2
          have hnext : Hid (∀ j, j < k + 1 → decide (at0 q j < at0 q L) = decide (at0 (nums p pl) j < at0 (nums p pl) L)) := hide (fun j hj => by
            by_cases hjk : j < k
            · exact unhide hx j hjk
            · obtain rfl : j = k := by omega
              rw [(unhide HE).1, (unhide HE).2, (unhide HA).1, (unhide HA).2.1, (unhide HA).2.2.1, (unhide HA).2.2.2, decide_eq_false t1, decide_eq_false t2])
          clear hx
          go_wp2
          go_quiet (fail)
          go_wp2
          go_roundw
          case rel => exact ⟨k + 1, by omega, by go_num, (unhide HD).more _, hnext⟩
          case measure => simp [intOf]; omega
    · obtain rfl : L = k := by omega
      obtain rfl : b = true := (unhide HB).symm.trans (fitL_yes fun k hk => by
        rw [unhide HL, Nat.add_sub_cancel] at hk ⊢
        exact unhide hx k hk)
      clear hx HB
      go_wp2
      go_ret
      exact ⟨rfl, hd⟩
end Go.Proofs.YtoiipedomgefaaaGreatDoor


/-
  spec.PatternsIn, by its contract.
-/

namespace Go.Proofs.YtoiipedomgefaaaGreatDoor
set_option maxRecDepth 100000
open Go.RowKit

/-- The numbers at those of the first k indices whose bit is set. -/
def subK (p : List Int) (s : Nat) : Nat → List Int
  | 0 => []
  | k + 1 => if s.testBit k then subK p s k ++ [at0 p k] else subK p s k
theorem subK_len (p : List Int) (s : Nat) : ∀ k, (subK p s k).length ≤ k
  | 0 => Nat.le_refl _
  | k + 1 => by
    have := subK_len p s k
    rw [subK]; split <;> simp <;> omega
/-- The patterns of length k of the first s sets of indices, in order. -/
def patK (p : List Int) (k : Int) : Nat → List (List Int)
  | 0 => []
  | s + 1 => if ((subK p s p.length).length : Int) = k then putL (patK p k s) (patL (subK p s p.length)) else patK p k s
def patsOK (p : List Int) (k : Int) : Bool := isP p && decide (0 ≤ k ∧ k ≤ (p.length : Int))
def patsR (p : List Int) (k : Int) : List (List Int) := if patsOK p k then patK p k (2 ^ p.length) else []

theorem bit_test (s k : Nat) (hs : s ≤ 256) : (bits .and .i64 ((s : Int) / 2 ^ k) 1 == 1) = s.testBit k := by
  have h0 : (s : Int) / 2 ^ k = ((s / 2 ^ k : Nat) : Int) := by push_cast; rfl
  have hle : s / 2 ^ k ≤ s := Nat.div_le_self _ _
  have h1 : bits .and .i64 ((s / 2 ^ k : Nat) : Int) 1 = ((s / 2 ^ k % 2 : Nat) : Int) := by
    have := bits_mask .i64 63 (by decide) (fun n h0 h1 => by rw [IntKind.wrap_i64]; omega) 1 (by decide) ((s / 2 ^ k : Nat) : Int) (Int.natCast_nonneg _) (Int.lt_of_le_of_lt (Int.ofNat_le.2 hle) (by omega))
    simpa using this
  rw [h0, h1, Nat.testBit_eq_decide_div_mod_eq]
  by_cases h : s / 2 ^ k % 2 = 1
  · rw [h]; rfl
  · have h2 : s / 2 ^ k % 2 = 0 := by omega
    rw [h2]; rfl
theorem patK_len (p : List Int) (k : Int) : ∀ s, (patK p k s).length ≤ s
  | 0 => Nat.le_refl _
  | s + 1 => by
    have h1 := patK_len p k s
    have h2 := (putL_len (patK p k s) (patL (subK p s p.length))).2
    rw [patK]; split <;> omega
theorem subK_sub (p : List Int) (s : Nat) : ∀ k, k ≤ p.length → (subK p s k).Sublist (p.take k)
  | 0, _ => by simp [subK]
  | k + 1, hk => by
    have ih := subK_sub p s k (by omega)
    rw [take_snoc_i (at0_some (show k < p.length by omega)), subK]
    split
    · exact ih.append (List.Sublist.refl _)
    · exact ih.trans (List.sublist_append_left _ _)
theorem subK_isP {p : List Int} (hp : isP p = true) (s : Nat) : isP (patL (subK p s p.length)) = true := by
  have h := subK_sub p s p.length (Nat.le_refl _)
  rw [List.take_length] at h
  rw [isP_pat]
  exact patOK_yes (Nat.le_trans h.length_le (isP_le hp)) ((isP_true.1 hp).2.2.sublist h)
theorem patK_all {p : List Int} (hp : isP p = true) (k : Int) : ∀ s, ∀ z ∈ patK p k s, isP z = true
  | 0, z, hz => by simp [patK] at hz
  | s + 1, z, hz => by
    rw [patK] at hz
    split at hz
    · rcases mem_putL.1 hz with hz | rfl
      · exact patK_all hp k s z hz
      · exact subK_isP hp s
    · exact patK_all hp k s z hz
theorem patK_yes {p : List Int} {k : Int} {s : Nat} (h : ((subK p s p.length).length : Int) = k) : patK p k (s + 1) = putL (patK p k s) (patL (subK p s p.length)) := by rw [patK, if_pos h]
theorem patK_no {p : List Int} {k : Int} {s : Nat} (h : ¬ ((subK p s p.length).length : Int) = k) : patK p k (s + 1) = patK p k s := by rw [patK, if_neg h]
theorem patsR_yes {p : List Int} {k : Int} (h : patsOK p k = true) : patsR p k = patK p k (2 ^ p.length) := by unfold patsR; rw [if_pos h]
theorem patsR_no {p : List Int} {k : Int} (h : patsOK p k = false) : patsR p k = [] := by unfold patsR; rw [if_neg (by simp [h])]

end Go.Proofs.YtoiipedomgefaaaGreatDoor


/-
  PLAIN: the choices of places in order; occurrences are those whose pattern is right, patterns are the patterns of the choices. Nothing here speaks of the program.
-/

namespace Go.Proofs.YtoiipedomgefaaaGreatDoor
set_option maxRecDepth 100000

/-- The choices of m more of the places 1 to n that begin with head. -/
def chL (n : Nat) : Nat → List Int → List (List Int)
  | 0, head => [head]
  | m + 1, head => (List.range (n - lastP head)).flatMap fun i => chL n m (head ++ [((lastP head + i + 1 : Nat) : Int)])
/-- .. of the first j of the next places. -/
def chK (n m : Nat) (head : List Int) (j : Nat) : List (List Int) := (List.range j).flatMap fun i => chL n m (head ++ [((lastP head + i + 1 : Nat) : Int)])
theorem chK_all (n m : Nat) (head : List Int) : chK n m head (n - lastP head) = chL n (m + 1) head := rfl
theorem chK_zero (n m : Nat) (head : List Int) : chK n m head 0 = [] := rfl
theorem chK_step (n m : Nat) (head : List Int) (j : Nat) : chK n m head (j + 1) = chK n m head j ++ chL n m (head ++ [((lastP head + j + 1 : Nat) : Int)]) := by
  unfold chK
  rw [List.range_succ, List.flatMap_append, List.flatMap_cons, List.flatMap_nil, List.append_nil]
theorem mem_chL {n : Nat} : ∀ (m : Nat) (head pl : List Int), PlOK n head → (pl ∈ chL n m head ↔ ∃ tl, pl = head ++ tl ∧ tl.length = m ∧ PlOK n pl)
  | 0, head, pl, h => by
    rw [chL, List.mem_singleton]
    constructor
    · rintro rfl
      exact ⟨[], by simp, rfl, h⟩
    · rintro ⟨tl, rfl, h1, _⟩
      rw [List.eq_nil_of_length_eq_zero h1, List.append_nil]
  | m + 1, head, pl, h => by
    have hle := lastP_le h
    rw [chL, List.mem_flatMap]
    constructor
    · rintro ⟨i, hi, hm⟩
      rw [List.mem_range] at hi
      have hh : PlOK n (head ++ [((lastP head + i + 1 : Nat) : Int)]) := PlOK.snoc.2 ⟨h, by omega, by omega⟩
      obtain ⟨tl, rfl, h1, h2⟩ := (mem_chL m _ pl hh).1 hm
      exact ⟨((lastP head + i + 1 : Nat) : Int) :: tl, by rw [List.append_assoc]; rfl, by simp [h1], h2⟩
    · rintro ⟨tl, rfl, h1, h2⟩
      match tl, h1 with
      | x :: tl, h1 =>
        have hx : PlOK n (head ++ [x]) := by
          have := h2.take (head.length + 1)
          rwa [show head ++ x :: tl = head ++ [x] ++ tl by simp, List.take_append_of_le_length (by simp), List.take_of_length_le (by simp)] at this
        obtain ⟨_, hx1, hx2⟩ := PlOK.snoc.1 hx
        have hxe : ((lastP head + (x.toNat - lastP head - 1) + 1 : Nat) : Int) = x := by omega
        refine ⟨x.toNat - lastP head - 1, List.mem_range.2 (by omega), ?_⟩
        rw [hxe, mem_chL m _ _ hx]
        exact ⟨tl, by simp, by simpa using h1, h2⟩
theorem chL_len {n : Nat} : ∀ (m : Nat) (head pl : List Int), pl ∈ chL n m head → pl.length = head.length + m
  | 0, head, pl, h => by rw [chL, List.mem_singleton] at h; subst h; rfl
  | m + 1, head, pl, h => by
    rw [chL, List.mem_flatMap] at h
    obtain ⟨i, _, h⟩ := h
    have := chL_len m _ pl h
    simp at this; omega
theorem chL_pre {n : Nat} : ∀ (m : Nat) (head pl : List Int), pl ∈ chL n m head → ∃ tl, pl = head ++ tl
  | 0, head, pl, h => by rw [chL, List.mem_singleton] at h; subst h; exact ⟨[], by simp⟩
  | m + 1, head, pl, h => by
    rw [chL, List.mem_flatMap] at h
    obtain ⟨i, _, h⟩ := h
    obtain ⟨tl, rfl⟩ := chL_pre m _ pl h
    exact ⟨_ :: tl, by simp; rfl⟩
theorem chL_asc {n : Nat} : ∀ (m : Nat) (head : List Int), Asc (chL n m head)
  | 0, head => by rw [chL]; exact List.pairwise_singleton _ _
  | m + 1, head => by
    rw [chL]
    unfold Asc
    rw [List.pairwise_flatMap]
    constructor
    · intro i _
      exact chL_asc m _
    · refine List.Pairwise.imp ?_ List.pairwise_lt_range
      intro i j hij x hx y hy
      have l1 := chL_len m _ x hx
      have l2 := chL_len m _ y hy
      obtain ⟨t, rfl⟩ := chL_pre m _ x hx
      obtain ⟨s, rfl⟩ := chL_pre m _ y hy
      simp only [List.length_append, List.length_singleton] at l1 l2
      rw [befL_eq (by simp; omega), List.append_assoc, List.append_assoc, lexL_app, List.singleton_append, List.singleton_append, lexL, if_neg (by omega)]
      simp; omega
/-- The choices of k of the places 1 to n. -/
def chR (n k : Nat) : List (List Int) := chL n k []
theorem mem_chR {n k : Nat} {pl : List Int} : pl ∈ chR n k ↔ pl.length = k ∧ PlOK n pl := by
  unfold chR
  rw [mem_chL k [] pl (PlOK.nil n)]
  constructor
  · rintro ⟨tl, rfl, h1, h2⟩; exact ⟨by simpa using h1, h2⟩
  · rintro ⟨h1, h2⟩; exact ⟨pl, rfl, h1, h2⟩
theorem chR_asc (n k : Nat) : Asc (chR n k) := chL_asc k []
/-- The pattern at places. -/
def patA (p pl : List Int) : List Int := patL (nums p pl)
theorem occ_filter {p q : List Int} (hp : isP p = true) (hq : isP q = true) : (chR p.length q.length).filter (fun pl => decide (patA p pl = q)) = occR p q := by
  refine asc_unique ((chR_asc _ _).sublist List.filter_sublist) (occ_asc p q) fun x => ?_
  rw [List.mem_filter, mem_chR, mem_occ, isOcc_iff]
  unfold patA
  simp only [decide_eq_true_eq, hp, hq, true_and]
  constructor
  · rintro ⟨⟨h1, h2⟩, h3⟩; exact ⟨h1, h2, h3⟩
  · rintro ⟨h1, h2, h3⟩; exact ⟨⟨h1, h2⟩, h3⟩

/-! patterns -/
theorem nums_sub {p : List Int} : ∀ {pl : List Int} {m : Nat}, PlOK m pl → m ≤ p.length → (nums p pl).Sublist (p.take m) := by
  intro pl m
  induction m generalizing pl with
  | zero =>
    intro h _
    cases pl with
    | nil => simp [nums]
    | cons a l => have := h.1 a (by simp); omega
  | succ m ih =>
    intro h hm
    by_cases h0 : pl = []
    · subst h0; simp [nums]
    · obtain ⟨l, x, rfl⟩ : ∃ l x, pl = l ++ [x] := ⟨pl.dropLast, pl.getLast h0, (List.dropLast_concat_getLast h0).symm⟩
      obtain ⟨h1, h2, h3⟩ := PlOK.snoc.1 h
      have hsub : ∀ (k : Nat), k ≤ m → (p.take k).Sublist (p.take m) := fun k hk => by
        have := List.take_sublist k (p.take m)
        rwa [List.take_take, Nat.min_eq_left hk] at this
      by_cases hx : x = ((m + 1 : Nat) : Int)
      · subst hx
        have hl : PlOK m l := ⟨fun y hy => ⟨(h1.1 y hy).1, by
          have hh := (List.pairwise_append.1 h.2).2.2 y hy ((m + 1 : Nat) : Int) (by simp)
          omega⟩, h1.2⟩
        rw [nums_snoc, take_snoc_i (at0_some (show m < p.length by omega))]
        exact (ih hl (by omega)).append (by rw [show (((m + 1 : Nat) : Int)).toNat - 1 = m by omega]; exact List.Sublist.refl _)
      · have hl : PlOK m (l ++ [x]) := PlOK.snoc.2 ⟨⟨fun y hy => ⟨(h1.1 y hy).1, by
          have hh := (List.pairwise_append.1 h.2).2.2 y hy x (by simp)
          omega⟩, h1.2⟩, h2, by omega⟩
        have := ih hl (by omega)
        have h5 := List.take_sublist m (p.take (m + 1))
        rw [List.take_take, Nat.min_eq_left (Nat.le_succ m)] at h5
        exact this.trans h5
theorem nums_sub' {p pl : List Int} (h : PlOK p.length pl) : (nums p pl).Sublist p := by
  have := nums_sub (p := p) h (Nat.le_refl _)
  rwa [List.take_length] at this
/-- The patterns of the choices are those of the parts of a length. -/
theorem mem_pats_ch {p x : List Int} {k : Nat} : x ∈ (chR p.length k).map (patA p) ↔ ∃ s, s.Sublist p ∧ s.length = k ∧ x = patL s := by
  rw [List.mem_map]
  constructor
  · rintro ⟨pl, h, rfl⟩
    rw [mem_chR] at h
    exact ⟨nums p pl, nums_sub' h.2, by rw [nums_length]; exact h.1, rfl⟩
  · rintro ⟨s, h1, h2, rfl⟩
    obtain ⟨pl, h3, rfl⟩ := places_of h1
    rw [nums_length] at h2
    exact ⟨pl, mem_chR.2 ⟨h2, h3⟩, rfl⟩
theorem subK_hi (p : List Int) {s t : Nat} : ∀ {k : Nat}, (∀ i, i < k → s.testBit i = t.testBit i) → subK p s k = subK p t k
  | 0, _ => rfl
  | k + 1, h => by
    rw [subK, subK, h k (by omega), subK_hi p (k := k) fun i hi => h i (by omega)]
/-- Every part is one of the parts that the bits tell. -/
theorem sub_bits {p : List Int} : ∀ (k : Nat) (s : List Int), k ≤ p.length → s.Sublist (p.take k) → ∃ t, t < 2 ^ k ∧ subK p t k = s
  | 0, s, _, h => ⟨0, by simp, by rw [List.take_zero] at h; rw [List.sublist_nil.1 h]; rfl⟩
  | k + 1, s, hk, h => by
    rw [take_snoc_i (at0_some (show k < p.length by omega)), List.sublist_append_iff] at h
    obtain ⟨a, b, rfl, h1, h2⟩ := h
    obtain ⟨t, ht, rfl⟩ := sub_bits k a (by omega) h1
    have hpow : 2 ^ (k + 1) = 2 ^ k + 2 ^ k := by rw [Nat.pow_succ]; omega
    cases b with
    | nil =>
      refine ⟨t, by omega, ?_⟩
      rw [subK, Nat.testBit_lt_two_pow ht, List.append_nil]
      rfl
    | cons y b =>
      have hb : y :: b = [at0 p k] := by
        have := h2.length_le
        cases b with
        | nil => have := h2.subset (List.mem_singleton.2 rfl); simp at this; rw [this]
        | cons z b => simp at this
      rw [hb]
      refine ⟨2 ^ k + t, by omega, ?_⟩
      rw [subK, Nat.testBit_two_pow_add_eq, Nat.testBit_lt_two_pow ht]
      rw [subK_hi p (s := 2 ^ k + t) (t := t) fun i hi => Nat.testBit_two_pow_add_gt hi t]
      rfl
theorem mem_patK {p : List Int} {k : Int} : ∀ {s : Nat} {x : List Int}, x ∈ patK p k s ↔ ∃ t, t < s ∧ ((subK p t p.length).length : Int) = k ∧ x = patL (subK p t p.length)
  | 0, x => by simp [patK]
  | s + 1, x => by
    have ih := mem_patK (p := p) (k := k) (s := s) (x := x)
    constructor
    · intro h
      by_cases hk : ((subK p s p.length).length : Int) = k
      · rw [patK_yes hk, mem_putL] at h
        rcases h with h | rfl
        · obtain ⟨t, h1, h2⟩ := ih.1 h; exact ⟨t, by omega, h2⟩
        · exact ⟨s, by omega, hk, rfl⟩
      · rw [patK_no hk] at h
        obtain ⟨t, h1, h2⟩ := ih.1 h; exact ⟨t, by omega, h2⟩
    · rintro ⟨t, h1, h2, h3⟩
      by_cases hk : ((subK p s p.length).length : Int) = k
      · rw [patK_yes hk, mem_putL]
        by_cases hts : t = s
        · subst hts; exact .inr h3
        · exact .inl (ih.2 ⟨t, by omega, h2, h3⟩)
      · rw [patK_no hk]
        have hts : t ≠ s := fun e => hk (by rw [← e]; exact h2)
        exact ih.2 ⟨t, by omega, h2, h3⟩
theorem patK_asc (p : List Int) (k : Int) : ∀ s, Asc (patK p k s)
  | 0 => List.Pairwise.nil
  | s + 1 => by
    rw [patK]
    split
    · exact asc_putL (patK_asc p k s)
    · exact patK_asc p k s
theorem patsOK_nat {p : List Int} {k : Nat} (hp : isP p = true) (hk : k ≤ p.length) : patsOK p (k : Int) = true := by
  unfold patsOK
  rw [hp, Bool.true_and, decide_eq_true_eq]
  omega
theorem mem_patsR {p x : List Int} {k : Nat} (hp : isP p = true) (hk : k ≤ p.length) : x ∈ patsR p (k : Int) ↔ ∃ s, s.Sublist p ∧ s.length = k ∧ x = patL s := by
  rw [patsR_yes (patsOK_nat hp hk), mem_patK]
  constructor
  · rintro ⟨t, _, h2, h3⟩
    have h := subK_sub p t p.length (Nat.le_refl _)
    rw [List.take_length] at h
    exact ⟨_, h, by omega, h3⟩
  · rintro ⟨s, h1, h2, h3⟩
    obtain ⟨t, ht, h4⟩ := sub_bits p.length s (Nat.le_refl _) (by rw [List.take_length]; exact h1)
    exact ⟨t, ht, by rw [h4]; omega, by rw [h4]; exact h3⟩
theorem patsR_asc (p : List Int) (k : Int) : Asc (patsR p k) := by
  unfold patsR
  split
  · exact patK_asc p k _
  · exact List.Pairwise.nil
theorem pats_ordL {p : List Int} {k : Nat} (hp : isP p = true) (hk : k ≤ p.length) : ordL ((chR p.length k).map (patA p)) ((chR p.length k).map (patA p)).length = patsR p (k : Int) := by
  refine asc_unique (ordL_asc _ _) (patsR_asc _ _) fun x => ?_
  rw [ordL_mem, List.take_length, mem_pats_ch, mem_patsR hp hk]
theorem pats_allP {p : List Int} {k : Nat} (hp : isP p = true) : allP ((chR p.length k).map (patA p)) = true := by
  unfold allP
  rw [List.all_eq_true]
  intro x hx
  obtain ⟨s, h1, _, rfl⟩ := mem_pats_ch.1 hx
  rw [isP_pat]
  exact patOK_yes (Nat.le_trans h1.length_le (isP_le hp)) ((isP_true.1 hp).2.2.sublist h1)
theorem pats_ordR {p : List Int} {k : Nat} (hp : isP p = true) (hk : k ≤ p.length) : ordR ((chR p.length k).map (patA p)) = patsR p (k : Int) := by
  rw [ordR_yes (pats_allP hp), pats_ordL hp hk]

/-! leaving one out -/
theorem sub_cut {s p : List Int} (h : s.Sublist p) : s.length + 1 = p.length → ∃ i, i < p.length ∧ s = cutAt p i := by
  induction h with
  | slnil => intro h; simp at h
  | cons a h ih =>
    intro hl
    simp only [List.length_cons, Nat.add_right_cancel_iff] at hl
    exact ⟨0, by simp, by rw [h.eq_of_length hl]; simp [cutAt]⟩
  | cons_cons a h ih =>
    intro hl
    simp only [List.length_cons, Nat.add_right_cancel_iff] at hl
    obtain ⟨i, hi, rfl⟩ := ih hl
    exact ⟨i + 1, by simpa using hi, by simp [cutAt]⟩
theorem lowK_mem {p x : List Int} {k : Nat} : x ∈ lowK p k ↔ ∃ i, i < k ∧ x = patL (cutAt p i) := by
  unfold lowK
  rw [(foldl_put _ [] List.Pairwise.nil).2.1]
  simp only [List.not_mem_nil, false_or, List.mem_map, List.mem_range]
  exact ⟨fun ⟨i, h1, h2⟩ => ⟨i, h1, h2.symm⟩, fun ⟨i, h1, h2⟩ => ⟨i, h1, h2.symm⟩⟩
theorem lowK_asc (p : List Int) (k : Nat) : Asc (lowK p k) := (foldl_put _ [] List.Pairwise.nil).1
theorem pats_low (p : List Int) : patsR p ((p.length : Int) - 1) = lowR p := by
  cases hp : isP p with
  | false => rw [lowR_no hp, patsR_no (by unfold patsOK; rw [hp]; rfl)]
  | true =>
    rw [lowR_yes hp]
    by_cases h0 : p.length = 0
    · rw [h0, patsR_no (by unfold patsOK; rw [hp, h0]; rfl)]; rfl
    · obtain ⟨m, hm⟩ : ∃ m, p.length = m + 1 := ⟨p.length - 1, by omega⟩
      rw [show ((p.length : Int) - 1) = (m : Int) by omega]
      refine asc_unique (patsR_asc _ _) (lowK_asc _ _) fun x => ?_
      rw [mem_patsR hp (by omega), lowK_mem]
      constructor
      · rintro ⟨s, h1, h2, rfl⟩
        obtain ⟨i, hi, rfl⟩ := sub_cut h1 (by omega)
        exact ⟨i, hi, rfl⟩
      · rintro ⟨i, hi, rfl⟩
        exact ⟨_, cutAt_sub p i, by have := cutAt_len hi; omega, rfl⟩
end Go.Proofs.YtoiipedomgefaaaGreatDoor


/-
  PLAIN: patterns of patterns; the levels of a class, one number added at the end. Nothing here speaks of the program.
-/

namespace Go.Proofs.YtoiipedomgefaaaGreatDoor
set_option maxRecDepth 100000

theorem hasO_occ {p q : List Int} (hp : isP p = true) (hq : isP q = true) : hasO p q = decide (0 < (occR p q).length) := by unfold hasO; rw [occR_yes hp hq]
theorem hasO_iff {p q : List Int} (hp : isP p = true) (hq : isP q = true) : hasO p q = true ↔ ∃ s, s.Sublist p ∧ patL s = q := by
  rw [hasO_occ hp hq, decide_eq_true_eq]
  constructor
  · intro h
    obtain ⟨pl, hpl⟩ := List.exists_mem_of_length_pos h
    have h1 := isOcc_iff.1 (mem_occ.1 hpl)
    exact ⟨nums p pl, nums_sub' h1.2.2.2.1, h1.2.2.2.2⟩
  · rintro ⟨s, hs, rfl⟩
    exact occ_sub hp hs hq
theorem patL_map_sub {s t : List Int} (h : t.Sublist (patL s)) : ∃ t', t'.Sublist s ∧ patL t' = patL t := by
  unfold patL at h
  obtain ⟨t', ht, rfl⟩ := List.sublist_map_iff.1 h
  refine ⟨t', ht, ?_⟩
  refine patL_alike ⟨by simp, fun i j hi hj => ?_⟩
  have e : ∀ k, k < t'.length → at0 (t'.map fun v => 1 + (cnt s v : Int)) k = 1 + (cnt s (at0 t' k) : Int) := fun k hk => at0_of (by rw [List.getElem?_map, at0_some hk]; rfl)
  rw [e i hi, e j hj, cnt_iff (l := s) (ht.subset (at0_mem hi))]
  omega
/-- What occurs in the pattern of a part occurs in the whole. -/
theorem hasO_pat {p s q : List Int} (hp : isP p = true) (hq : isP q = true) (hs : s.Sublist p) (hz : isP (patL s) = true) (h : hasO (patL s) q = true) : hasO p q = true := by
  obtain ⟨t, ht, he⟩ := (hasO_iff hz hq).1 h
  obtain ⟨t', ht', he'⟩ := patL_map_sub ht
  exact (hasO_iff hp hq).2 ⟨t', ht'.trans hs, he'.trans he⟩
theorem hasO_self {p : List Int} (hp : isP p = true) : hasO p p = true := (hasO_iff hp hp).2 ⟨p, List.Sublist.refl _, patL_self hp⟩
theorem hasO_len {p q : List Int} (hp : isP p = true) (hq : isP q = true) (h : hasO p q = true) : q.length ≤ p.length ∧ (q.length = p.length → q = p) := by
  obtain ⟨s, hs, rfl⟩ := (hasO_iff hp hq).1 h
  rw [patL_length]
  refine ⟨hs.length_le, fun e => ?_⟩
  rw [hs.eq_of_length e, patL_self hp]
/-- One number more, at the end. -/
def nxP (z : List Int) (v : Int) : List Int := z.map (up v) ++ [v]
theorem nxP_length (z : List Int) (v : Int) : (nxP z v).length = z.length + 1 := by simp [nxP]
theorem up_lt (v x y : Int) : up v x < up v y ↔ x < y := by unfold up; split <;> split <;> omega
theorem up_ne (v x : Int) : up v x ≠ v := by unfold up; split <;> omega
theorem nx_isP {z : List Int} {v : Int} (hz : isP z = true) (h7 : z.length ≤ 7) (hv : 1 ≤ v ∧ v ≤ (z.length : Int) + 1) : isP (nxP z v) = true := by
  have h := isP_true.1 hz
  refine isP_true.2 ⟨by rw [nxP_length]; omega, fun x hx => ?_, ?_⟩
  · rw [nxP_length]
    unfold nxP at hx
    rcases List.mem_append.1 hx with hx | hx
    · obtain ⟨y, hy, rfl⟩ := List.mem_map.1 hx
      have := h.2.1 y hy
      unfold up
      split <;> omega
    · rw [List.mem_singleton] at hx
      omega
  · unfold nxP
    rw [List.nodup_append]
    refine ⟨?_, by simp, fun a ha b hb e => ?_⟩
    · rw [List.nodup_iff_pairwise_ne, List.pairwise_map]
      exact (List.nodup_iff_pairwise_ne.1 h.2.2).imp fun {a b} hne e => by
        have h1 := up_lt v a b
        have h2 := up_lt v b a
        omega
    · rw [List.mem_singleton] at hb
      subst hb; subst e
      obtain ⟨y, _, hy⟩ := List.mem_map.1 ha
      exact up_ne _ _ hy
theorem nx_pat {z : List Int} (hz : isP z = true) (v : Int) : patL (z.map (up v)) = z := by
  refine (pat_eq_iff hz).2 ⟨by simp, fun i j hi hj => ?_⟩
  rw [List.length_map] at hi hj
  have e : ∀ k, k < z.length → at0 (z.map (up v)) k = up v (at0 z k) := fun k hk => at0_of (by rw [List.getElem?_map, at0_some hk]; rfl)
  rw [e i hi, e j hj, up_lt]
theorem nx_avo {L : List (List Int)} {z : List Int} {v : Int} (hL : ∀ q ∈ L, isP q = true) (hz : isP z = true) (h7 : z.length ≤ 7) (hv : 1 ≤ v ∧ v ≤ (z.length : Int) + 1) (h : avo L z = false) : avo L (nxP z v) = false := by
  have h1 : ¬ ∀ q ∈ L, hasO z q = false := fun e => by rw [avo_yes.2 e] at h; cases h
  have h2 : ∃ q ∈ L, hasO z q = true := by
    apply Classical.byContradiction
    intro hno
    exact h1 fun q hq => by
      cases h3 : hasO z q with
      | false => rfl
      | true => exact (hno ⟨q, hq, h3⟩).elim
  obtain ⟨q, hq, h3⟩ := h2
  have hs : (z.map (up v)).Sublist (nxP z v) := List.sublist_append_left _ _
  refine avo_no hq (hasO_pat (nx_isP hz h7 hv) (hL q hq) hs ?_ ?_)
  · rw [nx_pat hz]; exact hz
  · rw [nx_pat hz]; exact h3
def nxAll (n : Nat) (z : List Int) : List (List Int) := (List.range n).map fun i : Nat => nxP z ((i : Int) + 1)
def lev (L : List (List Int)) : Nat → List (List Int)
  | 0 => [[]]
  | k + 1 => (lev L k).flatMap fun z => (nxAll (k + 1) z).filter (avo L)
theorem perm_nx : ∀ k : Nat, k ≤ 5 → ((permL k).flatMap (nxAll (k + 1))).Perm (permL (k + 1)) := by decide +kernel
theorem permL_mem : ∀ k : Nat, k ≤ 6 → ∀ z ∈ permL k, isP z = true ∧ z.length = k := by decide +kernel
theorem flat_filter {α β : Type} {p : α → Bool} {g : α → List β} : ∀ {l : List α}, (∀ x ∈ l, p x = false → g x = []) → (l.filter p).flatMap g = l.flatMap g
  | [], _ => rfl
  | a :: l, h => by
    have ih := flat_filter (p := p) (g := g) (l := l) fun x hx => h x (by simp [hx])
    rw [List.filter_cons, List.flatMap_cons]
    cases ha : p a with
    | true => rw [if_pos rfl, List.flatMap_cons, ih]
    | false => rw [if_neg (by simp), ih, h a (by simp) ha]; rfl
theorem lev_perm {L : List (List Int)} (hL : ∀ q ∈ L, isP q = true ∧ q.length ≠ 0) : ∀ k : Nat, k ≤ 6 → (lev L k).Perm (clsN L k)
  | 0, _ => by
    have h : avo L [] = true := avo_yes.2 fun q hq => by
      cases h1 : hasO [] q with
      | false => rfl
      | true =>
        have h2 := (hasO_len (by decide) (hL q hq).1 h1).1
        have h3 := (hL q hq).2
        rw [List.length_nil] at h2
        exact absurd (Nat.le_zero.1 h2) h3
    unfold clsN
    rw [show permL 0 = [[]] from rfl, List.filter_cons, if_pos h]
    exact List.Perm.refl _
  | k + 1, hk => by
    have ih := lev_perm hL k (by omega)
    have h1 : (lev L (k + 1)).Perm ((clsN L k).flatMap fun z => (nxAll (k + 1) z).filter (avo L)) := ih.flatMap_right _
    refine h1.trans ?_
    unfold clsN
    rw [flat_filter fun z hz ha => ?_, ← List.filter_flatMap]
    · exact (perm_nx k (by omega)).filter _
    · obtain ⟨h2, h3⟩ := permL_mem k (by omega) z hz
      rw [List.filter_eq_nil_iff]
      intro x hx
      obtain ⟨i, hi, rfl⟩ := List.mem_map.1 hx
      have := List.mem_range.1 hi
      rw [nx_avo (fun q hq => (hL q hq).1) h2 (by omega) (by omega) ha]
      simp
theorem lev_len {L : List (List Int)} (h : basis L = true) {k : Nat} (hk : k ≤ 6) : (lev L k).length = (clsN L k).length := (lev_perm (basis_isP h) k hk).length_eq
theorem lev_rows {L : List (List Int)} (h : basis L = true) {k : Nat} (hk : k ≤ 6) : ∀ z ∈ lev L k, isP z = true ∧ z.length = k := fun z hz => by
  have h1 := (lev_perm (basis_isP h) k hk).subset hz
  unfold clsN at h1
  exact permL_mem k hk z (List.mem_filter.1 h1).1
theorem lev_small {L : List (List Int)} (h : basis L = true) {k : Nat} (hk : k ≤ 6) : (lev L k).length ≤ 720 := by
  rw [lev_len h hk]
  exact Nat.le_trans (List.length_filter_le _ _) (permL_small k hk).1
end Go.Proofs.YtoiipedomgefaaaGreatDoor


/-
  spec.l7Find, spec.OccurrencesOf, spec.CountPattern, spec.HasPattern, by their contracts.
-/

namespace Go.Proofs.YtoiipedomgefaaaGreatDoor
set_option maxRecDepth 100000
open Go.RowKit

theorem extK_len {p q : List Int} {m : Nat} {head : List Int} (ih : ∀ x, (extL p q m (head ++ [x])).length ≤ 2 ^ (p.length - x.toNat)) : ∀ j, j ≤ p.length - lastP head → (extK p q m head j).length + 2 ^ (p.length - lastP head - j) ≤ 2 ^ (p.length - lastP head)
  | 0, _ => by rw [extK_zero]; simp
  | j + 1, hj => by
    have h1 := extK_len ih j (by omega)
    have e : p.length - lastP head - j = (p.length - lastP head - (j + 1)) + 1 := by omega
    rw [e, Nat.pow_succ] at h1
    cases hf : fitL p q (head ++ [((lastP head + j + 1 : Nat) : Int)]) with
    | false => rw [extK_no hf]; omega
    | true =>
      have h2 := ih ((lastP head + j + 1 : Nat) : Int)
      rw [show p.length - ((lastP head + j + 1 : Nat) : Int).toNat = p.length - lastP head - (j + 1) by omega] at h2
      rw [extK_yes hf, List.length_append]
      omega
theorem extL_size {p q : List Int} : ∀ (m : Nat) (head : List Int), (extL p q m head).length ≤ 2 ^ (p.length - lastP head)
  | 0, head => by rw [extL, List.length_singleton]; exact Nat.one_le_two_pow
  | m + 1, head => by
    have h := extK_len (p := p) (q := q) (m := m) (head := head) (fun x => by
      have := extL_size (p := p) (q := q) m (head ++ [x])
      rwa [lastP_snoc] at this) (p.length - lastP head) (Nat.le_refl _)
    rw [extK_all] at h
    exact Nat.le_trans (Nat.le_add_right _ _) h
theorem extK_mono {p q : List Int} {m : Nat} {head : List Int} (j : Nat) : (extK p q m head j).length ≤ (extK p q m head (j + 1)).length := by
  cases hf : fitL p q (head ++ [((lastP head + j + 1 : Nat) : Int)]) with
  | false => rw [extK_no hf]; exact Nat.le_refl _
  | true => rw [extK_yes hf, List.length_append]; omega
theorem extK_le {p q : List Int} {m : Nat} {head : List Int} {j : Nat} (k : Nat) : (extK p q m head j).length ≤ (extK p q m head (j + k)).length := by
  induction k with
  | zero => exact Nat.le_refl _
  | succ k ih => exact Nat.le_trans ih (extK_mono _)
theorem occ_size (p q : List Int) (hp : isP p = true) : (occR p q).length ≤ 256 := by
  have h8 := isP_le hp
  unfold occR
  split
  · have := extL_size (p := p) (q := q) q.length []
    rw [lastP_nil] at this
    exact Nat.le_trans this (Nat.pow_le_pow_right (n := 2) (by decide) (show p.length - 0 ≤ 8 by omega))
  · simp

/-- What l7Find leaves: the list with more rows, of which none but head's own is older than the call. -/
def FindEnds (w : World) (B : Nat) (vs : List Value) (zss : List (List Int)) (hv : Value) (L : List (List Int)) (e : Ending) (w' : World) : Prop :=
  ∃ v' us, e = .returned v' ∧ w'.ownsRow B 36 1 v' (zss.length + L.length) (vs ++ us) ∧ Inner w' B (vs ++ us) (zss ++ L) ∧ (∀ x ∈ us, x = hv ∨ Since w.heap.size x) ∧ Below B w w' ∧ KeepI w w'

set_option maxHeartbeats 1600000 in
theorem l7find_any : ∀ (m : Nat) (A A' : Option Addr) (n c Bp n' c' Bq B : Nat) (p q : List Int) (Ah : Option Addr) (nh ch : Nat) (head : List Int) (v : Value) (vs : List Value) (zss : List (List Int)) (w : World)
    (_ : Arg w Bp A n c p) (_ : Arg w Bq A' n' c' q) (_ : Bp ≤ B) (_ : Bq ≤ B) (_ : B ≤ w.heap.size) (_ : isP p = true) (_ : isP q = true) (_ : head.length + m = q.length) (_ : PlOK p.length head) (_ : Ints w B (.slice Ah nh ch) head)
    (_ : w.ownsRow B 36 1 v zss.length vs) (_ : Inner w B vs zss) (_ : ∀ x ∈ vs, Away x (.slice Ah nh ch)) (_ : zss.length + (extL p q m head).length ≤ 1048576),
    Calls Tryz.prog 126 #[.slice A n c, .slice A' n' c', .slice Ah nh ch, v] w (FindEnds w B vs zss (.slice Ah nh ch) (extL p q m head)) := by
  intro m
  induction m with
  | zero =>
    intro A A' n c Bp n' c' Bq B p q Ah nh ch head v vs zss w h h' hBp hBq hB hp hq hm hP hh hown hin haw hlen
    obtain ⟨i0, hi, hz0, hz1, hz2⟩ := info_parts rowsInfo
    have hl' := h'.len
    have hnh := hh.len
    have heq : (nh : Int) = (n' : Int) := by omega
    obtain ⟨Av, cv, rfl, _⟩ := Reads.of_own hown
    rw [extL, List.length_singleton] at hlen
    rw [extL]
    have HH := hide (And.intro hin (And.intro haw hh))
    have HO := hide hown
    clear h h' hp hq hP hm hl' hin haw hh hnh
    go_enter Tryz.func126, Tryz.ntmps126
    go_wp2_with (first
      | (at_builtin; refine wpList_append_one rfl (.tmp 17) (.tmp 19) 24 rfl B 36 i0 (.slice none 0 0) 24 Tryz.underlying24 hi hz0 hz1 hz2 rfl w w _ _ _ rfl hown (.slice Ah nh ch) rfl rfl rfl (by omega) (by unfold maxLen; omega) (Below.refl _ _) hB ?_))
    intro v2 w2 hown2 hb2 hg2
    obtain ⟨hin, haw, hh⟩ := unhide HH
    have hk := KeepI.of_grown (unhide HO) hg2
    have hin2 := (hin.keepI hk).push (hh.keepI hk) haw
    clear hg2 hin haw hh
    go_wp2
    go_ret
    exact ⟨v2, [.slice Ah nh ch], rfl, hown2, hin2, fun x hx => .inl (List.mem_singleton.1 hx), hb2, hk⟩
  | succ m ih =>
    intro A A' n c Bp n' c' Bq B p q Ah nh ch head v vs zss w h h' hBp hBq hB hp hq hm hP hh hown hin haw hlen
    obtain ⟨i0, hi, hz0, hz1, hz2⟩ := info_parts intInfo
    have hl := h.len
    have hl' := h'.len
    have hnh := hh.len
    have h8 := isP_le hp
    have hq8 := isP_le hq
    have hne : ¬ (nh : Int) = (n' : Int) := by omega
    have hnh8 : nh ≤ 8 := by omega
    have hn8 : n ≤ 8 := by omega
    have hlast := lastP_le hP
    obtain ⟨Av, cv, rfl, _⟩ := Reads.of_own hown
    have hu0 := hh.until_
    have HX := hide (fun (j : Nat) (hj : j < p.length - lastP head) => show zss.length + (extK p q m head (j + 1)).length ≤ 1048576 from by
      have := extK_le (p := p) (q := q) (m := m) (head := head) (j := j + 1) (p.length - lastP head - (j + 1))
      rw [show j + 1 + (p.length - lastP head - (j + 1)) = p.length - lastP head by omega, extK_all] at this
      omega)
    have HC : Hid (Ints w B (.slice Ah nh ch) head ∧ w.ownsRow B 36 1 (.slice Av zss.length cv) (zss.length + (extK p q m head 0).length) (vs ++ []) ∧ Inner w B (vs ++ []) (zss ++ extK p q m head 0) ∧ (∀ x ∈ ([] : List Value), Since w.heap.size x) ∧ Below B w w ∧ KeepI w w) :=
      hide ⟨hh, by rw [extK_zero, List.append_nil]; exact hown, by rw [extK_zero, List.append_nil, List.append_nil]; exact hin, fun x hx => by simp at hx, Below.refl _ _, KeepI.refl _⟩
    have HA := hide (And.intro haw (And.intro hP (And.intro hp hq)))
    obtain ⟨f, hf⟩ : ∃ f, lastP head = f := ⟨_, rfl⟩
    have hf0 : (∀ k, nh = k + 1 → ∃ ad, Ah = some ad ∧ w.cell? (ad.add k) = some (.int .i64 (f : Int))) ∧ (nh = 0 → f = 0) := by
      constructor
      · intro k hk
        obtain ⟨ad, u, rfl, _, hu, hc⟩ := hh.reads.at_ (show k < nh by omega)
        obtain ⟨z, hz, rfl⟩ := i64_at hu
        have hr := hP.rng (i := k) (by omega)
        rw [at0_of hz] at hr
        rw [lastP_at (by omega), show head.length - 1 = k by omega, at0_of hz] at hf
        exact ⟨ad, rfl, by rw [hc, show z = (f : Int) by omega]⟩
      · intro h0
        have : head = [] := List.eq_nil_of_length_eq_zero (by omega)
        subst this
        exact hf.symm
    have HF := hide hf
    have HL := hide hlen
    have HM := hide (And.intro hm hnh)
    rw [hf] at hlast
    clear hh hown hin haw hP hp hq hlen hf hm hnh
    cases nh with
    | zero =>
      have HZ := hide (hf0.2 rfl)
      have e0 : ((0 : Int) == (n' : Int)) = false := by rw [beq_eq_false_iff_ne]; omega
      clear hf0
      go_enter Tryz.func126, Tryz.ntmps126
      go_wp2
      go_loopw [3, 10, 11] (fun o i _ wr => ∃ (j : Nat) (us : List Value), j ≤ p.length - f ∧ i = .int .i64 ((f + j + 1 : Nat) : Int) ∧ Hid (Ints wr B (.slice Ah 0 ch) head ∧ wr.ownsRow B 36 1 o (zss.length + (extK p q m head j).length) (vs ++ us) ∧ Inner wr B (vs ++ us) (zss ++ extK p q m head j) ∧ (∀ x ∈ us, Since w.heap.size x) ∧ Below B w wr ∧ KeepI w wr)) (fun _ i _ _ => (p.length + 1 - (intOf i).toNat))
      case atStart => exact ⟨0, [], Nat.zero_le _, by rw [unhide HZ]; rfl, HC⟩
      case round =>
        obtain ⟨j, us, hj, rfl, HCr⟩ := hrel
        clear HC
        obtain ⟨Ao, co, rfl, _⟩ := Reads.of_own (unhide HCr).2.1
        by_cases hlt : j < p.length - f
        · have hst := own0 wr wr.heap.size (Nat.le_refl _)
          have hal := (Below.refl wr.heap.size wr).alloc (Nat.le_refl _) (.cells #[] 3)
          have hArg := ((unhide HCr).1.arg (by omega) (unhide HCr).1.cap (fun z hz => by have := (unhide HA).2.1.1 z hz; omega)).below hal
          have hBw : B ≤ wr.heap.size := Nat.le_trans hB (unhide HCr).2.2.2.2.1.size
          go_wp2_with (first
            | (at_builtin; refine wpList_append_arg rfl (.tmp 38) (.tmp 39) rfl wr.heap.size _ 0 (0) ch _ _ Ah [] head rfl rfl hst hArg (by omega) hal (by simp) ?_))
          intro v5 w5 hown5 hb5 hg5
          have hs5 := hb5.size
          clear hg5 hst hal hArg
          go_wp2_with (first
            | (at_builtin; refine wpList_append_one rfl (.tmp 40) (.tmp 42) 36 rfl wr.heap.size 3 i0 (.int .i64 0) 8 Tryz.underlying36 hi hz0 hz1 hz2 rfl wr w5 _ _ _ rfl hown5 (.int .i64 ((f + j + 1 : Nat) : Int)) rfl rfl rfl (by omega) (by unfold maxLen; omega) hb5 hs5 ?_))
          intro v6 w6 hown6 hb6 hg6
          rw [i64_snoc] at hown6
          clear hg6 hown5 hb5 hs5
          have hI6 : Ints w6 wr.heap.size v6 (head ++ [((f + j + 1 : Nat) : Int)]) := Ints.of_own hown6
          obtain ⟨A6, c6, rfl, _⟩ := Reads.of_own hown6
          obtain ⟨x1, x2, x3, x4, x5, x6⟩ := unhide HCr
          have y5 : Below B w w6 := x5.trans (hb6.mono hBw)
          have hP6 : PlOK p.length (head ++ [((f + j + 1 : Nat) : Int)]) := PlOK.snoc.2 ⟨(unhide HA).2.1, by rw [unhide HF]; omega, by omega⟩
          have hA6 : Arg w6 w6.heap.size A6 (0 + 1) c6 (head ++ [((f + j + 1 : Nat) : Int)]) := hI6.arg (by omega) hI6.cap (fun z hz => by have := hP6.1 z hz; omega)
          obtain ⟨b, hb⟩ : ∃ b, fitL p q (head ++ [((f + j + 1 : Nat) : Int)]) = b := ⟨_, rfl⟩
          have H1 := hide (l7fits_any A A' A6 n c Bp n' c' Bq _ c6 _ p q _ b hb w6 (h.stay y5 hBp) (h'.stay y5 hBq) hA6 hP6 (by omega) (by have := (unhide HM).1; have := (unhide HM).2; omega))
          have hsn := hI6.since
          have haw6 : ∀ x ∈ vs ++ us, Away x (.slice A6 (0 + 1) c6) := x3.away_new hsn (Nat.le_refl _)
          have hws : w.heap.size ≤ wr.heap.size := x5.size
          have HEX := hide (unhide HX j (by rw [unhide HF]; omega))
          cases b with
          | false =>
            have HE : Hid (extK p q m head (j + 1) = extK p q m head j) := hide (extK_no (by rw [unhide HF]; exact hb))
            have HC6 : Hid (Ints w6 B (.slice Ah 0 ch) head ∧ w6.ownsRow B 36 1 (.slice Ao (zss.length + (extK p q m head j).length) co) (zss.length + (extK p q m head j).length) (vs ++ us) ∧ Inner w6 B (vs ++ us) (zss ++ extK p q m head j) ∧ (∀ x ∈ us, Since w.heap.size x) ∧ Below B w w6 ∧ KeepI w w6) :=
              hide ⟨x1.below hb6, own_below x2 hb6, x3.keepI (KeepI.of_below hb6), x4, y5, x6.trans (KeepI.of_below hb6)⟩
            clear hI6 hown6 hb6 x1 x2 x3 x4 x5 x6 y5 hP6 hA6 hb hsn haw6 HCr HEX
            go_wp2_with fail
            refine (unhide H1).mono ?_
            rintro e w7 ⟨rfl, hd⟩
            have HC7 : Hid (Ints w7 B (.slice Ah 0 ch) head ∧ w7.ownsRow B 36 1 (.slice Ao (zss.length + (extK p q m head j).length) co) (zss.length + (extK p q m head (j + 1)).length) (vs ++ us) ∧ Inner w7 B (vs ++ us) (zss ++ extK p q m head (j + 1)) ∧ (∀ x ∈ us, Since w.heap.size x) ∧ Below B w w7 ∧ KeepI w w7) := hide (by
              obtain ⟨x1, x2, x3, x4, x5, x6⟩ := unhide HC6
              rw [unhide HE]
              exact ⟨x1.below (hd.below _), own_below x2 (hd.below _), x3.keepI hd.keepI, x4, x5.trans (hd.below _), x6.trans hd.keepI⟩)
            clear H1 hd HC6 HE
            go_wp2
            go_roundw
            case rel => exact ⟨j + 1, us, by omega, by go_num, HC7⟩
            case measure => simp [intOf]; omega
          | true =>
            have HE : Hid (extK p q m head (j + 1) = extK p q m head j ++ extL p q m (head ++ [((f + j + 1 : Nat) : Int)])) := hide (by have := extK_yes (p := p) (q := q) (m := m) (head := head) (j := j) (by rw [unhide HF]; exact hb); rwa [unhide HF] at this)
            have H2 := hide (fun (w7 : World) (hd : Below w6.heap.size w6 w7) => ih A A' n c Bp n' c' Bq B p q A6 _ c6 (head ++ [((f + j + 1 : Nat) : Int)]) (.slice Ao (zss.length + (extK p q m head j).length) co) (vs ++ us) (zss ++ extK p q m head j) w7 (h.stay (y5.trans (hd.mono (Nat.le_trans hBw hb6.size))) hBp) (h'.stay (y5.trans (hd.mono (Nat.le_trans hBw hb6.size))) hBq) hBp hBq (Nat.le_trans hBw (Nat.le_trans hb6.size hd.size)) (unhide HA).2.2.1 (unhide HA).2.2.2 (by have := (unhide HM).1; rw [List.length_append, List.length_singleton]; omega) hP6 ((hI6.below hd).low hBw)
              (by rw [List.length_append]; exact own_below (own_below x2 hb6) hd) ((x3.keepI (KeepI.of_below hb6)).keepI (KeepI.of_below hd)) haw6 (by have := unhide HEX; rw [unhide HE, List.length_append] at this; rw [List.length_append]; omega))
            have HC6 := hide (And.intro (x1.below hb6) (And.intro x4 (And.intro y5 (x6.trans (KeepI.of_below hb6)))))
            have hb6s := hb6.size
            clear hI6 hown6 hb6 x1 x2 x3 x4 x5 x6 y5 hP6 hA6 hb haw6 HCr HEX
            go_wp2_with fail
            refine (unhide H1).mono ?_
            rintro e w7 ⟨rfl, hd⟩
            have H3 := hide (unhide H2 w7 (hd.below _))
            clear H1 H2
            go_wp2_with fail
            refine (unhide H3).mono ?_
            rintro e w8 ⟨v8, us2, rfl, o8, i8, hu8, hb8, hk8⟩
            have HC8 : Hid (Ints w8 B (.slice Ah 0 ch) head ∧ w8.ownsRow B 36 1 v8 (zss.length + (extK p q m head (j + 1)).length) (vs ++ (us ++ us2)) ∧ Inner w8 B (vs ++ (us ++ us2)) (zss ++ extK p q m head (j + 1)) ∧ (∀ x ∈ us ++ us2, Since w.heap.size x) ∧ Below B w w8 ∧ KeepI w w8) := hide (by
              obtain ⟨x1, x4, x5, x6⟩ := unhide HC6
              rw [List.append_assoc] at o8 i8
              rw [List.append_assoc, ← unhide HE] at i8
              rw [List.length_append, Nat.add_assoc, ← List.length_append, ← unhide HE] at o8
              refine ⟨(x1.below (hd.below _)).keepI hk8, o8, i8, fun x hx => ?_, (x5.trans (hd.below _)).trans hb8, (x6.trans hd.keepI).trans hk8⟩
              rcases List.mem_append.1 hx with hx | hx
              · exact x4 x hx
              · rcases hu8 x hx with rfl | hx
                · exact hsn.mono hws
                · exact hx.mono (by have := hd.size; omega))
            clear H3 o8 i8 hu8 hb8 hk8 hd HC6 hsn HE
            go_wp2
            go_roundw
            case rel => exact ⟨j + 1, us ++ us2, by omega, by go_num, HC8⟩
            case measure => simp [intOf]; omega
        · obtain rfl : j = p.length - f := by omega
          obtain ⟨x1, x2, x3, x4, x5, x6⟩ := unhide HCr
          have hE : extK p q m head (p.length - f) = extL p q (m + 1) head := by have := extK_all p q m head; rwa [unhide HF] at this
          have HR : Hid (wr.ownsRow B 36 1 (.slice Ao (zss.length + (extK p q m head (p.length - f)).length) co) (zss.length + (extL p q (m + 1) head).length) (vs ++ us) ∧ Inner wr B (vs ++ us) (zss ++ extL p q (m + 1) head) ∧ (∀ x ∈ us, Since w.heap.size x) ∧ Below B w wr ∧ KeepI w wr) :=
            hide ⟨by rw [← hE]; exact x2, by rw [← hE]; exact x3, x4, x5, x6⟩
          clear x1 x2 x3 x4 x5 x6 HCr hE
          go_wp2
          go_ret
          obtain ⟨x2, x3, x4, x5, x6⟩ := unhide HR
          exact ⟨_, us, rfl, x2, x3, fun x hx => .inr (x4 x hx), x5, x6⟩
    | succ nh =>
      obtain ⟨adh, rfl, hcl⟩ := hf0.1 nh rfl
      have hki : ((nh + 1 : Nat) : Int) - 1 = (nh : Int) := by omega
      have e0 : ((nh : Int) + 1 == (n' : Int)) = false := by rw [beq_eq_false_iff_ne]; omega
      clear hf0
      go_enter Tryz.func126, Tryz.ntmps126
      go_wp2
      clear hcl hki
      go_loopw [3, 10, 11] (fun o i _ wr => ∃ (j : Nat) (us : List Value), j ≤ p.length - f ∧ i = .int .i64 ((f + j + 1 : Nat) : Int) ∧ Hid (Ints wr B (.slice (some adh) (nh + 1) ch) head ∧ wr.ownsRow B 36 1 o (zss.length + (extK p q m head j).length) (vs ++ us) ∧ Inner wr B (vs ++ us) (zss ++ extK p q m head j) ∧ (∀ x ∈ us, Since w.heap.size x) ∧ Below B w wr ∧ KeepI w wr)) (fun _ i _ _ => (p.length + 1 - (intOf i).toNat))
      case atStart => exact ⟨0, [], Nat.zero_le _, by go_num, HC⟩
      case round =>
        obtain ⟨j, us, hj, rfl, HCr⟩ := hrel
        clear HC
        obtain ⟨Ao, co, rfl, _⟩ := Reads.of_own (unhide HCr).2.1
        by_cases hlt : j < p.length - f
        · have hst := own0 wr wr.heap.size (Nat.le_refl _)
          have hal := (Below.refl wr.heap.size wr).alloc (Nat.le_refl _) (.cells #[] 3)
          have hArg := ((unhide HCr).1.arg (by omega) (unhide HCr).1.cap (fun z hz => by have := (unhide HA).2.1.1 z hz; omega)).below hal
          have hBw : B ≤ wr.heap.size := Nat.le_trans hB (unhide HCr).2.2.2.2.1.size
          go_wp2_with (first
            | (at_builtin; refine wpList_append_arg rfl (.tmp 38) (.tmp 39) rfl wr.heap.size _ 0 ((nh + 1)) ch _ _ (some adh) [] head rfl rfl hst hArg (by omega) hal (by simp) ?_))
          intro v5 w5 hown5 hb5 hg5
          have hs5 := hb5.size
          clear hg5 hst hal hArg
          go_wp2_with (first
            | (at_builtin; refine wpList_append_one rfl (.tmp 40) (.tmp 42) 36 rfl wr.heap.size 3 i0 (.int .i64 0) 8 Tryz.underlying36 hi hz0 hz1 hz2 rfl wr w5 _ _ _ rfl hown5 (.int .i64 ((f + j + 1 : Nat) : Int)) rfl rfl rfl (by omega) (by unfold maxLen; omega) hb5 hs5 ?_))
          intro v6 w6 hown6 hb6 hg6
          rw [i64_snoc] at hown6
          clear hg6 hown5 hb5 hs5
          have hI6 : Ints w6 wr.heap.size v6 (head ++ [((f + j + 1 : Nat) : Int)]) := Ints.of_own hown6
          obtain ⟨A6, c6, rfl, _⟩ := Reads.of_own hown6
          obtain ⟨x1, x2, x3, x4, x5, x6⟩ := unhide HCr
          have y5 : Below B w w6 := x5.trans (hb6.mono hBw)
          have hP6 : PlOK p.length (head ++ [((f + j + 1 : Nat) : Int)]) := PlOK.snoc.2 ⟨(unhide HA).2.1, by rw [unhide HF]; omega, by omega⟩
          have hA6 : Arg w6 w6.heap.size A6 ((nh + 1) + 1) c6 (head ++ [((f + j + 1 : Nat) : Int)]) := hI6.arg (by omega) hI6.cap (fun z hz => by have := hP6.1 z hz; omega)
          obtain ⟨b, hb⟩ : ∃ b, fitL p q (head ++ [((f + j + 1 : Nat) : Int)]) = b := ⟨_, rfl⟩
          have H1 := hide (l7fits_any A A' A6 n c Bp n' c' Bq _ c6 _ p q _ b hb w6 (h.stay y5 hBp) (h'.stay y5 hBq) hA6 hP6 (by omega) (by have := (unhide HM).1; have := (unhide HM).2; omega))
          have hsn := hI6.since
          have haw6 : ∀ x ∈ vs ++ us, Away x (.slice A6 ((nh + 1) + 1) c6) := x3.away_new hsn (Nat.le_refl _)
          have hws : w.heap.size ≤ wr.heap.size := x5.size
          have HEX := hide (unhide HX j (by rw [unhide HF]; omega))
          cases b with
          | false =>
            have HE : Hid (extK p q m head (j + 1) = extK p q m head j) := hide (extK_no (by rw [unhide HF]; exact hb))
            have HC6 : Hid (Ints w6 B (.slice (some adh) (nh + 1) ch) head ∧ w6.ownsRow B 36 1 (.slice Ao (zss.length + (extK p q m head j).length) co) (zss.length + (extK p q m head j).length) (vs ++ us) ∧ Inner w6 B (vs ++ us) (zss ++ extK p q m head j) ∧ (∀ x ∈ us, Since w.heap.size x) ∧ Below B w w6 ∧ KeepI w w6) :=
              hide ⟨x1.below hb6, own_below x2 hb6, x3.keepI (KeepI.of_below hb6), x4, y5, x6.trans (KeepI.of_below hb6)⟩
            clear hI6 hown6 hb6 x1 x2 x3 x4 x5 x6 y5 hP6 hA6 hb hsn haw6 HCr HEX
            go_wp2_with fail
            refine (unhide H1).mono ?_
            rintro e w7 ⟨rfl, hd⟩
            have HC7 : Hid (Ints w7 B (.slice (some adh) (nh + 1) ch) head ∧ w7.ownsRow B 36 1 (.slice Ao (zss.length + (extK p q m head j).length) co) (zss.length + (extK p q m head (j + 1)).length) (vs ++ us) ∧ Inner w7 B (vs ++ us) (zss ++ extK p q m head (j + 1)) ∧ (∀ x ∈ us, Since w.heap.size x) ∧ Below B w w7 ∧ KeepI w w7) := hide (by
              obtain ⟨x1, x2, x3, x4, x5, x6⟩ := unhide HC6
              rw [unhide HE]
              exact ⟨x1.below (hd.below _), own_below x2 (hd.below _), x3.keepI hd.keepI, x4, x5.trans (hd.below _), x6.trans hd.keepI⟩)
            clear H1 hd HC6 HE
            go_wp2
            go_roundw
            case rel => exact ⟨j + 1, us, by omega, by go_num, HC7⟩
            case measure => simp [intOf]; omega
          | true =>
            have HE : Hid (extK p q m head (j + 1) = extK p q m head j ++ extL p q m (head ++ [((f + j + 1 : Nat) : Int)])) := hide (by have := extK_yes (p := p) (q := q) (m := m) (head := head) (j := j) (by rw [unhide HF]; exact hb); rwa [unhide HF] at this)
            have H2 := hide (fun (w7 : World) (hd : Below w6.heap.size w6 w7) => ih A A' n c Bp n' c' Bq B p q A6 _ c6 (head ++ [((f + j + 1 : Nat) : Int)]) (.slice Ao (zss.length + (extK p q m head j).length) co) (vs ++ us) (zss ++ extK p q m head j) w7 (h.stay (y5.trans (hd.mono (Nat.le_trans hBw hb6.size))) hBp) (h'.stay (y5.trans (hd.mono (Nat.le_trans hBw hb6.size))) hBq) hBp hBq (Nat.le_trans hBw (Nat.le_trans hb6.size hd.size)) (unhide HA).2.2.1 (unhide HA).2.2.2 (by have := (unhide HM).1; rw [List.length_append, List.length_singleton]; omega) hP6 ((hI6.below hd).low hBw)
              (by rw [List.length_append]; exact own_below (own_below x2 hb6) hd) ((x3.keepI (KeepI.of_below hb6)).keepI (KeepI.of_below hd)) haw6 (by have := unhide HEX; rw [unhide HE, List.length_append] at this; rw [List.length_append]; omega))
            have HC6 := hide (And.intro (x1.below hb6) (And.intro x4 (And.intro y5 (x6.trans (KeepI.of_below hb6)))))
            have hb6s := hb6.size
            clear hI6 hown6 hb6 x1 x2 x3 x4 x5 x6 y5 hP6 hA6 hb haw6 HCr HEX
            go_wp2_with fail
            refine (unhide H1).mono ?_
            rintro e w7 ⟨rfl, hd⟩
            have H3 := hide (unhide H2 w7 (hd.below _))
            clear H1 H2
            go_wp2_with fail
            refine (unhide H3).mono ?_
            rintro e w8 ⟨v8, us2, rfl, o8, i8, hu8, hb8, hk8⟩
            have HC8 : Hid (Ints w8 B (.slice (some adh) (nh + 1) ch) head ∧ w8.ownsRow B 36 1 v8 (zss.length + (extK p q m head (j + 1)).length) (vs ++ (us ++ us2)) ∧ Inner w8 B (vs ++ (us ++ us2)) (zss ++ extK p q m head (j + 1)) ∧ (∀ x ∈ us ++ us2, Since w.heap.size x) ∧ Below B w w8 ∧ KeepI w w8) := hide (by
              obtain ⟨x1, x4, x5, x6⟩ := unhide HC6
              rw [List.append_assoc] at o8 i8
              rw [List.append_assoc, ← unhide HE] at i8
              rw [List.length_append, Nat.add_assoc, ← List.length_append, ← unhide HE] at o8
              refine ⟨(x1.below (hd.below _)).keepI hk8, o8, i8, fun x hx => ?_, (x5.trans (hd.below _)).trans hb8, (x6.trans hd.keepI).trans hk8⟩
              rcases List.mem_append.1 hx with hx | hx
              · exact x4 x hx
              · rcases hu8 x hx with rfl | hx
                · exact hsn.mono hws
                · exact hx.mono (by have := hd.size; omega))
            clear H3 o8 i8 hu8 hb8 hk8 hd HC6 hsn HE
            go_wp2
            go_roundw
            case rel => exact ⟨j + 1, us ++ us2, by omega, by go_num, HC8⟩
            case measure => simp [intOf]; omega
        · obtain rfl : j = p.length - f := by omega
          obtain ⟨x1, x2, x3, x4, x5, x6⟩ := unhide HCr
          have hE : extK p q m head (p.length - f) = extL p q (m + 1) head := by have := extK_all p q m head; rwa [unhide HF] at this
          have HR : Hid (wr.ownsRow B 36 1 (.slice Ao (zss.length + (extK p q m head (p.length - f)).length) co) (zss.length + (extL p q (m + 1) head).length) (vs ++ us) ∧ Inner wr B (vs ++ us) (zss ++ extL p q (m + 1) head) ∧ (∀ x ∈ us, Since w.heap.size x) ∧ Below B w wr ∧ KeepI w wr) :=
            hide ⟨by rw [← hE]; exact x2, by rw [← hE]; exact x3, x4, x5, x6⟩
          clear x1 x2 x3 x4 x5 x6 HCr hE
          go_wp2
          go_ret
          obtain ⟨x2, x3, x4, x5, x6⟩ := unhide HR
          exact ⟨_, us, rfl, x2, x3, fun x hx => .inr (x4 x hx), x5, x6⟩
end Go.Proofs.YtoiipedomgefaaaGreatDoor
