/-
  Words and contracts that the laws lean on, bundled: Filled, Push, Fresh, DrawL, DrawK, StatM, StatW, PermsOf, Fill.
-/
import Derived.Test.YtcnmnpbipencmaaB4
import Derived.Test.YtcnmnpbipencmaaB2
import Derived.Maps.AppendAt
import Derived.IntWalk
import Derived.Test.YtcnmnpbipencmaaB3
import Derived.Test.YtcnmnpbipencmaaB1

/-
  WORDS FOR A LIST OF ROWS THAT IS FILLED PLACE BY PLACE. Nothing here speaks of a function of the program.
-/

namespace Go.Proofs.Ytcnmnpbipencmaa
set_option maxRecDepth 100000
open Go.RowKit

/-! a list of rows that is filled place by place -/
def fillS (zss : List (List Int)) (k : Nat) : List (List Int) := zss.take k ++ List.replicate (zss.length - k) []
theorem fillS_zero (zss : List (List Int)) : fillS zss 0 = List.replicate zss.length [] := by simp [fillS]
theorem fillS_length (zss : List (List Int)) (k : Nat) (h : k ≤ zss.length) : (fillS zss k).length = zss.length := by simp [fillS]; omega
theorem fillS_all (zss : List (List Int)) : fillS zss zss.length = zss := by simp [fillS]
theorem fillS_set {zss : List (List Int)} {k : Nat} {z : List Int} (h : zss[k]? = some z) : (fillS zss k).set k z = fillS zss (k + 1) := by
  have hk : k < zss.length := (List.getElem?_eq_some_iff.1 h).1
  unfold fillS
  rw [List.set_append_right _ _ (by rw [List.length_take]; omega), List.length_take, Nat.min_eq_left (by omega), Nat.sub_self, show zss.length - k = (zss.length - (k + 1)) + 1 by omega, List.replicate_succ, List.set_cons_zero, List.take_add_one, h]
  simp
theorem Inner.zero (w : World) (B n : Nat) : Inner w B (List.replicate n (.slice none 0 0)) (List.replicate n []) := by
  refine ⟨by simp, fun i u zs hu hz => ?_, ?_⟩
  · obtain ⟨_, rfl⟩ := List.mem_replicate.1 (List.mem_of_getElem? hu)
    obtain ⟨_, rfl⟩ := List.mem_replicate.1 (List.mem_of_getElem? hz)
    exact Ints.nil w B
  · refine List.pairwise_of_forall_mem_list fun a ha b _ => ?_
    obtain ⟨_, rfl⟩ := List.mem_replicate.1 ha
    exact .inl rfl
theorem Inner.set {w : World} {B : Nat} {vs : List Value} {zss : List (List Int)} {u : Value} {z : List Int} (h : Inner w B vs zss) (k : Nat) (hu : Ints w B u z) (ha : ∀ x ∈ vs, Away x u) : Inner w B (vs.set k u) (zss.set k z) := by
  have hl := h.len
  refine ⟨by simp [hl], fun i x ys hx hy => ?_, ?_⟩
  · rw [List.getElem?_set] at hx hy
    by_cases e : k = i
    · subst e
      rw [if_pos rfl] at hx hy
      by_cases hk : k < vs.length
      · rw [if_pos hk] at hx
        rw [if_pos (by omega)] at hy
        cases hx; cases hy
        exact hu
      · rw [if_neg hk] at hx
        cases hx
    · rw [if_neg e] at hx hy
      exact h.row i x ys hx hy
  · rw [List.pairwise_iff_getElem]
    intro i j hi hj hij
    rw [List.length_set] at hi hj
    rw [List.getElem_set, List.getElem_set]
    by_cases e1 : k = i
    · rw [if_pos e1, if_neg (by omega)]
      exact (ha _ (List.getElem_mem hj)).symm
    · rw [if_neg e1]
      by_cases e2 : k = j
      · rw [if_pos e2]
        exact ha _ (List.getElem_mem hi)
      · rw [if_neg e2]
        exact List.pairwise_iff_getElem.1 h.away i j hi hj hij
/-- A row of rows that is filled up to k. -/
structure Filled (w wr : World) (g n : Nat) (zss : List (List Int)) (k : Nat) : Prop where
  below : Below w.heap.size w wr
  rows : ∃ vs, wr.ownsRow w.heap.size 24 1 (.slice (some ⟨g, 0, none⟩) n n) n vs ∧ Inner wr w.heap.size vs (fillS zss k)
theorem made_rows (n : Nat) : (madeCells (Value.slice none 0 0).cells (n * 1)).toList = List.replicate n (.slice none 0 0) := by
  rw [Nat.mul_one]
  exact toList_madeCells_one _ _
/-- One more row, made behind all that stands. -/
theorem Filled.put {w wr w' : World} {g n k : Nat} {zss : List (List Int)} {z : List Int} {u : Value} (h : Filled w wr g n zss k) (hz : zss[k]? = some z) (hb : Below wr.heap.size wr w') (hu : Ints w' wr.heap.size u z) :
    Filled w (w'.setCell ⟨g, k, none⟩ u) g n zss (k + 1) := by
  obtain ⟨h1, vs, h2, h3⟩ := h
  have o := own_below h2 hb
  have i := h3.keepI (KeepI.of_below hb)
  have ha := h3.away_new hu.since (Nat.le_refl _)
  have st := o.stored k u
  have hk := KeepI.of_grown o st.2
  have hg := (h2.lt g rfl).1
  refine ⟨(below_after h1 hb).setCell hg _, _, st.1, ?_⟩
  rw [← fillS_set hz]
  exact (i.keepI hk).set k ((hu.low h1.size).keepI hk) ha
theorem Filled.old {w wr w' : World} {g n k : Nat} {zss : List (List Int)} (h : Filled w wr g n zss k) (hb : Below wr.heap.size wr w') (hk : k < n) : (∃ old, w'.cell? ⟨g, k, none⟩ = some old) ∧ w'.frozen? ⟨g, k, none⟩ = false := by
  obtain ⟨_, vs, h2, _⟩ := h
  have o := own_below h2 hb
  have hl : vs.length = n := by simpa using o.1
  exact ⟨⟨_, by rw [o.cellAt k (by omega)]; exact List.getElem?_eq_getElem (by omega)⟩, o.frozenAt k⟩
theorem Filled.start {w w0 w1 : World} {g n : Nat} {zss : List (List Int)} (hl : zss.length = n) (hb : Below w.heap.size w w0) (hown : w1.ownsRow w.heap.size 24 1 (.slice (some ⟨g, 0, none⟩) n n) n (madeCells (Value.slice none 0 0).cells (n * 1)).toList) (hg : w0.grownBy w1 none) : Filled w w1 g n zss 0 := by
  refine ⟨hb.grown hg hb.size (by simp), _, hown, ?_⟩
  rw [made_rows, fillS_zero, hl]
  exact Inner.zero _ _ _

end Go.Proofs.Ytcnmnpbipencmaa


/-
  WORDS: 'list = append(list, row)', row a list that was just made; a cut of an argument. Nothing here speaks of a function of the program.
-/

namespace Go.Proofs.Ytcnmnpbipencmaa
set_option maxRecDepth 100000
open Go.RowKit

theorem wpList_push_row {ops : Array Oper} {rest : List Oper} {o : Oper} {a : Act} {W : World} {Q : Exit → Act → World → Prop} (hgd : o.guard = none) (sl x : Operand)
    (ho : o.op = .call { callee := .builtin .append, args := #[sl, x], argTypes := #[31, 31] })
    (base : Nat) (W0 w0 wr : World) (v u : Value) (zss : List (List Int)) (zs : List Int) (hs : a.eval sl = v) (hx : a.eval x = .slice (some ⟨wr.heap.size, 0, none⟩) 1 1) (hW : W = wr.alloc (.cells #[u] 24))
    (hS : IntsS w0 base v zss) (hb0 : Below w0.heap.size w0 wr) (hu : Ints wr w0.heap.size u zs) (hn : zss.length ≤ 1048576) (hb : Below base W0 wr) (hbase : base ≤ w0.heap.size)
    (K : ∀ v' w', IntsS w' base v' (zss ++ [zs]) → Below base W0 w' → wpList Try.prog ops Q rest (a.put o.dst v') w') : wpList Try.prog ops Q (o :: rest) a W := by
  obtain ⟨i0, hi, hz0, hz1, hz2⟩ := info_parts rowsInfo
  obtain ⟨vs, hown, hin⟩ := hS
  have hown1 := own_below hown hb0
  obtain ⟨A1, c1, rfl⟩ := hu.slice
  refine wpList_append_one hgd sl x 31 ho base 24 i0 (.slice none 0 0) 24 Try.underlying31 hi hz0 hz1 hz2 rfl W0 wr v _ _ hs hown1 _ hx hW rfl (by omega) (by unfold maxLen; omega) hb (Nat.le_trans hbase hb0.size) fun v' w' h1 h2 h3 => K v' w' ?_ h2
  have hk := KeepI.of_grown hown1 h3
  refine ⟨vs ++ [.slice A1 zs.length c1], by rw [List.length_append]; exact h1, ?_⟩
  exact ((hin.keepI (KeepI.of_below hb0)).keepI hk).push ((hu.low hbase).keepI hk) (hin.away_new hu.since (Nat.le_refl _))
/-- The same, with what it leaves of other lists of rows. -/
theorem wpList_push_row_at {ops : Array Oper} {rest : List Oper} {o : Oper} {a : Act} {W : World} {Q : Exit → Act → World → Prop} (hgd : o.guard = none) (sl x : Operand)
    (ho : o.op = .call { callee := .builtin .append, args := #[sl, x], argTypes := #[31, 31] })
    (base : Nat) (W0 w0 wr : World) (v u : Value) (zss : List (List Int)) (zs : List Int) (hs : a.eval sl = v) (hx : a.eval x = .slice (some ⟨wr.heap.size, 0, none⟩) 1 1) (hW : W = wr.alloc (.cells #[u] 24))
    (hS : IntsS w0 base v zss) (hb0 : Below w0.heap.size w0 wr) (hu : Ints wr w0.heap.size u zs) (hn : zss.length ≤ 1048576) (hb : Below base W0 wr) (hbase : base ≤ w0.heap.size)
    (K : ∀ v' w', IntsS w' base v' (zss ++ [zs]) → Below base W0 w' → (∀ B' l yss, IntsS w0 B' l yss → Away l v → IntsS w' B' l yss ∧ Away l v') → wpList Try.prog ops Q rest (a.put o.dst v') w') : wpList Try.prog ops Q (o :: rest) a W := by
  obtain ⟨i0, hi, hz0, hz1, hz2⟩ := info_parts rowsInfo
  obtain ⟨vs, hown, hin⟩ := hS
  have hown1 := own_below hown hb0
  have hal := (Below.refl wr.heap.size wr).alloc (Nat.le_refl _) (.cells #[u] 24)
  have hown2 := own_below hown1 hal
  obtain ⟨A1, c1, rfl⟩ := hu.slice
  subst hW
  refine wpList_append_own_at _ hgd sl x 31 ho base 24 i0 (.slice none 0 0) 1 24 Try.underlying31 hi hz0 hz1 hz2 rfl (by decide) v _ _ hs hown2 ⟨wr.heap.size, 0, none⟩ 1 1 [.slice A1 zs.length c1] hx rfl ?_ ?_ (by unfold maxLen; omega) (by omega) (by simp; have := hb0.size; omega) ?_
  · intro j u hj
    match j, hj with
    | 0, hj => simp at hj; subst hj; simp [Addr.add]
  · intro y hy
    obtain rfl := List.mem_singleton.1 hy
    rfl
  · intro v' w' h1 h2 _ h4
    have hk := (KeepI.of_below hal).trans (KeepI.of_grown hown2 h2)
    refine K v' w' ⟨vs ++ [.slice A1 zs.length c1], by rw [List.length_append]; exact h1, ?_⟩ ?_ ?_
    · exact ((hin.keepI (KeepI.of_below hb0)).keepI hk).push ((hu.low hbase).keepI hk) (hin.away_new hu.since (Nat.le_refl _))
    · exact (hb.trans (hal.mono (Nat.le_trans hbase hb0.size))).grown h2 (by simp; have := hb0.size; omega) (fun k hk => (hown.lt k hk).1)
    · rintro B' l yss ⟨ys, ho, hi'⟩ ha
      have ho1 := own_below ho hb0
      refine ⟨⟨ys, (own_below ho1 hal).kept h2 ha, (hi'.keepI (KeepI.of_below hb0)).keepI hk⟩, ?_⟩
      rcases h4 with h4 | h4
      · rcases ha with ha | ha
        · exact .inl ha
        · exact .inr (by rw [h4]; exact ha)
      · cases hl : l.ownBlock with
        | none => exact .inl hl
        | some g =>
          refine .inr ?_
          rw [hl, h4]
          intro e
          have h5 := (ho1.lt g hl).2
          simp at e
          omega
/-- A row of rows whose row k is made anew. -/
theorem IntsS.put {w w' : World} {B g n cap k : Nat} {zss : List (List Int)} {z : List Int} {u : Value} (h : IntsS w B (.slice (some ⟨g, 0, none⟩) n cap) zss) (hb : Below w.heap.size w w') (hu : Ints w' w.heap.size u z) (hB : B ≤ w.heap.size) :
    IntsS (w'.setCell ⟨g, k, none⟩ u) B (.slice (some ⟨g, 0, none⟩) n cap) (zss.set k z) := by
  have hl := h.len
  subst hl
  obtain ⟨vs, h2, h3⟩ := h
  have o := own_below h2 hb
  have i := h3.keepI (KeepI.of_below hb)
  have ha := h3.away_new hu.since (Nat.le_refl _)
  have st := o.stored k u
  have hk := KeepI.of_grown o st.2
  refine ⟨vs.set k u, by rw [List.length_set]; exact st.1, ?_⟩
  exact (i.keepI hk).set k ((hu.low hB).keepI hk) ha
theorem IntsS.old {w : World} {B g n cap k : Nat} {zss : List (List Int)} (h : IntsS w B (.slice (some ⟨g, 0, none⟩) n cap) zss) (hk : k < n) : (∃ old, w.cell? ⟨g, k, none⟩ = some old) ∧ w.frozen? ⟨g, k, none⟩ = false ∧ B ≤ g := by
  have hl := h.len
  subst hl
  obtain ⟨vs, h2, _⟩ := h
  have hv : vs.length = zss.length := by simpa using h2.1
  exact ⟨⟨_, by rw [h2.cellAt k (by omega)]; exact List.getElem?_eq_getElem (by omega)⟩, h2.frozenAt k, (h2.lt g rfl).1⟩
theorem IntsS.shape {w : World} {B n c : Nat} {A : Option Addr} {zss : List (List Int)} (h : IntsS w B (.slice A n c) zss) (h0 : 0 < n) : ∃ g, A = some ⟨g, 0, none⟩ := by
  obtain ⟨vs, h1, _⟩ := h
  rcases h1.2 with ⟨hv, hz⟩ | ⟨g, cap, cur, hv, _⟩
  · injection hv with _ h3; omega
  · injection hv with h3
    exact ⟨g, h3⟩
theorem cut_at {zs : List Int} {f m j : Nat} (hj : j < m) : ((zs.drop f).take m)[j]? = zs[f + j]? := by rw [List.getElem?_take_of_lt hj, List.getElem?_drop]
/-- 'p[f : f + m]' as an argument. -/
theorem Arg.cut {w : World} {B n c f m : Nat} {ad : Addr} {zs : List Int} (h : Arg w B (some ad) n c zs) (hm : f + m ≤ n) : Arg w B (some (ad.add f)) m (c - f) ((zs.drop f).take m) := by
  have hl := h.len
  have hcap := h.cap
  refine ⟨⟨by rw [i64_length, List.length_take, List.length_drop]; omega, fun h0 => ?_⟩, h.under, by have := h.le; omega, by omega, fun z hz => h.small z (List.mem_of_mem_drop (List.mem_of_mem_take hz)), fun e => by cases e⟩
  obtain ⟨ad', he, hb, hc⟩ := h.reads.2 (by omega)
  injection he with he
  subst he
  refine ⟨_, rfl, by rw [block_of_add]; exact hb, fun j u hu => ?_⟩
  obtain ⟨z, hz, rfl⟩ := i64_at hu
  have hj : j < m := by have := (List.getElem?_eq_some_iff.1 hz).1; rw [List.length_take] at this; omega
  rw [cut_at hj] at hz
  rw [add_of_add]
  exact hc _ _ (i64_get hz)
end Go.Proofs.Ytcnmnpbipencmaa


/-
  WORDS: a row that lies apart from all rows of a list; it is put behind the list, or at a place of it. Nothing here speaks of a function of the program.
-/

namespace Go.Proofs.Ytcnmnpbipencmaa
set_option maxRecDepth 100000
open Go.RowKit

/-- A list of rows and a row that lies apart from all of it. -/
def Fresh (w : World) (B : Nat) (v : Value) (zss : List (List Int)) (u : Value) : Prop := ∃ vs, w.ownsRow B 24 1 v zss.length vs ∧ Inner w B vs zss ∧ ∀ x ∈ vs, Away x u
theorem wpList_push_fresh_keep {ops : Array Oper} {rest : List Oper} {o : Oper} {a : Act} {W : World} {Q : Exit → Act → World → Prop} (hgd : o.guard = none) (sl x : Operand)
    (ho : o.op = .call { callee := .builtin .append, args := #[sl, x], argTypes := #[31, 31] })
    (base : Nat) (wr : World) (v u : Value) (zss : List (List Int)) (zs : List Int) (hs : a.eval sl = v) (hx : a.eval x = .slice (some ⟨wr.heap.size, 0, none⟩) 1 1) (hW : W = wr.alloc (.cells #[u] 24))
    (hS : Fresh wr base v zss u) (hu : Ints wr base u zs) (hn : zss.length ≤ 1048576) (hbase : base ≤ wr.heap.size)
    (K : ∀ v' w', IntsS w' base v' (zss ++ [zs]) → Below base wr w' → KeepI wr w' → wpList Try.prog ops Q rest (a.put o.dst v') w') : wpList Try.prog ops Q (o :: rest) a W := by
  obtain ⟨i0, hi, hz0, hz1, hz2⟩ := info_parts rowsInfo
  obtain ⟨vs, hown, hin, ha⟩ := hS
  obtain ⟨A1, c1, rfl⟩ := hu.slice
  refine wpList_append_one hgd sl x 31 ho base 24 i0 (.slice none 0 0) 24 Try.underlying31 hi hz0 hz1 hz2 rfl wr wr v _ _ hs hown _ hx hW rfl (by omega) (by unfold maxLen; omega) (Below.refl _ _) hbase fun v' w' h1 h2 h3 => K v' w' ?_ h2 (KeepI.of_grown hown h3)
  have hk := KeepI.of_grown hown h3
  refine ⟨vs ++ [.slice A1 zs.length c1], by rw [List.length_append]; exact h1, ?_⟩
  exact (hin.keepI hk).push (hu.keepI hk) ha

theorem IntsS.putFresh {w : World} {B g n cap k : Nat} {zss : List (List Int)} {z : List Int} {u : Value} (h : Fresh w B (.slice (some ⟨g, 0, none⟩) n cap) zss u) (hu : Ints w B u z) :
    IntsS (w.setCell ⟨g, k, none⟩ u) B (.slice (some ⟨g, 0, none⟩) n cap) (zss.set k z) ∧ KeepI w (w.setCell ⟨g, k, none⟩ u) := by
  obtain ⟨vs, h2, h3, ha⟩ := h
  have hl : n = zss.length := by
    rcases h2.2 with ⟨hv, hz⟩ | ⟨g', cap', cur, hv, _⟩
    · injection hv with _ h3; omega
    · injection hv
  subst hl
  have st := h2.stored k u
  have hk := KeepI.of_grown h2 st.2
  refine ⟨⟨vs.set k u, by rw [List.length_set]; exact st.1, ?_⟩, hk⟩
  exact (h3.keepI hk).set k (hu.keepI hk) ha
/-- A list of two rows that was just built. -/
theorem IntsS.two {w : World} {B : Nat} {u v : Value} {p q : List Int} (hp : Ints w B u p) (hq : Ints w B v q) (ha : Away u v) (hB : B ≤ w.heap.size) :
    IntsS (w.alloc (.cells #[u, v] 24)) B (.slice (some ⟨w.heap.size, 0, none⟩) 2 2) [p, q] := by
  have hal := (Below.refl w.heap.size w).alloc (Nat.le_refl _) (.cells #[u, v] 24)
  refine ⟨[u, v], ⟨rfl, .inr ⟨w.heap.size, 2, #[u, v], rfl, hB, heap_alloc_new w _, Nat.le_refl _, by unfold maxLen; omega, rfl, rfl⟩⟩, ?_⟩
  have h1 := (Inner.nil (w.alloc (.cells #[u, v] 24)) B).push (hp.below hal) (fun x hx => by simp at hx)
  exact h1.push (hq.below hal) (fun x hx => by simp at hx; subst hx; exact ha)
theorem away_since {w : World} {B : Nat} {u v : Value} {zs : List Int} (hu : Ints w B u zs) (hv : Since w.heap.size v) : Away u v := by
  unfold Away
  cases h : u.ownBlock with
  | none => exact .inl rfl
  | some k =>
    refine .inr fun e => ?_
    have h1 := hv k e.symm
    have h2 := hu.until_ k h
    omega

theorem Fresh.two {w : World} {B : Nat} {u v r : Value} {p q : List Int} (hp : Ints w B u p) (hq : Ints w B v q) (ha : Away u v) (hr1 : Away u r) (hr2 : Away v r) (hB : B ≤ w.heap.size) :
    Fresh (w.alloc (.cells #[u, v] 24)) B (.slice (some ⟨w.heap.size, 0, none⟩) 2 2) [p, q] r := by
  have hal := (Below.refl w.heap.size w).alloc (Nat.le_refl _) (.cells #[u, v] 24)
  refine ⟨[u, v], ⟨rfl, .inr ⟨w.heap.size, 2, #[u, v], rfl, hB, heap_alloc_new w _, Nat.le_refl _, by unfold maxLen; omega, rfl, rfl⟩⟩, ?_, ?_⟩
  · have h1 := (Inner.nil (w.alloc (.cells #[u, v] 24)) B).push (hp.below hal) (fun x hx => by simp at hx)
    exact h1.push (hq.below hal) (fun x hx => by simp at hx; subst hx; exact ha)
  · intro x hx
    simp only [List.mem_cons, List.not_mem_nil, or_false] at hx
    rcases hx with rfl | rfl
    · exact hr1
    · exact hr2
end Go.Proofs.Ytcnmnpbipencmaa


/-
  DRAWS OF LISTS: spec.l3List, by its contract.
-/

namespace Go.Proofs.Ytcnmnpbipencmaa
set_option maxRecDepth 100000
open Go.RowKit

theorem IntsS.fresh {w0 w : World} {B cb : Nat} {v u : Value} {zss : List (List Int)} {zs : List Int} (h : IntsS w0 B v zss) (hg : w0.grownBy w (some cb)) (hc : cb < B) (hu : Ints w w0.heap.size u zs) : Fresh w B v zss u := by
  obtain ⟨vs, h1, h2⟩ := h
  exact ⟨vs, own_drawn h1 hg hc, h2.drawn hg hc, h2.away_new hu.since (Nat.le_refl _)⟩
theorem wpList_push_fresh {ops : Array Oper} {rest : List Oper} {o : Oper} {a : Act} {W : World} {Q : Exit → Act → World → Prop} (hgd : o.guard = none) (sl x : Operand)
    (ho : o.op = .call { callee := .builtin .append, args := #[sl, x], argTypes := #[31, 31] })
    (base : Nat) (wr : World) (v u : Value) (zss : List (List Int)) (zs : List Int) (hs : a.eval sl = v) (hx : a.eval x = .slice (some ⟨wr.heap.size, 0, none⟩) 1 1) (hW : W = wr.alloc (.cells #[u] 24))
    (hS : Fresh wr base v zss u) (hu : Ints wr base u zs) (hn : zss.length ≤ 1048576) (hbase : base ≤ wr.heap.size)
    (K : ∀ v' w', IntsS w' base v' (zss ++ [zs]) → Below base wr w' → wpList Try.prog ops Q rest (a.put o.dst v') w') : wpList Try.prog ops Q (o :: rest) a W := by
  obtain ⟨i0, hi, hz0, hz1, hz2⟩ := info_parts rowsInfo
  obtain ⟨vs, hown, hin, ha⟩ := hS
  obtain ⟨A1, c1, rfl⟩ := hu.slice
  refine wpList_append_one hgd sl x 31 ho base 24 i0 (.slice none 0 0) 24 Try.underlying31 hi hz0 hz1 hz2 rfl wr wr v _ _ hs hown _ hx hW rfl (by omega) (by unfold maxLen; omega) (Below.refl _ _) hbase fun v' w' h1 h2 h3 => K v' w' ?_ h2
  have hk := KeepI.of_grown hown h3
  refine ⟨vs ++ [.slice A1 zs.length c1], by rw [List.length_append]; exact h1, ?_⟩
  exact (hin.keepI hk).push (hu.keepI hk) ha
theorem IntsS.putDrawn {w0 w : World} {B cb g n cap k : Nat} {zss : List (List Int)} {z : List Int} {u : Value} (h : IntsS w0 B (.slice (some ⟨g, 0, none⟩) n cap) zss) (hg : w0.grownBy w (some cb)) (hc : cb < B) (hu : Ints w w0.heap.size u z) (hB : B ≤ w0.heap.size) :
    IntsS (w.setCell ⟨g, k, none⟩ u) B (.slice (some ⟨g, 0, none⟩) n cap) (zss.set k z) := by
  have hl := h.len
  subst hl
  obtain ⟨vs, h2, h3⟩ := h
  have o := own_drawn h2 hg hc
  have ha := h3.away_new hu.since (Nat.le_refl _)
  have st := o.stored k u
  have hk := KeepI.of_grown o st.2
  refine ⟨vs.set k u, by rw [List.length_set]; exact st.1, ?_⟩
  exact ((h3.drawn hg hc).keepI hk).set k ((hu.low hB).keepI hk) ha
/-- A list of rows that was drawn. -/
def DrawnSS (B cb : Nat) (w : World) (e : Ending) (w' : World) : Prop :=
  ∃ A c zss, e = .returned (.slice A zss.length c) ∧ zss.length ≤ 4 ∧ (∀ z ∈ zss, Lite 9 z) ∧ IntsS w' w.heap.size (.slice A zss.length c) zss ∧ Cur w' B cb ∧ w.grownBy w' (some cb)
theorem DrawnSS.mk {B cb : Nat} {w w' : World} {v : Value} {zss : List (List Int)} (hI : IntsS w' w.heap.size v zss) (hn : zss.length ≤ 4) (hl : ∀ z ∈ zss, Lite 9 z) (h : Side B cb w w') : DrawnSS B cb w (.returned v) w' := by
  obtain ⟨A, c, rfl⟩ := hI.slice
  exact ⟨A, c, zss, rfl, hn, hl, hI, h.cur, h.gr⟩

/-- What stood before the cursor was made is as it was. -/
theorem Side.under {B cb : Nat} {w w1 w2 : World} (h : Side B cb w1 w2) (hb : Below w.heap.size w w1) (hc : w.heap.size ≤ cb) : Below w.heap.size w w2 :=
  hb.grown h.gr hb.size (fun k hk => by injection hk with hk; omega)
/-- A row that was drawn from the bytes. -/
def DrewI (w : World) (L : Nat) (e : Ending) (w' : World) : Prop := ∃ A c zs, e = .returned (.slice A zs.length c) ∧ Lite L zs ∧ Ints w' w.heap.size (.slice A zs.length c) zs ∧ Below w.heap.size w w'
def DrewII (w : World) (L : Nat) (e : Ending) (w' : World) : Prop :=
  ∃ A c p A' c' q, e = .returned (.tuple #[.slice A p.length c, .slice A' q.length c']) ∧ Lite L p ∧ Lite L q ∧ Ints w' w.heap.size (.slice A p.length c) p ∧ Ints w' w.heap.size (.slice A' q.length c') q ∧ Below w.heap.size w w'
def DrewSB (w : World) (e : Ending) (w' : World) : Prop :=
  ∃ A c zss b, e = .returned (.tuple #[.slice A zss.length c, .bool b]) ∧ zss.length ≤ 4 ∧ (∀ z ∈ zss, Lite 9 z) ∧ IntsS w' w.heap.size (.slice A zss.length c) zss ∧ Below w.heap.size w w'
theorem DrewI.mk {L : Nat} {w w' : World} {v : Value} {zs : List Int} (hI : Ints w' w.heap.size v zs) (hl : Lite L zs) (h : Below w.heap.size w w') : DrewI w L (.returned v) w' := by
  obtain ⟨A, c, rfl⟩ := hI.slice
  exact ⟨A, c, zs, rfl, hl, hI, h⟩
theorem DrewII.mk {L : Nat} {w w' : World} {v v' : Value} {p q : List Int} (hp : Ints w' w.heap.size v p) (hq : Ints w' w.heap.size v' q) (hl : Lite L p) (hl' : Lite L q) (h : Below w.heap.size w w') : DrewII w L (.returned (.tuple #[v, v'])) w' := by
  obtain ⟨A, c, rfl⟩ := hp.slice
  obtain ⟨A', c', rfl⟩ := hq.slice
  exact ⟨A, c, p, A', c', q, rfl, hl, hl', hp, hq, h⟩

end Go.Proofs.Ytcnmnpbipencmaa


/-
  THE DRAWS OF CHAPTER 11, by their contracts. (Written by wip/tools/mkdraw11.py.)
-/

namespace Go.Proofs.Ytcnmnpbipencmaa
set_option maxRecDepth 100000
open Go.RowKit

set_option maxHeartbeats 1600000 in
theorem dinvs_any (A : Option Addr) (n c B : Nat) (bs : List UInt8) (w : World) (hr : Reads w B A n (u8s bs)) (hn : n ≤ 1048576) (hB : B ≤ w.heap.size) :
    Calls Try.prog 15 #[.slice A n c] w (DrewI w 9) := by
  have H1 := hide (new_any A n c B bs w hr hn hB)
  clear hr
  go_enter Try.func15, Try.ntmps15
  go_wp2_with fail
  refine (unhide H1).mono ?_
  rintro e w1 ⟨cb, rfl, hcb, hc1, hb1⟩
  have hS0 := Side.start hc1
  have hsz := hb1.size
  clear H1
  have H3 := hide (l2bent_any B cb w1 hc1)
  clear hc1
  go_wp2_with fail
  refine (unhide H3).mono ?_
  rintro e w3 ⟨A3, c3, q, rfl, hl, o3, hc3, hg3⟩
  have hb5 := (hS0.drawn hc3 hg3).under hb1 hcb
  have o4 := o3.low hsz
  have HL := hide hl
  clear H3 hS0 hc3 hg3 o3 hl
  go_wp2
  go_ret
  exact DrewI.mk o4 (unhide HL) hb5
set_option maxHeartbeats 1600000 in
theorem deul_any (A : Option Addr) (n c B : Nat) (bs : List UInt8) (w : World) (hr : Reads w B A n (u8s bs)) (hn : n ≤ 1048576) (hB : B ≤ w.heap.size) :
    Calls Try.prog 16 #[.slice A n c] w (fun e w' => ∃ x : Int, e = .returned (.int .i64 x) ∧ (-1 ≤ x ∧ x ≤ 13) ∧ Below w.heap.size w w') := by
  have H1 := hide (new_any A n c B bs w hr hn hB)
  clear hr
  go_enter Try.func16, Try.ntmps16
  go_wp2_with fail
  refine (unhide H1).mono ?_
  rintro e w1 ⟨cb, rfl, hcb, hc1, hb1⟩
  have hS0 := Side.start hc1
  have hsz := hb1.size
  clear H1
  have H2 := hide (below_any B cb 15 (by omega) w1 hc1)
  clear hc1
  go_wp2_with fail
  refine (unhide H2).mono ?_
  rintro e w2 ⟨v, rfl, ⟨x, rfl, hx0, hx1⟩, hc2, hg2⟩
  rw [if_pos (by omega)] at hx1
  have hb5 := (hS0.drawn hc2 hg2).under hb1 hcb
  clear H2 hS0 hc2 hg2
  go_wp2
  go_ret
  exact ⟨_, rfl, by omega, hb5⟩
set_option maxHeartbeats 1600000 in
theorem dmah_any (A : Option Addr) (n c B : Nat) (bs : List UInt8) (w : World) (hr : Reads w B A n (u8s bs)) (hn : n ≤ 1048576) (hB : B ≤ w.heap.size) :
    Calls Try.prog 18 #[.slice A n c] w (fun e w' => ∃ x : Int, e = .returned (.int .i64 x) ∧ (-1 ≤ x ∧ x ≤ 11) ∧ Below w.heap.size w w') := by
  have H1 := hide (new_any A n c B bs w hr hn hB)
  clear hr
  go_enter Try.func18, Try.ntmps18
  go_wp2_with fail
  refine (unhide H1).mono ?_
  rintro e w1 ⟨cb, rfl, hcb, hc1, hb1⟩
  have hS0 := Side.start hc1
  have hsz := hb1.size
  clear H1
  have H2 := hide (below_any B cb 13 (by omega) w1 hc1)
  clear hc1
  go_wp2_with fail
  refine (unhide H2).mono ?_
  rintro e w2 ⟨v, rfl, ⟨x, rfl, hx0, hx1⟩, hc2, hg2⟩
  rw [if_pos (by omega)] at hx1
  have hb5 := (hS0.drawn hc2 hg2).under hb1 hcb
  clear H2 hS0 hc2 hg2
  go_wp2
  go_ret
  exact ⟨_, rfl, by omega, hb5⟩
end Go.Proofs.Ytcnmnpbipencmaa


/-
  PLAIN: the tallies of the law FnStatistics. Nothing here speaks of the program.
-/

namespace Go.Proofs.Ytcnmnpbipencmaa
set_option maxRecDepth 100000

/-- How often f has each value among the first j lists. -/
def tl (f : List Int → Nat) (Z : List (List Int)) (n : Nat) : Nat → List Int
  | 0 => List.replicate n 0
  | j + 1 => (tl f Z n j).set (f (Z.getD j [])) (at0 (tl f Z n j) (f (Z.getD j [])) + 1)
theorem tl_length (f : List Int → Nat) (Z : List (List Int)) (n : Nat) : ∀ j, (tl f Z n j).length = n
  | 0 => by simp [tl]
  | j + 1 => by rw [tl, List.length_set, tl_length f Z n j]
theorem tl_le (f : List Int → Nat) (Z : List (List Int)) (n : Nat) : ∀ j q, 0 ≤ at0 (tl f Z n j) q ∧ at0 (tl f Z n j) q ≤ (j : Int)
  | 0, q => by
    have := Bd.zero n q
    simp only [tl]
    omega
  | j + 1, q => by
    have h1 := tl_le f Z n j (f (Z.getD j []))
    have h2 := tl_le f Z n j q
    rw [tl, at0_set]
    split <;> omega
theorem tl_step {f : List Int → Nat} {Z : List (List Int)} {n j : Nat} {z : List Int} (h : Z[j]? = some z) : (tl f Z n j).set (f z) (at0 (tl f Z n j) (f z) + 1) = tl f Z n (j + 1) := by
  rw [tl, List.getD_eq_getElem?_getD, h]; rfl
/-- The four numbers that are tallied. -/
def fDn (z : List Int) : Nat := (plK (gD z) z.length).length
def fUp (z : List Int) : Nat := (plK (gU z) z.length).length
def fIn (z : List Int) : Nat := invK z z.length
def fMj (z : List Int) : Nat := (sumK (plK (gD z) z.length) (plK (gD z) z.length).length).toNat
theorem permL_isP5 : ∀ n : Nat, n ≤ 5 → ∀ z ∈ permL n, isP z = true := by decide +kernel
theorem fDn_lt : ∀ i : Nat, i ≤ 4 → ∀ z ∈ permL (i + 1), fDn z < i + 1 := by decide +kernel
theorem fUp_lt : ∀ i : Nat, i ≤ 4 → ∀ z ∈ permL (i + 1), fUp z < i + 1 := by decide +kernel
theorem fIn_lt : ∀ i : Nat, i ≤ 4 → ∀ z ∈ permL (i + 1), fIn z < (i + 1) * i / 2 + 1 := by decide +kernel
theorem fMj_lt : ∀ i : Nat, i ≤ 4 → ∀ z ∈ permL (i + 1), fMj z < (i + 1) * i / 2 + 1 := by decide +kernel
theorem tl_dn : ∀ i : Nat, i ≤ 4 → tl fDn (permL (i + 1)) (i + 1) (permL (i + 1)).length = eulL i := by decide +kernel
theorem tl_up : ∀ i : Nat, i ≤ 4 → tl fUp (permL (i + 1)) (i + 1) (permL (i + 1)).length = eulL i := by decide +kernel
theorem tl_in : ∀ i : Nat, i ≤ 4 → tl fIn (permL (i + 1)) ((i + 1) * i / 2 + 1) (permL (i + 1)).length = mahL i := by decide +kernel
theorem tl_mj : ∀ i : Nat, i ≤ 4 → tl fMj (permL (i + 1)) ((i + 1) * i / 2 + 1) (permL (i + 1)).length = mahL i := by decide +kernel
theorem stat_dn {k : Nat} (h1 : 1 ≤ k) (h5 : k ≤ 5) : tl fDn (permL k) k (permL k).length = eulR (k : Int) := by
  obtain ⟨i, rfl⟩ : ∃ i, k = i + 1 := ⟨k - 1, by omega⟩
  rw [tl_dn i (by omega), ← eulR_yes (by omega)]; rfl
theorem stat_up {k : Nat} (h1 : 1 ≤ k) (h5 : k ≤ 5) : tl fUp (permL k) k (permL k).length = eulR (k : Int) := by
  obtain ⟨i, rfl⟩ : ∃ i, k = i + 1 := ⟨k - 1, by omega⟩
  rw [tl_up i (by omega), ← eulR_yes (by omega)]; rfl
theorem stat_in {k : Nat} (h1 : 1 ≤ k) (h5 : k ≤ 5) : tl fIn (permL k) (k * (k - 1) / 2 + 1) (permL k).length = mahR (k : Int) := by
  obtain ⟨i, rfl⟩ : ∃ i, k = i + 1 := ⟨k - 1, by omega⟩
  rw [Nat.add_sub_cancel, tl_in i (by omega), ← mahR_yes (by omega)]; rfl
theorem stat_mj {k : Nat} (h1 : 1 ≤ k) (h5 : k ≤ 5) : tl fMj (permL k) (k * (k - 1) / 2 + 1) (permL k).length = mahR (k : Int) := by
  obtain ⟨i, rfl⟩ : ∃ i, k = i + 1 := ⟨k - 1, by omega⟩
  rw [Nat.add_sub_cancel, tl_mj i (by omega), ← mahR_yes (by omega)]; rfl
theorem stat_lt {k : Nat} (h1 : 1 ≤ k) (h5 : k ≤ 5) {z : List Int} (hz : z ∈ permL k) : isP z = true ∧ fDn z < k ∧ fUp z < k := by
  obtain ⟨i, rfl⟩ : ∃ i, k = i + 1 := ⟨k - 1, by omega⟩
  exact ⟨permL_isP5 _ h5 z hz, fDn_lt i (by omega) z hz, fUp_lt i (by omega) z hz⟩
theorem stat_lt2 {k : Nat} (h1 : 1 ≤ k) (h5 : k ≤ 5) {z : List Int} (hz : z ∈ permL k) : isP z = true ∧ fIn z < k * (k - 1) / 2 + 1 ∧ fMj z < k * (k - 1) / 2 + 1 := by
  obtain ⟨i, rfl⟩ : ∃ i, k = i + 1 := ⟨k - 1, by omega⟩
  rw [Nat.add_sub_cancel]
  exact ⟨permL_isP5 _ h5 z hz, fIn_lt i (by omega) z hz, fMj_lt i (by omega) z hz⟩
theorem val_dn {z : List Int} (h : isP z = true) : (plR (gD z) z).length = fDn z := by rw [plR_yes h]; rfl
theorem val_up {z : List Int} (h : isP z = true) : cnR (gU z) z = ((fUp z : Nat) : Int) := by rw [cnR_yes h]; rfl
theorem val_in {z : List Int} (h : isP z = true) : invsR z = ((fIn z : Nat) : Int) := by rw [invsR_yes h]; rfl
theorem val_mj {z : List Int} (h : isP z = true) : majR z = ((fMj z : Nat) : Int) := by
  have hr := plR_range (gD z) z
  rw [majR_yes h, plR_yes h]
  rw [plR_yes h] at hr
  have h1 := (sumK_le hr _ (Nat.le_refl _)).1
  unfold fMj
  omega
end Go.Proofs.Ytcnmnpbipencmaa


/-
  WORDS FOR THE LAW FnStatistics: what a round stores; the four numbers, told.
-/

namespace Go.Proofs.Ytcnmnpbipencmaa
set_option maxRecDepth 100000
open Go.RowKit

/-- One cell stored behind calls that only make memory. -/
theorem stored_round {w0 w w5 wx : World} {B B0 d n : Nat} {D : Nat} {v : Int} {L : List Int} (h : w.ownsRow B 3 1 (.slice (some ⟨D, 0, none⟩) n n) n (i64s L)) (h5 : Below w.heap.size w w5) (h0 : Below B0 w0 w) (hD : B0 ≤ D)
    (hw : wx = w5.setCell ⟨D, d, none⟩ (.int .i64 v) ∨ wx = (w5.setCell ⟨D, d, none⟩ (.int .i64 v)).drew) :
    wx.ownsRow B 3 1 (.slice (some ⟨D, 0, none⟩) n n) n (i64s (L.set d v)) ∧ w.grownBy wx (some D) ∧ Below B0 w0 wx := by
  have h1 := (own_below h h5).stored d (.int .i64 v)
  rw [show (i64s L).set d (.int .i64 v) = i64s (L.set d v) by unfold i64s; rw [List.map_set]] at h1
  have h2 := grown_then (grown_of_below h5 (some D)) h1.2
  have h3 : w.grownBy wx (some D) := by
    rcases hw with rfl | rfl
    · exact h2
    · exact ⟨h2.os, h2.tape, h2.output, h2.size, h2.block⟩
  have hlt := (h.lt D rfl).2
  refine ⟨?_, h3, h0.grown h3 ?_ (fun k hk => by injection hk with hk; omega)⟩
  · rcases hw with rfl | rfl
    · exact h1.1
    · exact h1.1
  · omega
section
variable (A : Option Addr) (n c B : Nat) (z : List Int) (hz : isP z = true) (w : World) (h : Arg w B A n c z)
include hz h
theorem cDn : Calls Try.prog 25 #[.slice A n c] w fun e w' => ∃ A2 c2, e = .returned (.slice A2 (fDn z) c2) ∧ Below w.heap.size w w' := by
  refine (idesc_any A n c B z w h).mono ?_
  rintro e w' ⟨A2, c2, rfl, _, d⟩
  exact ⟨A2, c2, by rw [val_dn hz], d⟩
theorem cUp : Calls Try.prog 33 #[.slice A n c] w fun e w' => e = .returned (.int .i64 (fUp z : Int)) ∧ Below w.heap.size w w' := by
  refine (irise_any A n c B z w h).mono ?_
  rintro e w' ⟨rfl, d⟩
  exact ⟨by rw [val_up hz], d⟩
theorem cIn : Calls Try.prog 20 #[.slice A n c] w fun e w' => e = .returned (.int .i64 (fIn z : Int)) ∧ Below w.heap.size w w' := by
  refine (iinvs_any A n c B z w h).mono ?_
  rintro e w' ⟨rfl, d⟩
  exact ⟨by rw [val_in hz], d⟩
theorem cMj : Calls Try.prog 22 #[.slice A n c] w fun e w' => e = .returned (.int .i64 (fMj z : Int)) ∧ Below w.heap.size w w' := by
  refine (imaj_any A n c B z w h).mono ?_
  rintro e w' ⟨rfl, d⟩
  exact ⟨by rw [val_mj hz], d⟩
end
end Go.Proofs.Ytcnmnpbipencmaa


/-
  spec.PermsOf and impl.PermsOf, by their contracts.
-/

namespace Go.Proofs.Ytcnmnpbipencmaa
set_option maxRecDepth 100000
open Go.RowKit

theorem own_head {w : World} {base n : Nat} {v : Value} {xs : List Value} {e : TypeId} (h : w.ownsRow base e 1 v n xs) (hn : 0 < n) : ∃ g c, v = .slice (some ⟨g, 0, none⟩) n c := by
  rcases h.2 with ⟨_, h0⟩ | ⟨g, cap, cur, rfl, _⟩
  · omega
  · exact ⟨g, cap, rfl⟩

theorem IntsS.push {w : World} {B : Nat} {v : Value} {vs : List Value} {zss : List (List Int)} {u : Value} {zs : List Int} {n : Nat} (hn : n = zss.length) (hown : w.ownsRow B 24 1 v (n + 1) (vs ++ [u])) (hin : Inner w B (vs ++ [u]) (zss ++ [zs])) : IntsS w B v (zss ++ [zs]) := by
  subst hn
  refine ⟨vs ++ [u], ?_, hin⟩
  rw [List.length_append]
  exact hown

end Go.Proofs.Ytcnmnpbipencmaa


/-
  spec.l2Fill and spec.PermsOf, by their contracts.
-/

namespace Go.Proofs.Ytcnmnpbipencmaa
set_option maxRecDepth 100000
open Go.RowKit

def FillEnds (w : World) (B : Nat) (zss : List (List Int)) (e : Ending) (w' : World) : Prop := ∃ v, e = .returned v ∧ IntsS w' B v zss ∧ Below B w w' ∧ KeepI w w'
/-- What l2Fill is handed: a head, a list of rows, the head away from them. -/
structure Handed (w : World) (B : Nat) (hv : Value) (hd : List Int) (ov : Value) (out : List (List Int)) (vs : List Value) : Prop where
  head : Ints w B hv hd
  own : w.ownsRow B 24 1 ov out.length vs
  inner : Inner w B vs out
  away : ∀ x ∈ vs, Away x hv

set_option maxHeartbeats 800000 in
theorem fill_leaf (n : Nat) (g c : Nat) (hd : List Int) (out : List (List Int)) (ov : Value) (vs : List Value) (B : Nat) (w : World) (hn : hd.length = n) (h : Handed w B (.slice (some ⟨g, 0, none⟩) n c) hd ov out vs) (hB : B ≤ w.heap.size) (hl : out.length ≤ 1000000) :
    Calls Try.prog 63 #[.int .i64 (n : Int), .slice (some ⟨g, 0, none⟩) n c, ov] w (FillEnds w B (out ++ fillL n 0 hd)) := by
  obtain ⟨i0, hi, hz0, hz1, hz2⟩ := info_parts rowsInfo
  have hown := h.own
  have hbel := Below.refl B w
  have HH := hide h
  clear h
  have HN := hide hn
  clear hn
  go_enter Try.func63, Try.ntmps63
  go_wp2_with (first
    | (at_builtin; refine wpList_append_one rfl (.tmp 12) (.tmp 14) 31 rfl B 24 i0 (.slice none 0 0) 24 Try.underlying31 hi hz0 hz1 hz2 rfl w w _ _ _ rfl hown (.slice (some ⟨g, 0, none⟩) n c) rfl rfl rfl (by omega) (by simp only [maxLen]; omega) hbel hB ?_; intro v4 w4 hown4 hb4 hg4))
  have hk4 := KeepI.of_grown hown hg4
  have hin4 := ((unhide HH).inner.keepI hk4).push ((unhide HH).head.keepI hk4) (unhide HH).away
  have hfin : IntsS w4 B v4 (out ++ fillL n 0 hd) := IntsS.push rfl hown4 hin4
  clear hin4 hown4 hg4 hown hbel
  go_ret
  exact ⟨_, rfl, hfin, hb4, hk4⟩

theorem below_ends {w0 w w' : World} {B : Nat} {zss : List (List Int)} {e : Ending} (hb : Below B w0 w) (hk : KeepI w0 w) (h : FillEnds w B zss e w') : FillEnds w0 B zss e w' := by
  obtain ⟨v, he, hI, hb2, hk2⟩ := h
  exact ⟨v, he, hI, hb.trans hb2, hk.trans hk2⟩

set_option maxHeartbeats 1600000 in
theorem fill_step (n d : Nat) (hn6 : n ≤ 6) (B : Nat)
    (IH : ∀ (m : Nat) (g c : Nat) (hd : List Int) (out : List (List Int)) (ov : Value) (vs : List Value) (w : World), hd.length = m → m + d = n → Handed w B (.slice (some ⟨g, 0, none⟩) m c) hd ov out vs → B ≤ w.heap.size → out.length + (fillL n d hd).length ≤ 1000000 →
      Calls Try.prog 63 #[.int .i64 (n : Int), .slice (some ⟨g, 0, none⟩) m c, ov] w (FillEnds w B (out ++ fillL n d hd)))
    (m g c : Nat) (hd : List Int) (out : List (List Int)) (ov : Value) (vs : List Value) (w : World) (hm : hd.length = m) (hmd : m + (d + 1) = n) (h : Handed w B (.slice (some ⟨g, 0, none⟩) m c) hd ov out vs) (hB : B ≤ w.heap.size) (hl : out.length + (fillL n (d + 1) hd).length ≤ 1000000) :
    Calls Try.prog 63 #[.int .i64 (n : Int), .slice (some ⟨g, 0, none⟩) m c, ov] w (FillEnds w B (out ++ fillL n (d + 1) hd)) := by
  obtain ⟨i0, hi, hz0, hz1, hz2⟩ := info_parts intInfo
  have hne : ((m : Int) == (n : Int)) = false := by simp; omega
  have hm6 : m < n := by omega
  have hst : IntsS w B ov (out ++ fillK n d hd 0) := by rw [fillK_zero, List.append_nil]; exact ⟨vs, h.own, h.inner⟩
  have HH := hide h.head
  have HI := hide IH
  have HM := hide hm
  have HMD := hide hmd
  have HLL := hide hl
  clear IH h hm hmd hl
  go_enter Try.func63, Try.ntmps63
  go_wp2
  go_loopw [2, 7] (fun o i wr => ∃ k : Nat, k ≤ n ∧ i = .int .i64 ((k : Int) + 1) ∧ Below B w wr ∧ KeepI w wr ∧ IntsS wr B o (out ++ fillK n d hd k)) (fun _ i _ => n + 1 - (intOf i).toNat)
  case atStart => exact ⟨0, Nat.zero_le _, rfl, Below.refl _ _, KeepI.refl _, hst⟩
  case round =>
    obtain ⟨k, hk, rfl, hb, hkk, hout⟩ := hrel
    clear hst
    by_cases hlt : k < n
    · have hlt' : (k : Int) + 1 ≤ (n : Int) := by omega
      have hI := (unhide HH).keepI hkk
      obtain ⟨b2, hb2⟩ : ∃ b2, decide ((k : Int) + 1 ∈ hd) = b2 := ⟨_, rfl⟩
      have H1 := hide (l2has_any (some ⟨g, 0, none⟩) m c _ hd ((k : Int) + 1) b2 hb2 wr hI.reads (by omega))
      have HB2 := hide hb2
      clear hb2
      cases b2 with
      | true =>
        have hin : (k : Int) + 1 ∈ hd := by simpa using unhide HB2
        rw [← fillK_in (n := n) (d := d) hin] at hout
        clear hin hI
        go_wp2_with fail
        refine (unhide H1).mono ?_
        rintro e w' ⟨rfl, hw'⟩
        rw [hw']
        clear hw' H1
        go_wp2
        go_roundw
        case rel => exact ⟨k + 1, by omega, by go_num, hb, hkk, hout⟩
        case measure => simp [intOf]; omega
      | false =>
        have hno : (k : Int) + 1 ∉ hd := by simpa using unhide HB2
        have hstep := hide (fillK_out (n := n) (d := d) hno)
        obtain ⟨vs2, hown, hin⟩ := hout
        have hg : g < wr.heap.size := (Row.lt hI g rfl).2
        -- the head's cells, behind the new empty row
        have hcl : ∀ j u, (i64s hd)[j]? = some u → (wr.alloc (.cells #[] 3)).cell? ((⟨g, 0, none⟩ : Addr).add j) = some u := fun j u hu => by
          rw [World.cell?_alloc_lt]
          · have hr := hI.reads
            have hj : j < m := by have := (List.getElem?_eq_some_iff.1 hu).1; rw [i64_length, unhide HM] at this; exact this
            obtain ⟨ad, he, _, hc⟩ := hr.2 (by omega)
            injection he with he
            subst he
            exact hc j u hu
          · rw [block_of_add]; exact hg
        have hs1 := Nat.le_trans hB hb.size
        have hown0 := own0 wr wr.heap.size (Nat.le_refl _)
        have hb0 := (Below.refl wr.heap.size wr).alloc (Nat.le_refl _) (.cells #[] 3)
        have hone : ∀ u ∈ i64s hd, u.oneCell' = true := fun u hu => by
          unfold i64s at hu
          obtain ⟨z, _, rfl⟩ := List.mem_map.1 hu
          rfl
        have hln : (i64s hd).length = m * 1 := by rw [i64_length, unhide HM]; omega
        have HCL := hide hcl
        have HONE := hide hone
        have HLN := hide hln
        have Hown := hide hown
        have Hin := hide hin
        clear hcl hone hln hno hI hown hin
        go_wp2_with fail
        refine (unhide H1).mono ?_
        rintro e w' ⟨rfl, hw'⟩
        rw [hw']
        clear hw' H1
        go_wp2_with (at_builtin; refine wpList_append_own _ rfl (.tmp 26) (.tmp 27) 24 rfl wr.heap.size 3 i0 (.int .i64 0) 1 8 Try.underlying24 hi hz0 hz1 hz2 rfl (by decide) _ _ _ rfl hown0 ⟨g, 0, none⟩ m c (i64s hd) rfl ?_ ?_ ?_ ?_ ?_ ?_ ?_)
        · exact unhide HLN
        · exact unhide HCL
        · exact unhide HONE
        · unfold maxLen; omega
        · omega
        · simp
        intro v1 w1 hown1 hg1 _
        have hb1 : Below wr.heap.size wr w1 := hb0.grown hg1 (by simp) (fun q hq => by simp [Value.ownBlock] at hq; omega)
        clear hg1
        go_wp2_with (at_builtin; refine wpList_append_one rfl (.tmp 28) (.tmp 30) 24 rfl wr.heap.size 3 i0 (.int .i64 0) 8 Try.underlying24 hi hz0 hz1 hz2 rfl wr w1 _ _ _ rfl hown1 (.int .i64 ((k : Int) + 1)) rfl rfl rfl (by omega) (by simp only [maxLen]; omega) hb1 hb1.size ?_; intro v3 w3 hown3 hb3 hg3; clear hg3; obtain ⟨g3, c3, rfl⟩ := own_head hown3 (by omega))
        have hI3 : Ints w3 wr.heap.size (.slice (some ⟨g3, 0, none⟩) (m + 1) c3) (hd ++ [(k : Int) + 1]) := Ints.of_own (n := m + 1) (by have h := hown3; rwa [show i64s hd ++ [Value.int .i64 ((k : Int) + 1)] = i64s (hd ++ [(k : Int) + 1]) by unfold i64s; simp] at h)
        have hk3 := KeepI.of_below hb3
        have hH : Handed w3 B (.slice (some ⟨g3, 0, none⟩) (m + 1) c3) (hd ++ [(k : Int) + 1]) _ (out ++ fillK n d hd k) vs2 := ⟨hI3.low hs1, own_below (unhide Hown) hb3, (unhide Hin).keepI hk3, (unhide Hin).away_new hI3.since (Nat.le_refl _)⟩
        have hb4 := hb.trans (hb3.mono hs1)
        have hk4 := hkk.trans hk3
        have hlen : (out ++ fillK n d hd k).length + (fillL n d (hd ++ [(k : Int) + 1])).length ≤ 1000000 := by
          have h1 := unhide HLL
          have h2 := fillK_mono n d hd (k + 1) (n - (k + 1))
          rw [show k + 1 + (n - (k + 1)) = n by omega, fillK_all, unhide hstep, List.length_append] at h2
          rw [List.length_append]
          omega
        have H5 := hide (unhide HI (m + 1) g3 c3 (hd ++ [(k : Int) + 1]) _ _ vs2 w3 (by rw [List.length_append, unhide HM]; rfl) (by have := unhide HMD; omega) hH (Nat.le_trans hB hb4.size) hlen)
        rw [List.append_assoc, ← unhide hstep] at H5
        clear hown0 hb0 hown1 hb1 hown3 hb3 hI3 hk3 hH hlen hb hkk
        go_wp2_with fail
        refine (unhide H5).mono ?_
        rintro e w5 ⟨v5, rfl, hI5, hb5, hk5⟩
        have hb6 := hb4.trans hb5
        have hk6 := hk4.trans hk5
        clear H5 hb4 hk4 hb5 hk5
        go_wp2
        go_roundw
        case rel => exact ⟨k + 1, by omega, by go_num, hb6, hk6, hI5⟩
        case measure => simp [intOf]; omega
    · obtain rfl : n = k := by omega
      have hlt' : ¬ ((n : Int) + 1 ≤ (n : Int)) := by omega
      rw [fillK_all] at hout
      go_wp2
      go_ret
      exact ⟨_, rfl, hout, hb, hkk⟩

theorem fill_any (n : Nat) (hn6 : n ≤ 6) (B : Nat) : ∀ (d m g c : Nat) (hd : List Int) (out : List (List Int)) (ov : Value) (vs : List Value) (w : World), hd.length = m → m + d = n → Handed w B (.slice (some ⟨g, 0, none⟩) m c) hd ov out vs → B ≤ w.heap.size → out.length + (fillL n d hd).length ≤ 1000000 →
    Calls Try.prog 63 #[.int .i64 (n : Int), .slice (some ⟨g, 0, none⟩) m c, ov] w (FillEnds w B (out ++ fillL n d hd))
  | 0, m, g, c, hd, out, ov, vs, w, hm, hmd, h, hB, hl => by
    obtain rfl : m = n := by omega
    exact fill_leaf m g c hd out ov vs B w hm h hB (by omega)
  | d + 1, m, g, c, hd, out, ov, vs, w, hm, hmd, h, hB, hl => fill_step n d hn6 B (fill_any n hn6 B d) m g c hd out ov vs w hm hmd h hB hl

set_option maxHeartbeats 800000 in
theorem sperms_any (m : Int) (hm : -9223372036854775808 ≤ m ∧ m ≤ 9223372036854775807) (w : World) :
    Calls Try.prog 39 #[.int .i64 m] w (GivesSS w (permsR m)) := by
  by_cases hin : 0 ≤ m ∧ m ≤ 6
  · obtain ⟨n, rfl⟩ : ∃ n : Nat, m = (n : Int) := ⟨m.toNat, by omega⟩
    have hn : n ≤ 6 := by omega
    rw [permsR_yes hn]
    have H1 := hide (l1in_any (n : Int) 0 6 true (by simp; omega) w)
    -- the two empty rows
    have hI0 := Ints.made0 w w.heap.size (Nat.le_refl _)
    have hb1 := (Below.refl w.heap.size w).alloc (Nat.le_refl _) (.cells #[] 3)
    have hsz : (w.alloc (.cells #[] 3)).heap.size = w.heap.size + 1 := by simp
    have hown := ownS0 (w.alloc (.cells #[] 3)) w.heap.size (by simp)
    rw [hsz] at hown
    have hbA := (Below.refl (w.alloc (.cells #[] 3)).heap.size (w.alloc (.cells #[] 3))).alloc (Nat.le_refl _) (.cells #[] 24)
    have hI1 := hI0.below hbA
    have hb2 := hb1.alloc (by simp) (.cells #[] 24)
    have hH : Handed ((w.alloc (.cells #[] 3)).alloc (.cells #[] 24)) w.heap.size (.slice (some ⟨w.heap.size, 0, none⟩) 0 0) [] (.slice (some ⟨w.heap.size + 1, 0, none⟩) 0 0) [] [] := ⟨hI1, hown, Inner.nil _ _, fun x hx => by simp at hx⟩
    have hlen : ([] : List (List Int)).length + (fillL n n []).length ≤ 1000000 := by
      rw [two_ways n hn]
      have := (permL_small n hn).1
      simp only [List.length_nil]
      omega
    have H2 := hide (fill_any n hn w.heap.size n 0 w.heap.size 0 [] [] _ [] _ rfl (by omega) hH (by simp; omega) hlen)
    rw [List.nil_append, two_ways n hn] at H2
    clear hI0 hb1 hsz hown hbA hI1 hH hlen hin hm
    go_enter Try.func39, Try.ntmps39
    go_wp2_with fail
    refine (unhide H1).mono ?_
    rintro e w' ⟨rfl, hw'⟩
    rw [hw']
    clear hw' H1
    go_wp2_with fail
    refine (unhide H2).mono ?_
    rintro e w5 ⟨v5, rfl, hI5, hb5, _⟩
    have hb6 := hb2.trans hb5
    clear H2 hb5 hb2
    go_wp2
    go_ret
    exact GivesSS.mk hI5 hb6
  · rw [permsR_no hin]
    have H1 := hide (l1in_any m 0 6 false (by simp; omega) w)
    have hI := IntsS.made0 w w.heap.size (Nat.le_refl _)
    have hb := (Below.refl w.heap.size w).alloc (Nat.le_refl _) (.cells #[] 24)
    obtain ⟨hm1, hm2⟩ := hm
    clear hin
    go_enter Try.func39, Try.ntmps39
    go_wp2_with fail
    refine (unhide H1).mono ?_
    rintro e w' ⟨rfl, hw'⟩
    rw [hw']
    clear hw' H1
    go_wp2
    go_ret
    exact GivesSS.mk hI hb
end Go.Proofs.Ytcnmnpbipencmaa
