
/-
  WORDS: 'list = append(list, row)', row a list that was just made; a cut of an argument. Nothing here speaks of a function of the program.
-/
import Derived.Test.YtknjgehcaadomaaIntsS
import Derived.Test.YtknjgehcaadomaaFilled
import Derived.Maps.AppendAt
namespace Go.Proofs.Ytknjgehcaadomaa
set_option maxRecDepth 100000
open Go.RowKit

theorem wpList_push_row {ops : Array Oper} {rest : List Oper} {o : Oper} {a : Act} {W : World} {Q : Exit → Act → World → Prop} (hgd : o.guard = none) (sl x : Operand)
    (ho : o.op = .call { callee := .builtin .append, args := #[sl, x], argTypes := #[22, 22] })
    (base : Nat) (W0 w0 wr : World) (v u : Value) (zss : List (List Int)) (zs : List Int) (hs : a.eval sl = v) (hx : a.eval x = .slice (some ⟨wr.heap.size, 0, none⟩) 1 1) (hW : W = wr.alloc (.cells #[u] 24))
    (hS : IntsS w0 base v zss) (hb0 : Below w0.heap.size w0 wr) (hu : Ints wr w0.heap.size u zs) (hn : zss.length ≤ 1048576) (hb : Below base W0 wr) (hbase : base ≤ w0.heap.size)
    (K : ∀ v' w', IntsS w' base v' (zss ++ [zs]) → Below base W0 w' → wpList Try.prog ops Q rest (a.put o.dst v') w') : wpList Try.prog ops Q (o :: rest) a W := by
  obtain ⟨i0, hi, hz0, hz1, hz2⟩ := info_parts rowsInfo
  obtain ⟨vs, hown, hin⟩ := hS
  have hown1 := own_below hown hb0
  obtain ⟨A1, c1, rfl⟩ := hu.slice
  refine wpList_append_one hgd sl x 22 ho base 24 i0 (.slice none 0 0) 24 Try.underlying22 hi hz0 hz1 hz2 rfl W0 wr v _ _ hs hown1 _ hx hW rfl (by omega) (by unfold maxLen; omega) hb (Nat.le_trans hbase hb0.size) fun v' w' h1 h2 h3 => K v' w' ?_ h2
  have hk := KeepI.of_grown hown1 h3
  refine ⟨vs ++ [.slice A1 zs.length c1], by rw [List.length_append]; exact h1, ?_⟩
  exact ((hin.keepI (KeepI.of_below hb0)).keepI hk).push ((hu.low hbase).keepI hk) (hin.away_new hu.since (Nat.le_refl _))
/-- 'out = append(out, p)' of a new row, with what it keeps of other blocks. -/
theorem wpList_push_row_kept {ops : Array Oper} {rest : List Oper} {o : Oper} {a : Act} {W : World} {Q : Exit → Act → World → Prop} (hgd : o.guard = none) (sl x : Operand)
    (ho : o.op = .call { callee := .builtin .append, args := #[sl, x], argTypes := #[22, 22] })
    (base : Nat) (W0 w0 wr : World) (v u : Value) (zss : List (List Int)) (zs : List Int) (hs : a.eval sl = v) (hx : a.eval x = .slice (some ⟨wr.heap.size, 0, none⟩) 1 1) (hW : W = wr.alloc (.cells #[u] 24))
    (hS : IntsS w0 base v zss) (hb0 : Below w0.heap.size w0 wr) (hu : Ints wr w0.heap.size u zs) (hn : zss.length ≤ 1048576) (hb : Below base W0 wr) (hbase : base ≤ w0.heap.size)
    (K : ∀ v' w', IntsS w' base v' (zss ++ [zs]) → Below base W0 w' → KeepI wr w' → wpList Try.prog ops Q rest (a.put o.dst v') w') : wpList Try.prog ops Q (o :: rest) a W := by
  obtain ⟨i0, hi, hz0, hz1, hz2⟩ := info_parts rowsInfo
  obtain ⟨vs, hown, hin⟩ := hS
  have hown1 := own_below hown hb0
  have hal := (Below.refl wr.heap.size wr).alloc (Nat.le_refl _) (.cells #[u] 24)
  have hown2 := own_below hown1 hal
  obtain ⟨A1, c1, rfl⟩ := hu.slice
  subst hW
  refine wpList_append_own_at _ hgd sl x 22 ho base 24 i0 (.slice none 0 0) 1 24 Try.underlying22 hi hz0 hz1 hz2 rfl (by decide) v _ _ hs hown2 ⟨wr.heap.size, 0, none⟩ 1 1 [.slice A1 zs.length c1] hx rfl ?_ ?_ (by unfold maxLen; omega) (by omega) (by simp; have := hb0.size; omega) ?_
  · intro j u hj
    match j, hj with
    | 0, hj => simp at hj; subst hj; simp [Addr.add]
  · intro y hy
    obtain rfl := List.mem_singleton.1 hy
    rfl
  · intro v' w' h1 h2 _ h4
    have hk := (KeepI.of_below hal).trans (KeepI.of_grown hown2 h2)
    refine K v' w' ⟨vs ++ [.slice A1 zs.length c1], by rw [List.length_append]; exact h1, ?_⟩ ?_ hk
    · exact ((hin.keepI (KeepI.of_below hb0)).keepI hk).push ((hu.low hbase).keepI hk) (hin.away_new hu.since (Nat.le_refl _))
    · exact (hb.trans (hal.mono (Nat.le_trans hbase hb0.size))).grown h2 (by simp; have := hb0.size; omega) (fun k hk => (hown.lt k hk).1)
/-- The same, with what it leaves of other lists of rows. -/
theorem wpList_push_row_at {ops : Array Oper} {rest : List Oper} {o : Oper} {a : Act} {W : World} {Q : Exit → Act → World → Prop} (hgd : o.guard = none) (sl x : Operand)
    (ho : o.op = .call { callee := .builtin .append, args := #[sl, x], argTypes := #[22, 22] })
    (base : Nat) (W0 w0 wr : World) (v u : Value) (zss : List (List Int)) (zs : List Int) (hs : a.eval sl = v) (hx : a.eval x = .slice (some ⟨wr.heap.size, 0, none⟩) 1 1) (hW : W = wr.alloc (.cells #[u] 24))
    (hS : IntsS w0 base v zss) (hb0 : Below w0.heap.size w0 wr) (hu : Ints wr w0.heap.size u zs) (hn : zss.length ≤ 1048576) (hb : Below base W0 wr) (hbase : base ≤ w0.heap.size)
    (K : ∀ v' w', IntsS w' base v' (zss ++ [zs]) → Below base W0 w' → (∀ B' l yss, IntsS w0 B' l yss → Away l v → IntsS w' B' l yss ∧ Away l v') → wpList Try.prog ops Q rest (a.put o.dst v') w') : wpList Try.prog ops Q (o :: rest) a W := by
  obtain ⟨i0, hi, hz0, hz1, hz2⟩ := info_parts rowsInfo
  obtain ⟨vs, hown, hin⟩ := hS
  have hown1 := own_below hown hb0
  have hal := (Below.refl wr.heap.size wr).alloc (Nat.le_refl _) (.cells #[u] 24)
  have hown2 := own_below hown1 hal
  obtain ⟨A1, c1, rfl⟩ := hu.slice
  subst hW
  refine wpList_append_own_at _ hgd sl x 22 ho base 24 i0 (.slice none 0 0) 1 24 Try.underlying22 hi hz0 hz1 hz2 rfl (by decide) v _ _ hs hown2 ⟨wr.heap.size, 0, none⟩ 1 1 [.slice A1 zs.length c1] hx rfl ?_ ?_ (by unfold maxLen; omega) (by omega) (by simp; have := hb0.size; omega) ?_
  · intro j u hj
    match j, hj with
    | 0, hj => simp at hj; subst hj; simp [Addr.add]
  · intro y hy
    obtain rfl := List.mem_singleton.1 hy
    rfl
  · intro v' w' h1 h2 _ h4
    have hk := (KeepI.of_below hal).trans (KeepI.of_grown hown2 h2)
    refine K v' w' ⟨vs ++ [.slice A1 zs.length c1], by rw [List.length_append]; exact h1, ?_⟩ ?_ ?_
    · exact ((hin.keepI (KeepI.of_below hb0)).keepI hk).push ((hu.low hbase).keepI hk) (hin.away_new hu.since (Nat.le_refl _))
    · exact (hb.trans (hal.mono (Nat.le_trans hbase hb0.size))).grown h2 (by simp; have := hb0.size; omega) (fun k hk => (hown.lt k hk).1)
    · rintro B' l yss ⟨ys, ho, hi'⟩ ha
      have ho1 := own_below ho hb0
      refine ⟨⟨ys, (own_below ho1 hal).kept h2 ha, (hi'.keepI (KeepI.of_below hb0)).keepI hk⟩, ?_⟩
      rcases h4 with h4 | h4
      · rcases ha with ha | ha
        · exact .inl ha
        · exact .inr (by rw [h4]; exact ha)
      · cases hl : l.ownBlock with
        | none => exact .inl hl
        | some g =>
          refine .inr ?_
          rw [hl, h4]
          intro e
          have h5 := (ho1.lt g hl).2
          simp at e
          omega
/-- A row of rows whose row k is made anew. -/
theorem IntsS.put {w w' : World} {B g n cap k : Nat} {zss : List (List Int)} {z : List Int} {u : Value} (h : IntsS w B (.slice (some ⟨g, 0, none⟩) n cap) zss) (hb : Below w.heap.size w w') (hu : Ints w' w.heap.size u z) (hB : B ≤ w.heap.size) :
    IntsS (w'.setCell ⟨g, k, none⟩ u) B (.slice (some ⟨g, 0, none⟩) n cap) (zss.set k z) := by
  have hl := h.len
  subst hl
  obtain ⟨vs, h2, h3⟩ := h
  have o := own_below h2 hb
  have i := h3.keepI (KeepI.of_below hb)
  have ha := h3.away_new hu.since (Nat.le_refl _)
  have st := o.stored k u
  have hk := KeepI.of_grown o st.2
  refine ⟨vs.set k u, by rw [List.length_set]; exact st.1, ?_⟩
  exact (i.keepI hk).set k ((hu.low hB).keepI hk) ha
theorem IntsS.old {w : World} {B g n cap k : Nat} {zss : List (List Int)} (h : IntsS w B (.slice (some ⟨g, 0, none⟩) n cap) zss) (hk : k < n) : (∃ old, w.cell? ⟨g, k, none⟩ = some old) ∧ w.frozen? ⟨g, k, none⟩ = false ∧ B ≤ g := by
  have hl := h.len
  subst hl
  obtain ⟨vs, h2, _⟩ := h
  have hv : vs.length = zss.length := by simpa using h2.1
  exact ⟨⟨_, by rw [h2.cellAt k (by omega)]; exact List.getElem?_eq_getElem (by omega)⟩, h2.frozenAt k, (h2.lt g rfl).1⟩
theorem IntsS.shape {w : World} {B n c : Nat} {A : Option Addr} {zss : List (List Int)} (h : IntsS w B (.slice A n c) zss) (h0 : 0 < n) : ∃ g, A = some ⟨g, 0, none⟩ := by
  obtain ⟨vs, h1, _⟩ := h
  rcases h1.2 with ⟨hv, hz⟩ | ⟨g, cap, cur, hv, _⟩
  · injection hv with _ h3; omega
  · injection hv with h3
    exact ⟨g, h3⟩
theorem cut_at {zs : List Int} {f m j : Nat} (hj : j < m) : ((zs.drop f).take m)[j]? = zs[f + j]? := by rw [List.getElem?_take_of_lt hj, List.getElem?_drop]
/-- 'p[f : f + m]' as an argument. -/
theorem Arg.cut {w : World} {B n c f m : Nat} {ad : Addr} {zs : List Int} (h : Arg w B (some ad) n c zs) (hm : f + m ≤ n) : Arg w B (some (ad.add f)) m (c - f) ((zs.drop f).take m) := by
  have hl := h.len
  have hcap := h.cap
  refine ⟨⟨by rw [i64_length, List.length_take, List.length_drop]; omega, fun h0 => ?_⟩, h.under, by have := h.le; omega, by omega, fun z hz => h.small z (List.mem_of_mem_drop (List.mem_of_mem_take hz)), fun e => by cases e⟩
  obtain ⟨ad', he, hb, hc⟩ := h.reads.2 (by omega)
  injection he with he
  subst he
  refine ⟨_, rfl, by rw [block_of_add]; exact hb, fun j u hu => ?_⟩
  obtain ⟨z, hz, rfl⟩ := i64_at hu
  have hj : j < m := by have := (List.getElem?_eq_some_iff.1 hz).1; rw [List.length_take] at this; omega
  rw [cut_at hj] at hz
  rw [add_of_add]
  exact hc _ _ (i64_get hz)
end Go.Proofs.Ytknjgehcaadomaa
