
/-
  WORDS: a list of rows taken out of another one ('out = append(out, all[k])'). Nothing here speaks of a function of the program.
-/
import Derived.Test.YtknjgehcaadomaaPush
namespace Go.Proofs.Ytknjgehcaadomaa
set_option maxRecDepth 100000
open Go.RowKit

/-- The list lv holds the rows Z, all made from block C on; the list ov holds U: some of lv's first k rows and rows made before. -/
structure Sib (w : World) (B C : Nat) (lv : Value) (vs : List Value) (Z : List (List Int)) (ov : Value) (us : List Value) (U : List (List Int)) (k : Nat) : Prop where
  all : w.ownsRow B 24 1 lv Z.length vs
  alli : Inner w B vs Z
  out : w.ownsRow B 24 1 ov U.length us
  outi : Inner w B us U
  sub : ∀ x ∈ us, x ∈ vs.take k ∨ Until C x
  since : ∀ x ∈ vs, Since C x
  apart : Away lv ov
section
variable {w w' : World} {B C k : Nat} {lv ov : Value} {vs us : List Value} {Z U : List (List Int)}
theorem Sib.below (h : Sib w B C lv vs Z ov us U k) (hb : Below w.heap.size w w') : Sib w' B C lv vs Z ov us U k :=
  ⟨own_below h.all hb, h.alli.keepI (KeepI.of_below hb), own_below h.out hb, h.outi.keepI (KeepI.of_below hb), h.sub, h.since, h.apart⟩
theorem Sib.skip (h : Sib w B C lv vs Z ov us U k) : Sib w B C lv vs Z ov us U (k + 1) :=
  ⟨h.all, h.alli, h.out, h.outi, fun x hx => by
    rcases h.sub x hx with h1 | h1
    · rw [List.take_add_one]
      exact .inl (List.mem_append_left _ h1)
    · exact .inr h1, h.since, h.apart⟩
theorem Sib.outS (h : Sib w B C lv vs Z ov us U k) : IntsS w B ov U := ⟨us, h.out, h.outi⟩
theorem Sib.allS (h : Sib w B C lv vs Z ov us U k) : IntsS w B lv Z := ⟨vs, h.all, h.alli⟩
theorem Sib.row (h : Sib w B C lv vs Z ov us U k) {A : Option Addr} {n c : Nat} (hv : lv = .slice A n c) {i : Nat} (hi : i < n) :
    ∃ ad A' c' z, A = some ad ∧ Z[i]? = some z ∧ vs[i]? = some (.slice A' z.length c') ∧ w.cell? (ad.add i) = some (.slice A' z.length c') ∧ Ints w B (.slice A' z.length c') z := by
  subst hv
  have h1 := h.all
  have hn : n = Z.length := by
    rcases h1.2 with ⟨hv, hz⟩ | ⟨g, cap, cur, hv, _⟩
    · injection hv with _ h3; omega
    · injection hv
  subst hn
  obtain ⟨ad, u, hA, _, hu, hc⟩ := (Reads.of_own_at h1).at_ hi
  have hz : Z[i]? = some Z[i] := List.getElem?_eq_getElem hi
  have hr := h.alli.row i u _ hu hz
  obtain ⟨A', c', rfl⟩ := hr.slice
  exact ⟨ad, A', c', _, hA, hz, hu, hc, hr⟩
/-- A new list behind rows that stand. -/
theorem Sib.next {W : World} {n : Nat} {A : Option Addr} {c : Nat} (ho : IntsS W B ov U) (hb : Below W.heap.size W w) (h : IntsS w W.heap.size (.slice A n c) Z) (hB : B ≤ W.heap.size) : ∃ vs us, Sib w B W.heap.size (.slice A n c) vs Z ov us U 0 := by
  obtain ⟨us, o1, o2⟩ := ho
  obtain ⟨vs, h1, h2⟩ := h
  refine ⟨vs, us, ?_, h2.low hB, own_below o1 hb, o2.keepI (KeepI.of_below hb), fun x hx => .inr ?_, fun x hx => ?_, ?_⟩
  · refine ⟨h1.1, ?_⟩
    rcases h1.2 with h0 | ⟨g, cap, cur, hv, hb', hr⟩
    · exact .inl h0
    · exact .inr ⟨g, cap, cur, hv, Nat.le_trans hB hb', hr⟩
  · obtain ⟨z, hz⟩ := o2.mem hx
    exact hz.until_
  · obtain ⟨z, hz⟩ := h2.mem hx
    exact hz.since
  · rcases h1.2 with ⟨hv, _⟩ | ⟨g, cap, cur, hv, hb', _⟩
    · exact .inl (by rw [hv]; rfl)
    · refine .inr fun e => ?_
      rw [hv] at e
      have h5 := (o1.lt g (by rw [← e]; rfl)).2
      omega
theorem Sib.start {W : World} {n : Nat} {A : Option Addr} {c : Nat} (ho : W.ownsRow B 24 1 ov 0 []) (hb : Below W.heap.size W w) (h : IntsS w W.heap.size (.slice A n c) Z) (hB : B ≤ W.heap.size) : ∃ vs us, Sib w B W.heap.size (.slice A n c) vs Z ov us [] 0 :=
  Sib.next ⟨[], ho, Inner.nil _ _⟩ hb h hB
theorem mem_take_at {vs : List Value} {k : Nat} {x : Value} (h : x ∈ vs.take k) : ∃ i, i < k ∧ vs[i]? = some x := by
  obtain ⟨i, hi, he⟩ := List.getElem_of_mem h
  rw [List.length_take] at hi
  refine ⟨i, by omega, ?_⟩
  rw [← he, List.getElem_take]
  exact List.getElem?_eq_getElem (by omega)
theorem pair_at {vs : List Value} (h : vs.Pairwise Away) {i k : Nat} {x y : Value} (hik : i < k) (hx : vs[i]? = some x) (hy : vs[k]? = some y) : Away x y := by
  obtain ⟨h1, rfl⟩ := List.getElem?_eq_some_iff.1 hx
  obtain ⟨h2, rfl⟩ := List.getElem?_eq_some_iff.1 hy
  exact (List.pairwise_iff_getElem.1 h) i k h1 h2 hik
end
theorem wpList_sift {ops : Array Oper} {rest : List Oper} {o : Oper} {a : Act} {W : World} {Q : Exit → Act → World → Prop} (hgd : o.guard = none) (sl x : Operand)
    (ho : o.op = .call { callee := .builtin .append, args := #[sl, x], argTypes := #[22, 22] })
    (B C : Nat) (W0 wr : World) (lv v u : Value) (vs us : List Value) (Z U : List (List Int)) (k : Nat) (z : List Int) (hs : a.eval sl = v) (hx : a.eval x = .slice (some ⟨wr.heap.size, 0, none⟩) 1 1) (hW : W = wr.alloc (.cells #[u] 24))
    (h : Sib wr B C lv vs Z v us U k) (hu : vs[k]? = some u) (hz : Z[k]? = some z) (hn : U.length ≤ 1048576) (hb : Below B W0 wr) (hbase : B ≤ W0.heap.size)
    (K : ∀ v' w', Sib w' B C lv vs Z v' (us ++ [u]) (U ++ [z]) (k + 1) → Below B W0 w' → wpList Try.prog ops Q rest (a.put o.dst v') w') : wpList Try.prog ops Q (o :: rest) a W := by
  obtain ⟨i0, hi, hz0, hz1, hz2⟩ := info_parts rowsInfo
  have hal := (Below.refl wr.heap.size wr).alloc (Nat.le_refl _) (.cells #[u] 24)
  have h0 := h.below hal
  have hBw : B ≤ wr.heap.size := Nat.le_trans hbase hb.size
  have hr := h.alli.row k u z hu hz
  obtain ⟨A1, c1, rfl⟩ := hr.slice
  subst hW
  refine wpList_append_own_at _ hgd sl x 22 ho B 24 i0 (.slice none 0 0) 1 24 Try.underlying22 hi hz0 hz1 hz2 rfl (by decide) v _ _ hs h0.out ⟨wr.heap.size, 0, none⟩ 1 1 [.slice A1 z.length c1] hx rfl ?_ ?_ (by unfold maxLen; omega) (by omega) (by simp; omega) ?_
  · intro j y hj
    match j, hj with
    | 0, hj => simp at hj; subst hj; simp [Addr.add]
  · intro y hy
    obtain rfl := List.mem_singleton.1 hy
    rfl
  · intro v' w' h1 h2 _ h4
    have hk := KeepI.of_grown h0.out h2
    refine K v' w' ⟨h0.all.kept h2 h0.apart, h0.alli.keepI hk, by rw [List.length_append]; exact h1, ?_, ?_, h.since, ?_⟩ ?_
    · refine (h0.outi.keepI hk).push ((h0.alli.row k _ z hu hz).keepI hk) fun y hy => ?_
      rcases h.sub y hy with h6 | h6
      · obtain ⟨i, hik, hy2⟩ := mem_take_at h6
        exact pair_at h.alli.away hik hy2 hu
      · exact apart h6 (h.since _ (List.mem_of_getElem? hu)) (Nat.le_refl _)
    · intro y hy
      rcases List.mem_append.1 hy with hy | hy
      · rcases h.sub y hy with h6 | h6
        · rw [List.take_add_one]
          exact .inl (List.mem_append_left _ h6)
        · exact .inr h6
      · obtain rfl := List.mem_singleton.1 hy
        rw [List.take_add_one, hu]
        exact .inl (by simp)
    · rcases h4 with h4 | h4
      · rcases h.apart with ha | ha
        · exact .inl ha
        · exact .inr (by rw [h4]; exact ha)
      · cases hl : lv.ownBlock with
        | none => exact .inl hl
        | some g =>
          refine .inr ?_
          rw [hl, h4]
          intro e
          have h5 := (h.all.lt g hl).2
          have h6 := (h0.all.lt g hl).2
          simp at e
          omega
    · exact (hb.trans (hal.mono hBw)).grown h2 (by simp; omega) (fun g hg => (h.out.lt g hg).1)
end Go.Proofs.Ytknjgehcaadomaa
