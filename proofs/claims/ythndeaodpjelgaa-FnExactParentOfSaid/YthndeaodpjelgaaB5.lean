/-
  Words and contracts that the laws lean on, bundled: Sift, PermsOf, Fill, SymS, ClsS, AllS, OrdS, ClassO, ClassN.
-/
import Derived.Test.YthndeaodpjelgaaB4
import Derived.Test.YthndeaodpjelgaaB2
import Derived.Test.YthndeaodpjelgaaB3
import Derived.Test.YthndeaodpjelgaaB1

/-
  WORDS: a list of rows taken out of another one ('out = append(out, all[k])'). Nothing here speaks of a function of the program.
-/

namespace Go.Proofs.Ythndeaodpjelgaa
set_option maxRecDepth 100000
open Go.RowKit

/-- The list lv holds the rows Z, all made from block C on; the list ov holds U: some of lv's first k rows and rows made before. -/
structure Sib (w : World) (B C : Nat) (lv : Value) (vs : List Value) (Z : List (List Int)) (ov : Value) (us : List Value) (U : List (List Int)) (k : Nat) : Prop where
  all : w.ownsRow B 22 1 lv Z.length vs
  alli : Inner w B vs Z
  out : w.ownsRow B 22 1 ov U.length us
  outi : Inner w B us U
  sub : ∀ x ∈ us, x ∈ vs.take k ∨ Until C x
  since : ∀ x ∈ vs, Since C x
  apart : Away lv ov
section
variable {w w' : World} {B C k : Nat} {lv ov : Value} {vs us : List Value} {Z U : List (List Int)}
theorem Sib.below (h : Sib w B C lv vs Z ov us U k) (hb : Below w.heap.size w w') : Sib w' B C lv vs Z ov us U k :=
  ⟨own_below h.all hb, h.alli.keepI (KeepI.of_below hb), own_below h.out hb, h.outi.keepI (KeepI.of_below hb), h.sub, h.since, h.apart⟩
theorem Sib.skip (h : Sib w B C lv vs Z ov us U k) : Sib w B C lv vs Z ov us U (k + 1) :=
  ⟨h.all, h.alli, h.out, h.outi, fun x hx => by
    rcases h.sub x hx with h1 | h1
    · rw [List.take_add_one]
      exact .inl (List.mem_append_left _ h1)
    · exact .inr h1, h.since, h.apart⟩
theorem Sib.outS (h : Sib w B C lv vs Z ov us U k) : IntsS w B ov U := ⟨us, h.out, h.outi⟩
theorem Sib.allS (h : Sib w B C lv vs Z ov us U k) : IntsS w B lv Z := ⟨vs, h.all, h.alli⟩
theorem Sib.row (h : Sib w B C lv vs Z ov us U k) {A : Option Addr} {n c : Nat} (hv : lv = .slice A n c) {i : Nat} (hi : i < n) :
    ∃ ad A' c' z, A = some ad ∧ Z[i]? = some z ∧ vs[i]? = some (.slice A' z.length c') ∧ w.cell? (ad.add i) = some (.slice A' z.length c') ∧ Ints w B (.slice A' z.length c') z := by
  subst hv
  have h1 := h.all
  have hn : n = Z.length := by
    rcases h1.2 with ⟨hv, hz⟩ | ⟨g, cap, cur, hv, _⟩
    · injection hv with _ h3; omega
    · injection hv
  subst hn
  obtain ⟨ad, u, hA, _, hu, hc⟩ := (Reads.of_own_at h1).at_ hi
  have hz : Z[i]? = some Z[i] := List.getElem?_eq_getElem hi
  have hr := h.alli.row i u _ hu hz
  obtain ⟨A', c', rfl⟩ := hr.slice
  exact ⟨ad, A', c', _, hA, hz, hu, hc, hr⟩
/-- A new list behind rows that stand. -/
theorem Sib.next {W : World} {n : Nat} {A : Option Addr} {c : Nat} (ho : IntsS W B ov U) (hb : Below W.heap.size W w) (h : IntsS w W.heap.size (.slice A n c) Z) (hB : B ≤ W.heap.size) : ∃ vs us, Sib w B W.heap.size (.slice A n c) vs Z ov us U 0 := by
  obtain ⟨us, o1, o2⟩ := ho
  obtain ⟨vs, h1, h2⟩ := h
  refine ⟨vs, us, ?_, h2.low hB, own_below o1 hb, o2.keepI (KeepI.of_below hb), fun x hx => .inr ?_, fun x hx => ?_, ?_⟩
  · refine ⟨h1.1, ?_⟩
    rcases h1.2 with h0 | ⟨g, cap, cur, hv, hb', hr⟩
    · exact .inl h0
    · exact .inr ⟨g, cap, cur, hv, Nat.le_trans hB hb', hr⟩
  · obtain ⟨z, hz⟩ := o2.mem hx
    exact hz.until_
  · obtain ⟨z, hz⟩ := h2.mem hx
    exact hz.since
  · rcases h1.2 with ⟨hv, _⟩ | ⟨g, cap, cur, hv, hb', _⟩
    · exact .inl (by rw [hv]; rfl)
    · refine .inr fun e => ?_
      rw [hv] at e
      have h5 := (o1.lt g (by rw [← e]; rfl)).2
      omega
theorem Sib.start {W : World} {n : Nat} {A : Option Addr} {c : Nat} (ho : W.ownsRow B 22 1 ov 0 []) (hb : Below W.heap.size W w) (h : IntsS w W.heap.size (.slice A n c) Z) (hB : B ≤ W.heap.size) : ∃ vs us, Sib w B W.heap.size (.slice A n c) vs Z ov us [] 0 :=
  Sib.next ⟨[], ho, Inner.nil _ _⟩ hb h hB
theorem mem_take_at {vs : List Value} {k : Nat} {x : Value} (h : x ∈ vs.take k) : ∃ i, i < k ∧ vs[i]? = some x := by
  obtain ⟨i, hi, he⟩ := List.getElem_of_mem h
  rw [List.length_take] at hi
  refine ⟨i, by omega, ?_⟩
  rw [← he, List.getElem_take]
  exact List.getElem?_eq_getElem (by omega)
theorem pair_at {vs : List Value} (h : vs.Pairwise Away) {i k : Nat} {x y : Value} (hik : i < k) (hx : vs[i]? = some x) (hy : vs[k]? = some y) : Away x y := by
  obtain ⟨h1, rfl⟩ := List.getElem?_eq_some_iff.1 hx
  obtain ⟨h2, rfl⟩ := List.getElem?_eq_some_iff.1 hy
  exact (List.pairwise_iff_getElem.1 h) i k h1 h2 hik
end
theorem wpList_sift {ops : Array Oper} {rest : List Oper} {o : Oper} {a : Act} {W : World} {Q : Exit → Act → World → Prop} (hgd : o.guard = none) (sl x : Operand)
    (ho : o.op = .call { callee := .builtin .append, args := #[sl, x], argTypes := #[37, 37] })
    (B C : Nat) (W0 wr : World) (lv v u : Value) (vs us : List Value) (Z U : List (List Int)) (k : Nat) (z : List Int) (hs : a.eval sl = v) (hx : a.eval x = .slice (some ⟨wr.heap.size, 0, none⟩) 1 1) (hW : W = wr.alloc (.cells #[u] 22))
    (h : Sib wr B C lv vs Z v us U k) (hu : vs[k]? = some u) (hz : Z[k]? = some z) (hn : U.length ≤ 1048576) (hb : Below B W0 wr) (hbase : B ≤ W0.heap.size)
    (K : ∀ v' w', Sib w' B C lv vs Z v' (us ++ [u]) (U ++ [z]) (k + 1) → Below B W0 w' → wpList Try.prog ops Q rest (a.put o.dst v') w') : wpList Try.prog ops Q (o :: rest) a W := by
  obtain ⟨i0, hi, hz0, hz1, hz2⟩ := info_parts rowsInfo
  have hal := (Below.refl wr.heap.size wr).alloc (Nat.le_refl _) (.cells #[u] 22)
  have h0 := h.below hal
  have hBw : B ≤ wr.heap.size := Nat.le_trans hbase hb.size
  have hr := h.alli.row k u z hu hz
  obtain ⟨A1, c1, rfl⟩ := hr.slice
  subst hW
  refine wpList_append_own_at _ hgd sl x 37 ho B 22 i0 (.slice none 0 0) 1 24 Try.underlying37 hi hz0 hz1 hz2 rfl (by decide) v _ _ hs h0.out ⟨wr.heap.size, 0, none⟩ 1 1 [.slice A1 z.length c1] hx rfl ?_ ?_ (by unfold maxLen; omega) (by omega) (by simp; omega) ?_
  · intro j y hj
    match j, hj with
    | 0, hj => simp at hj; subst hj; simp [Addr.add]
  · intro y hy
    obtain rfl := List.mem_singleton.1 hy
    rfl
  · intro v' w' h1 h2 _ h4
    have hk := KeepI.of_grown h0.out h2
    refine K v' w' ⟨h0.all.kept h2 h0.apart, h0.alli.keepI hk, by rw [List.length_append]; exact h1, ?_, ?_, h.since, ?_⟩ ?_
    · refine (h0.outi.keepI hk).push ((h0.alli.row k _ z hu hz).keepI hk) fun y hy => ?_
      rcases h.sub y hy with h6 | h6
      · obtain ⟨i, hik, hy2⟩ := mem_take_at h6
        exact pair_at h.alli.away hik hy2 hu
      · exact apart h6 (h.since _ (List.mem_of_getElem? hu)) (Nat.le_refl _)
    · intro y hy
      rcases List.mem_append.1 hy with hy | hy
      · rcases h.sub y hy with h6 | h6
        · rw [List.take_add_one]
          exact .inl (List.mem_append_left _ h6)
        · exact .inr h6
      · obtain rfl := List.mem_singleton.1 hy
        rw [List.take_add_one, hu]
        exact .inl (by simp)
    · rcases h4 with h4 | h4
      · rcases h.apart with ha | ha
        · exact .inl ha
        · exact .inr (by rw [h4]; exact ha)
      · cases hl : lv.ownBlock with
        | none => exact .inl hl
        | some g =>
          refine .inr ?_
          rw [hl, h4]
          intro e
          have h5 := (h.all.lt g hl).2
          have h6 := (h0.all.lt g hl).2
          simp at e
          omega
    · exact (hb.trans (hal.mono hBw)).grown h2 (by simp; omega) (fun g hg => (h.out.lt g hg).1)
end Go.Proofs.Ythndeaodpjelgaa


/-
  spec.PermsOf and impl.PermsOf, by their contracts.
-/

namespace Go.Proofs.Ythndeaodpjelgaa
set_option maxRecDepth 100000
open Go.RowKit

theorem own_head {w : World} {base n : Nat} {v : Value} {xs : List Value} {e : TypeId} (h : w.ownsRow base e 1 v n xs) (hn : 0 < n) : ∃ g c, v = .slice (some ⟨g, 0, none⟩) n c := by
  rcases h.2 with ⟨_, h0⟩ | ⟨g, cap, cur, rfl, _⟩
  · omega
  · exact ⟨g, cap, rfl⟩

theorem IntsS.push {w : World} {B : Nat} {v : Value} {vs : List Value} {zss : List (List Int)} {u : Value} {zs : List Int} {n : Nat} (hn : n = zss.length) (hown : w.ownsRow B 22 1 v (n + 1) (vs ++ [u])) (hin : Inner w B (vs ++ [u]) (zss ++ [zs])) : IntsS w B v (zss ++ [zs]) := by
  subst hn
  refine ⟨vs ++ [u], ?_, hin⟩
  rw [List.length_append]
  exact hown

end Go.Proofs.Ythndeaodpjelgaa


/-
  spec.l2Fill and spec.PermsOf, by their contracts.
-/

namespace Go.Proofs.Ythndeaodpjelgaa
set_option maxRecDepth 100000
open Go.RowKit

def FillEnds (w : World) (B : Nat) (zss : List (List Int)) (e : Ending) (w' : World) : Prop := ∃ v, e = .returned v ∧ IntsS w' B v zss ∧ Below B w w' ∧ KeepI w w'
/-- What l2Fill is handed: a head, a list of rows, the head away from them. -/
structure Handed (w : World) (B : Nat) (hv : Value) (hd : List Int) (ov : Value) (out : List (List Int)) (vs : List Value) : Prop where
  head : Ints w B hv hd
  own : w.ownsRow B 22 1 ov out.length vs
  inner : Inner w B vs out
  away : ∀ x ∈ vs, Away x hv

theorem below_ends {w0 w w' : World} {B : Nat} {zss : List (List Int)} {e : Ending} (hb : Below B w0 w) (hk : KeepI w0 w) (h : FillEnds w B zss e w') : FillEnds w0 B zss e w' := by
  obtain ⟨v, he, hI, hb2, hk2⟩ := h
  exact ⟨v, he, hI, hb.trans hb2, hk.trans hk2⟩

end Go.Proofs.Ythndeaodpjelgaa


/-
  spec.l3Symmetry and spec.SymmetryOf, by their contracts.
-/

namespace Go.Proofs.Ythndeaodpjelgaa
set_option maxRecDepth 100000
open Go.RowKit

end Go.Proofs.Ythndeaodpjelgaa


/-
  spec.SymmetryClass and spec.LeastSymmetry, by their contracts.
-/

namespace Go.Proofs.Ythndeaodpjelgaa
set_option maxRecDepth 100000
open Go.RowKit

theorem PutS.start (w : World) : PutS (w.alloc (.cells #[] 22)) w.heap.size (.slice (some ⟨w.heap.size, 0, none⟩) 0 0) [] := ⟨IntsS.made0 w w.heap.size (Nat.le_refl _), w.heap.size, 0, rfl⟩
theorem PutS.below {w w' : World} {B : Nat} {v : Value} {zss : List (List Int)} (h : PutS w B v zss) (hb : Below w.heap.size w w') : PutS w' B v zss := ⟨h.1.below hb, h.2⟩
theorem PutS.keepDrew {w w' : World} {B : Nat} {v : Value} {zss : List (List Int)} (h : PutS w B v zss) (hd : Drew w w') : PutS w' B v zss := h.below (hd.below _)
theorem ordL_all {l : List (List Int)} (h : allP l = true) (k : Nat) : ∀ z ∈ ordL l k, isP z = true := fun _ hz => allP_at h (List.mem_of_mem_take (ordL_mem.1 hz))
theorem tot_le8 : ∀ l : List (List Int), (∀ z ∈ l, z.length ≤ 8) → tot l ≤ 8 * l.length
  | [], _ => by simp [tot]
  | z :: l, h => by
    have h1 := h z (by simp)
    have h2 := tot_le8 l fun y hy => h y (by simp [hy])
    simp only [tot, List.length_cons, List.map_cons, List.sum_cons] at h2 ⊢
    omega
theorem clsR_small (p : List Int) : (clsR p).length ≤ 8 ∧ tot (clsR p) ≤ 64 := by
  have h1 := clsR_len p
  have h2 := tot_le8 (clsR p) fun z hz => isP_le (clsR_mem hz)
  omega
end Go.Proofs.Ythndeaodpjelgaa


/-
  spec.l3All, by its contract.
-/

namespace Go.Proofs.Ythndeaodpjelgaa
set_option maxRecDepth 100000
open Go.RowKit

end Go.Proofs.Ythndeaodpjelgaa


/-
  spec.l3All and spec.OrderPerms, by their contracts.
-/

namespace Go.Proofs.Ythndeaodpjelgaa
set_option maxRecDepth 100000
open Go.RowKit

theorem tot_app (a b : List (List Int)) : tot (a ++ b) = tot a + tot b := by simp [tot]
theorem tot_put (l : List (List Int)) (p : List Int) : tot (putL l p) ≤ tot l + p.length := by
  unfold putL
  split
  · omega
  · have h := congrArg tot (List.take_append_drop (scanL l p l.length) l)
    rw [tot_app] at h
    rw [tot_app, tot_app]
    have : tot [p] = p.length := by simp [tot]
    omega
theorem tot_foldl : ∀ (l a : List (List Int)), tot (l.foldl putL a) ≤ tot a + tot l
  | [], a => by simp [tot]
  | p :: l, a => by
    have h1 := tot_foldl l (putL a p)
    have h2 := tot_put a p
    have h3 := tot_app [p] l
    have h4 : tot [p] = p.length := by simp [tot]
    rw [List.foldl_cons]
    rw [List.singleton_append] at h3
    omega
theorem ordR_tot (l : List (List Int)) : tot (ordR l) ≤ tot l := by
  cases h : allP l with
  | true =>
    rw [ordR_yes h]
    unfold ordL
    have h1 := tot_foldl (l.take l.length) []
    rw [List.take_length] at h1 ⊢
    simpa [tot] using h1
  | false => rw [ordR_no h]; simp [tot]
end Go.Proofs.Ythndeaodpjelgaa


/-
  spec.ClassOf and spec.MakeBasis, by their contracts.
-/

namespace Go.Proofs.Ythndeaodpjelgaa
set_option maxRecDepth 100000
open Go.RowKit

theorem clsO_no {L : List (List Int)} {m : Int} (h : ¬ (basis L = true ∧ 0 ≤ m ∧ m ≤ 6)) : clsO L m = [] := by unfold clsO; rw [if_neg h]
theorem clsO_yes {L : List (List Int)} {k : Nat} (h : basis L = true) (hk : k ≤ 6) : clsO L (k : Int) = sift (avo L) (permL k) (permL k).length := by
  unfold clsO
  rw [if_pos ⟨h, by omega, by omega⟩, sift_all, Int.toNat_natCast]
  rfl
theorem permL_isPm : ∀ n : Nat, n ≤ 6 → ∀ z ∈ permL n, isP z = true := by decide +kernel
end Go.Proofs.Ythndeaodpjelgaa


/-
  spec.l12Next, by its contract.
-/

namespace Go.Proofs.Ythndeaodpjelgaa
set_option maxRecDepth 100000
open Go.RowKit

theorem keep_low2 {B : Nat} {wr w : World} {p q : Addr} {u v : Value} (h1 : wr.cell? p = some u) (h2 : wr.cell? q = some v) (l1 : p.block < B) (l2 : q.block < B) (hb : Below B wr w) : w.cell? p = some u ∧ w.cell? q = some v ∧ Below B wr w := ⟨(hb.cell l1).trans h1, (hb.cell l2).trans h2, hb⟩
/-- The next level, its first k rows whole. -/
def nxtK (L : List (List Int)) (zl : List (List Int)) (K k : Nat) : List (List Int) := (zl.take k).flatMap fun z => (nxAll K z).filter (avo L)
theorem nxtK_zero (L zl : List (List Int)) (K : Nat) : nxtK L zl K 0 = [] := by simp [nxtK]
theorem nxtK_step {L zl : List (List Int)} {K k : Nat} {z : List Int} (h : zl[k]? = some z) : nxtK L zl K (k + 1) = nxtK L zl K k ++ sift (avo L) (nxAll K z) K := by
  unfold nxtK
  rw [List.take_add_one, h, List.flatMap_append]
  unfold sift
  rw [show (nxAll K z).take K = nxAll K z from List.take_of_length_le (by simp [nxAll])]
  simp
theorem nxtK_le (L zl : List (List Int)) (K : Nat) : ∀ k, (nxtK L zl K k).length ≤ k * K
  | 0 => by rw [nxtK_zero]; simp
  | k + 1 => by
    have ih := nxtK_le L zl K k
    by_cases hk : k < zl.length
    · rw [nxtK_step (List.getElem?_eq_getElem hk), List.length_append, Nat.add_mul]
      have := sift_le (avo L) (nxAll K zl[k]) K
      omega
    · have e : nxtK L zl K (k + 1) = nxtK L zl K k := by unfold nxtK; rw [List.take_of_length_le (by omega), List.take_of_length_le (by omega)]
      rw [e]
      exact Nat.le_trans ih (Nat.mul_le_mul_right _ (by omega))
theorem nxAll_at {K m : Nat} {z : List Int} (h : m < K) : (nxAll K z)[m]? = some (nxP z ((m : Int) + 1)) := by unfold nxAll; rw [List.getElem?_map, List.getElem?_range h]; rfl
theorem map_up_step {z : List Int} {v x : Int} {i : Nat} (h : z[i]? = some x) : (z.map (up v)).take i ++ [up v x] = (z.map (up v)).take (i + 1) := (take_snoc_i (by rw [List.getElem?_map, h]; rfl)).symm
end Go.Proofs.Ythndeaodpjelgaa
