/-
  Words and contracts that the laws lean on, bundled: App, Filled, End, IntsA, NearW, PermS, Asc, ArrEq, IsPerm.
-/
import Derived.Test.YtabfjmabiapgoaaB2
import Derived.Laws.AppendOwnNone
import Derived.Test.YtabfjmabiapgoaaRows
import Derived.ProofKit
import Derived.OpenShut
import Derived.Carry
import Derived.SliceStrings
import Derived.LaidMore
import Derived.Test.YtabfjmabiapgoaaProg
import Derived.Test.YtabfjmabiapgoaaB1
import Derived.Deep.QuietTactic
import Derived.BigQuiet
import Derived.Laws.Rows
import Derived.Laws.Tables
import Derived.Laws.StructEq
import Derived.Deep.RegionHeld3

/-
  WORDS FOR append: a list that is read, behind a row of the call's own. Nothing here speaks of a function of the program.
-/

namespace Go.Proofs.Ytabfjmabiapgoaa
set_option maxRecDepth 100000
open Go.RowKit

theorem i64_append (xs ys : List Int) : i64s xs ++ i64s ys = i64s (xs ++ ys) := by unfold i64s; rw [List.map_append]
theorem i64_one (xs : List Int) : ∀ u ∈ i64s xs, u.oneCell' = true := fun u hu => by
  unfold i64s at hu
  obtain ⟨z, _, rfl⟩ := List.mem_map.1 hu
  rfl
/-- 'append(s, x...)', s a row of the call's own, x a list that is read: at the operation, at the list of a plain region, at a step of a region that draws. -/
theorem wp_append_arg {o : Oper} {a : Act} {W : World} {K : Act → World → Prop} {Q : Exit → Act → World → Prop} (s x : Operand)
    (ho : o.op = .call { callee := .builtin .append, args := #[s, x], argTypes := #[22, 22] })
    (base B m n c : Nat) (w0 : World) (v : Value) (A : Option Addr) (xs zs : List Int) (hs : a.eval s = v) (hx : a.eval x = .slice A n c) (hown : W.ownsRow base 3 1 v m (i64s xs)) (h : Arg W B A n c zs)
    (hm : m ≤ 1099511627776) (hb : Below base w0 W) (hbase : base ≤ W.heap.size)
    (hK : ∀ v' w', w'.ownsRow base 3 1 v' (m + n) (i64s (xs ++ zs)) → Below base w0 w' → W.grownBy w' v.ownBlock → K (a.put o.dst v') w') : o.wp Try.prog a W K Q := by
  obtain ⟨i0, hi, hz0, hz1, hz2⟩ := info_parts intInfo
  have hn := h.le
  have hl := h.len
  cases A with
  | none =>
    obtain rfl : c = 0 := h.nil rfl
    have hc := h.cap
    obtain rfl : n = 0 := by omega
    obtain rfl := List.eq_nil_of_length_eq_zero hl
    have hrun := run_append_owned_none (P := Try.prog) (w := W) base 22 o.type 3 i0 1 Try.underlying22 hi v m _ hown
    unfold Oper.wp execOp
    simp only [ho, resolve, invoke, builtin, Sem.run_bind, Sem.run_pure, Result.andThen_ok, List.map_toArray, List.map_cons, List.map_nil, hs, hx, hrun]
    exact hK v W (by rw [List.append_nil]; exact hown) hb (World.grownBy.refl W _)
  | some ad =>
    have hr := h.reads
    refine wp_append_own W s x 22 ho base 3 i0 (.int .i64 0) 1 8 Try.underlying22 hi hz0 hz1 hz2 rfl (by decide) v m _ hs hown ad n c (i64s zs) hx (by rw [i64_length, hl]; omega) ?_ (i64_one zs) (by unfold maxLen; omega) (by omega) hbase ?_
    · intro j u hu
      have hj : j < n := by have := (List.getElem?_eq_some_iff.1 hu).1; rw [i64_length, hl] at this; exact this
      obtain ⟨ad', he, _, hc⟩ := hr.2 (by omega)
      injection he with he
      subst he
      exact hc j u hu
    · intro v' w' h1 h2 _
      rw [i64_append] at h1
      exact hK v' w' h1 (hb.grown h2 hbase (fun k hk => (hown.lt k hk).1)) h2
theorem wpList_append_arg {ops : Array Oper} {rest : List Oper} {o : Oper} {a : Act} {W : World} {Q : Exit → Act → World → Prop} (hgd : o.guard = none) (s x : Operand)
    (ho : o.op = .call { callee := .builtin .append, args := #[s, x], argTypes := #[22, 22] })
    (base B m n c : Nat) (w0 : World) (v : Value) (A : Option Addr) (xs zs : List Int) (hs : a.eval s = v) (hx : a.eval x = .slice A n c) (hown : W.ownsRow base 3 1 v m (i64s xs)) (h : Arg W B A n c zs)
    (hm : m ≤ 1099511627776) (hb : Below base w0 W) (hbase : base ≤ W.heap.size)
    (K : ∀ v' w', w'.ownsRow base 3 1 v' (m + n) (i64s (xs ++ zs)) → Below base w0 w' → W.grownBy w' v.ownBlock → wpList Try.prog ops Q rest (a.put o.dst v') w') : wpList Try.prog ops Q (o :: rest) a W :=
  wpList_plain hgd fun _ hK => wp_append_arg s x ho base B m n c w0 v A xs zs hs hx hown h hm hb hbase fun v' w' h1 h2 h3 => hK _ _ (K v' w' h1 h2 h3)
theorem step_append_arg {ops : Array Oper} {o : Oper} {a : Act} {W : World} {K : Act → World → Prop} {Q : Exit → Act → World → Prop} {E : Prop} (hgd : o.guard = none) (s x : Operand)
    (ho : o.op = .call { callee := .builtin .append, args := #[s, x], argTypes := #[22, 22] })
    (base B m n c : Nat) (w0 : World) (v : Value) (A : Option Addr) (xs zs : List Int) (hs : a.eval s = v) (hx : a.eval x = .slice A n c) (hown : W.ownsRow base 3 1 v m (i64s xs)) (h : Arg W B A n c zs)
    (hm : m ≤ 1099511627776) (hb : Below base w0 W) (hbase : base ≤ W.heap.size)
    (hK : ∀ v' w', w'.ownsRow base 3 1 v' (m + n) (i64s (xs ++ zs)) → Below base w0 w' → W.grownBy w' v.ownBlock → K (a.put o.dst v') w') :
    if Region.wanted o (yielded ops a.tmps) = true then Oper.wp Try.prog o a W K Q else E := by
  have hw : Region.wanted o (yielded ops a.tmps) = true := by simp [Region.wanted, hgd]
  rw [if_pos hw]
  exact wp_append_arg s x ho base B m n c w0 v A xs zs hs hx hown h hm hb hbase hK

theorem reads_new (w : World) (v : Value) (t : TypeId) : Reads (w.alloc (.cells #[v] t)) (w.heap.size + 1) (some ⟨w.heap.size, 0, none⟩) 1 [v] := ⟨rfl, fun _ => ⟨_, rfl, by simp, fun j u hu => by
  rw [show (⟨w.heap.size, 0, none⟩ : Addr).add j = ⟨w.heap.size, j, none⟩ by unfold Addr.add; split <;> simp_all, World.cell?_alloc_new]
  simpa using hu⟩⟩
/-- 'append(s, z)' at a step of a region that draws: the one cell lies in the region's own new block. -/
theorem step_append_one {ops : Array Oper} {o : Oper} {a : Act} {W : World} {K : Act → World → Prop} {Q : Exit → Act → World → Prop} {E : Prop} (hgd : o.guard = none) (s x : Operand)
    (ho : o.op = .call { callee := .builtin .append, args := #[s, x], argTypes := #[22, 22] })
    (base m : Nat) (w0 wr : World) (v : Value) (xs : List Int) (z : Int) (hs : a.eval s = v) (hx : a.eval x = .slice (some ⟨wr.heap.size, 0, none⟩) 1 1) (hW : W = (wr.alloc (.cells #[.int .i64 z] 3)).drew) (hown : wr.ownsRow base 3 1 v m (i64s xs))
    (hz : -9223372036854775808 ≤ z ∧ z ≤ 9223372036854775807) (hm : m ≤ 1099511627776) (hb : Below base w0 wr) (hbase : base ≤ wr.heap.size)
    (hK : ∀ v' w', w'.ownsRow base 3 1 v' (m + 1) (i64s (xs ++ [z])) → Below base w0 w' → K (a.put o.dst v') w') :
    if Region.wanted o (yielded ops a.tmps) = true then Oper.wp Try.prog o a W K Q else E := by
  subst hW
  have hal := (Below.refl wr.heap.size wr).alloc (Nat.le_refl _) (.cells #[.int .i64 z] 3)
  have hb2 : Below wr.heap.size wr (wr.alloc (.cells #[.int .i64 z] 3)).drew := hal.drew
  refine step_append_arg hgd s x ho base (wr.heap.size + 1) m 1 1 w0 v (some ⟨wr.heap.size, 0, none⟩) xs [z] hs hx (own_below hown hb2) ?_ hm (hb.trans (hb2.mono hbase)) (Nat.le_trans hbase hb2.size) fun v' w' h1 h2 _ => hK v' w' h1 h2
  refine ⟨(reads_new wr (.int .i64 z) 3).drew, by simp, by omega, Nat.le_refl _, fun y hy => ?_, fun e => by cases e⟩
  rw [List.mem_singleton] at hy
  subst hy
  exact hz

theorem own_cut {w : World} {B g n cap s : Nat} {e : TypeId} {xs : List Value} (h : w.ownsRow B e 1 (.slice (some ⟨g, 0, none⟩) n cap) n xs) (hs : s ≤ n) : w.ownsRow B e 1 (.slice (some ⟨g, 0, none⟩) s cap) s (xs.take s) := by
  have hl : xs.length = n := by simpa using h.1
  refine ⟨by rw [List.length_take]; omega, ?_⟩
  rcases h.2 with ⟨hv, _⟩ | ⟨g', cap', cur, hv, hb, hg, hnc, hc, hsz, ht⟩
  · cases hv
  · injection hv with h1 h2 h3
    injection h1 with h1
    injection h1 with h1
    subst h1; subst h3
    refine .inr ⟨g, cap, cur, rfl, hb, hg, by omega, hc, hsz, ?_⟩
    rw [← ht, Nat.mul_one, Nat.mul_one, List.take_take, Nat.min_eq_left hs]
theorem own_rest {w : World} {B g n cap s : Nat} {e : TypeId} {xs : List Value} (h : w.ownsRow B e 1 (.slice (some ⟨g, 0, none⟩) n cap) n xs) (hs : s ≤ n) : Reads w w.heap.size (some ⟨g, s, none⟩) (n - s) (xs.drop s) := by
  have hr := Reads.of_own_at h
  have hl := hr.1
  refine ⟨by rw [List.length_drop]; omega, fun h0 => ?_⟩
  obtain ⟨ad, he, hb, hc⟩ := hr.2 (by omega)
  injection he with he
  subst he
  refine ⟨_, rfl, hb, fun j u hu => ?_⟩
  rw [List.getElem?_drop] at hu
  have := hc (s + j) u hu
  rw [show (⟨g, 0, none⟩ : Addr).add (s + j) = ⟨g, s + j, none⟩ by unfold Addr.add; split <;> simp_all] at this
  rw [show (⟨g, s, none⟩ : Addr).add j = ⟨g, s + j, none⟩ by unfold Addr.add; split <;> simp_all]
  exact this
theorem own_first {w : World} {base n : Nat} {v : Value} {xs : List Value} {e : TypeId} (h : w.ownsRow base e 1 v n xs) (hn : 0 < n) : ∃ g c, v = .slice (some ⟨g, 0, none⟩) n c ∧ base ≤ g ∧ n ≤ c := by
  rcases h.2 with ⟨_, h0⟩ | ⟨g, cap, cur, rfl, hb, hg, hnc, _⟩
  · omega
  · exact ⟨g, cap, rfl, hb, hnc⟩
/-! the same for rows of rows: x reads as the values news -/
theorem rowsInfo1 : (Try.prog.info? 22).map (fun i => (i.zero, i.size, i.bytes)) = some (some (.slice none 0 0), 1, 24) := by kernel_rfl
theorem wp_append_rows {o : Oper} {a : Act} {W : World} {K : Act → World → Prop} {Q : Exit → Act → World → Prop} (s x : Operand)
    (ho : o.op = .call { callee := .builtin .append, args := #[s, x], argTypes := #[43, 43] })
    (base B m n c : Nat) (w0 : World) (v : Value) (A : Option Addr) (xs news : List Value) (hs : a.eval s = v) (hx : a.eval x = .slice A n c) (hown : W.ownsRow base 22 1 v m xs) (hr : Reads W B A n news) (hA : A = none → c = 0) (h1 : ∀ u ∈ news, u.oneCell' = true)
    (hm : m ≤ 1099511627776) (hn : n ≤ 1099511627776) (hb : Below base w0 W) (hbase : base ≤ W.heap.size)
    (hK : ∀ v' w', w'.ownsRow base 22 1 v' (m + n) (xs ++ news) → Below base w0 w' → W.grownBy w' v.ownBlock → (v' = .slice none 0 0 → v = .slice none 0 0) → K (a.put o.dst v') w') : o.wp Try.prog a W K Q := by
  obtain ⟨i0, hi, hz0, hz1, hz2⟩ := info_parts rowsInfo1
  cases A with
  | none =>
    obtain rfl : c = 0 := hA rfl
    obtain rfl : n = 0 := by
      by_cases h0 : 0 < n
      · obtain ⟨ad, he, _⟩ := hr.2 h0
        cases he
      · omega
    obtain rfl := List.eq_nil_of_length_eq_zero hr.1
    have hrun := run_append_owned_none (P := Try.prog) (w := W) base 43 o.type 22 i0 1 Try.underlying43 hi v m _ hown
    unfold Oper.wp execOp
    simp only [ho, resolve, invoke, builtin, Sem.run_bind, Sem.run_pure, Result.andThen_ok, List.map_toArray, List.map_cons, List.map_nil, hs, hx, hrun]
    exact hK v W (by rw [List.append_nil]; exact hown) hb (World.grownBy.refl W _) id
  | some ad =>
    refine wp_append_own W s x 43 ho base 22 i0 (.slice none 0 0) 1 24 Try.underlying43 hi hz0 hz1 hz2 rfl (by decide) v m _ hs hown ad n c news hx (by rw [hr.1]; omega) ?_ h1 (by unfold maxLen; omega) (by omega) hbase ?_
    · intro j u hu
      have hj : j < n := by have := (List.getElem?_eq_some_iff.1 hu).1; have := hr.1; omega
      obtain ⟨ad', he, _, hc⟩ := hr.2 (by omega)
      injection he with he
      subst he
      exact hc j u hu
    · intro v' w' h1 h2 h3
      exact hK v' w' h1 (hb.grown h2 hbase (fun k hk => (hown.lt k hk).1)) h2 (fun e => (h3.1 e).1)
theorem wpList_append_rows {ops : Array Oper} {rest : List Oper} {o : Oper} {a : Act} {W : World} {Q : Exit → Act → World → Prop} (hgd : o.guard = none) (s x : Operand)
    (ho : o.op = .call { callee := .builtin .append, args := #[s, x], argTypes := #[43, 43] })
    (base B m n c : Nat) (w0 : World) (v : Value) (A : Option Addr) (xs news : List Value) (hs : a.eval s = v) (hx : a.eval x = .slice A n c) (hown : W.ownsRow base 22 1 v m xs) (hr : Reads W B A n news) (hA : A = none → c = 0) (h1 : ∀ u ∈ news, u.oneCell' = true)
    (hm : m ≤ 1099511627776) (hn : n ≤ 1099511627776) (hb : Below base w0 W) (hbase : base ≤ W.heap.size)
    (K : ∀ v' w', w'.ownsRow base 22 1 v' (m + n) (xs ++ news) → Below base w0 w' → W.grownBy w' v.ownBlock → (v' = .slice none 0 0 → v = .slice none 0 0) → wpList Try.prog ops Q rest (a.put o.dst v') w') : wpList Try.prog ops Q (o :: rest) a W :=
  wpList_plain hgd fun _ hK => wp_append_rows s x ho base B m n c w0 v A xs news hs hx hown hr hA h1 hm hn hb hbase fun v' w' h1 h2 h3 h4 => hK _ _ (K v' w' h1 h2 h3 h4)
theorem step_append_rows {ops : Array Oper} {o : Oper} {a : Act} {W : World} {K : Act → World → Prop} {Q : Exit → Act → World → Prop} {E : Prop} (hgd : o.guard = none) (s x : Operand)
    (ho : o.op = .call { callee := .builtin .append, args := #[s, x], argTypes := #[43, 43] })
    (base B m n c : Nat) (w0 : World) (v : Value) (A : Option Addr) (xs news : List Value) (hs : a.eval s = v) (hx : a.eval x = .slice A n c) (hown : W.ownsRow base 22 1 v m xs) (hr : Reads W B A n news) (hA : A = none → c = 0) (h1 : ∀ u ∈ news, u.oneCell' = true)
    (hm : m ≤ 1099511627776) (hn : n ≤ 1099511627776) (hb : Below base w0 W) (hbase : base ≤ W.heap.size)
    (hK : ∀ v' w', w'.ownsRow base 22 1 v' (m + n) (xs ++ news) → Below base w0 w' → W.grownBy w' v.ownBlock → (v' = .slice none 0 0 → v = .slice none 0 0) → K (a.put o.dst v') w') :
    if Region.wanted o (yielded ops a.tmps) = true then Oper.wp Try.prog o a W K Q else E := by
  have hw : Region.wanted o (yielded ops a.tmps) = true := by simp [Region.wanted, hgd]
  rw [if_pos hw]
  exact wp_append_rows s x ho base B m n c w0 v A xs news hs hx hown hr hA h1 hm hn hb hbase hK
end Go.Proofs.Ytabfjmabiapgoaa


/-
  WORDS FOR A LIST OF ROWS THAT IS FILLED PLACE BY PLACE. Nothing here speaks of a function of the program.
-/

namespace Go.Proofs.Ytabfjmabiapgoaa
set_option maxRecDepth 100000
open Go.RowKit

/-! a list of rows that is filled place by place -/
def fillS (zss : List (List Int)) (k : Nat) : List (List Int) := zss.take k ++ List.replicate (zss.length - k) []
theorem fillS_zero (zss : List (List Int)) : fillS zss 0 = List.replicate zss.length [] := by simp [fillS]
theorem fillS_length (zss : List (List Int)) (k : Nat) (h : k ≤ zss.length) : (fillS zss k).length = zss.length := by simp [fillS]; omega
theorem fillS_all (zss : List (List Int)) : fillS zss zss.length = zss := by simp [fillS]
theorem fillS_set {zss : List (List Int)} {k : Nat} {z : List Int} (h : zss[k]? = some z) : (fillS zss k).set k z = fillS zss (k + 1) := by
  have hk : k < zss.length := (List.getElem?_eq_some_iff.1 h).1
  unfold fillS
  rw [List.set_append_right _ _ (by rw [List.length_take]; omega), List.length_take, Nat.min_eq_left (by omega), Nat.sub_self, show zss.length - k = (zss.length - (k + 1)) + 1 by omega, List.replicate_succ, List.set_cons_zero, List.take_add_one, h]
  simp
theorem Inner.zero (w : World) (B n : Nat) : Inner w B (List.replicate n (.slice none 0 0)) (List.replicate n []) := by
  refine ⟨by simp, fun i u zs hu hz => ?_, ?_⟩
  · obtain ⟨_, rfl⟩ := List.mem_replicate.1 (List.mem_of_getElem? hu)
    obtain ⟨_, rfl⟩ := List.mem_replicate.1 (List.mem_of_getElem? hz)
    exact Ints.nil w B
  · refine List.pairwise_of_forall_mem_list fun a ha b _ => ?_
    obtain ⟨_, rfl⟩ := List.mem_replicate.1 ha
    exact .inl rfl
theorem Inner.set {w : World} {B : Nat} {vs : List Value} {zss : List (List Int)} {u : Value} {z : List Int} (h : Inner w B vs zss) (k : Nat) (hu : Ints w B u z) (ha : ∀ x ∈ vs, Away x u) : Inner w B (vs.set k u) (zss.set k z) := by
  have hl := h.len
  refine ⟨by simp [hl], fun i x ys hx hy => ?_, ?_⟩
  · rw [List.getElem?_set] at hx hy
    by_cases e : k = i
    · subst e
      rw [if_pos rfl] at hx hy
      by_cases hk : k < vs.length
      · rw [if_pos hk] at hx
        rw [if_pos (by omega)] at hy
        cases hx; cases hy
        exact hu
      · rw [if_neg hk] at hx
        cases hx
    · rw [if_neg e] at hx hy
      exact h.row i x ys hx hy
  · rw [List.pairwise_iff_getElem]
    intro i j hi hj hij
    rw [List.length_set] at hi hj
    rw [List.getElem_set, List.getElem_set]
    by_cases e1 : k = i
    · rw [if_pos e1, if_neg (by omega)]
      exact (ha _ (List.getElem_mem hj)).symm
    · rw [if_neg e1]
      by_cases e2 : k = j
      · rw [if_pos e2]
        exact ha _ (List.getElem_mem hi)
      · rw [if_neg e2]
        exact List.pairwise_iff_getElem.1 h.away i j hi hj hij
/-- A row of rows that is filled up to k. -/
structure Filled (w wr : World) (g n : Nat) (zss : List (List Int)) (k : Nat) : Prop where
  below : Below w.heap.size w wr
  rows : ∃ vs, wr.ownsRow w.heap.size 22 1 (.slice (some ⟨g, 0, none⟩) n n) n vs ∧ Inner wr w.heap.size vs (fillS zss k)
theorem made_rows (n : Nat) : (madeCells (Value.slice none 0 0).cells (n * 1)).toList = List.replicate n (.slice none 0 0) := by
  rw [Nat.mul_one]
  exact toList_madeCells_one _ _
/-- One more row, made behind all that stands. -/
theorem Filled.put {w wr w' : World} {g n k : Nat} {zss : List (List Int)} {z : List Int} {u : Value} (h : Filled w wr g n zss k) (hz : zss[k]? = some z) (hb : Below wr.heap.size wr w') (hu : Ints w' wr.heap.size u z) :
    Filled w (w'.setCell ⟨g, k, none⟩ u) g n zss (k + 1) := by
  obtain ⟨h1, vs, h2, h3⟩ := h
  have o := own_below h2 hb
  have i := h3.keepI (KeepI.of_below hb)
  have ha := h3.away_new hu.since (Nat.le_refl _)
  have st := o.stored k u
  have hk := KeepI.of_grown o st.2
  have hg := (h2.lt g rfl).1
  refine ⟨(below_after h1 hb).setCell hg _, _, st.1, ?_⟩
  rw [← fillS_set hz]
  exact (i.keepI hk).set k ((hu.low h1.size).keepI hk) ha
theorem Filled.old {w wr w' : World} {g n k : Nat} {zss : List (List Int)} (h : Filled w wr g n zss k) (hb : Below wr.heap.size wr w') (hk : k < n) : (∃ old, w'.cell? ⟨g, k, none⟩ = some old) ∧ w'.frozen? ⟨g, k, none⟩ = false := by
  obtain ⟨_, vs, h2, _⟩ := h
  have o := own_below h2 hb
  have hl : vs.length = n := by simpa using o.1
  exact ⟨⟨_, by rw [o.cellAt k (by omega)]; exact List.getElem?_eq_getElem (by omega)⟩, o.frozenAt k⟩
theorem Filled.start {w w0 w1 : World} {g n : Nat} {zss : List (List Int)} (hl : zss.length = n) (hb : Below w.heap.size w w0) (hown : w1.ownsRow w.heap.size 22 1 (.slice (some ⟨g, 0, none⟩) n n) n (madeCells (Value.slice none 0 0).cells (n * 1)).toList) (hg : w0.grownBy w1 none) : Filled w w1 g n zss 0 := by
  refine ⟨hb.grown hg hb.size (by simp), _, hown, ?_⟩
  rw [made_rows, fillS_zero, hl]
  exact Inner.zero _ _ _

end Go.Proofs.Ytabfjmabiapgoaa


/-
  THE LAST STEP OF A LAW: the walk's answer 'true' and 'nothing below the call's own blocks has turned' give the row's post. One lemma for all laws.
-/

namespace Go.Proofs.Ytabfjmabiapgoaa
set_option maxRecDepth 100000
open Go.ChangeShapes Go.WideShapes Go.ChangeAt Go.RowKit

theorem trodAll_below {H : Type} {enc : TypeId × Value → H} {P : Program} (hl : laidOutB P = true) {W W' : World} (hb : Below W.heap.size W W') :
    ∀ (ts : List TypeId) (vs : List Value) (ds : List (DataW H)) (ps : List MemPlace), (∀ t ∈ ts, P.readableRec t = true ∧ t < P.types.size) → (∀ x ∈ ps, x.block < W.heap.size) →
      DataW.TrodAll enc P W 0 (fun _ => true) true ts vs ds ps → DataW.TrodAll enc P W' 0 (fun b => decide (b < W.heap.size)) true ts vs ds ps
  | [], vs, ds, ps, _, _, h => by
    obtain ⟨rfl, rfl, rfl⟩ := trodAll_nil h
    exact trodAll_mk0
  | t :: ts, vs, ds, ps, ht, hp, h => by
    obtain ⟨v, vs1, d, ds1, a, b, rfl, rfl, rfl, h1, h2⟩ := trodAll_cons h
    exact ⟨a, b, Below.trod hl (ht t (by simp)).1 (ht t (by simp)).2 h1 hb (fun x hx => hp x (by simp [hx])),
      trodAll_below hl hb ts vs1 ds1 b (fun t' h' => ht t' (by simp [h'])) (fun x hx => hp x (by simp [hx])) h2, rfl⟩

theorem law_end {H : Type} {enc : TypeId × Value → H} {P : Program} {f : Func} {s : ChangeSpec} {W W' : World} {args : Array Value} {ds gs : List (DataW H)} {before : List MemPlace} {tb : TypeId}
    (hl : laidOutB P = true) (hts : ∀ t ∈ f.params.toList, P.readableRec t = true ∧ t < P.types.size) (hb4 : P.underlying tb = some .bool) (hrt : f.resultTypes = #[tb]) (hv : s.vars = [])
    (hW : DataW.Whole enc P f.params.toList s.vars false W args.toList ds gs before)
    (hfn : s.fn H (ds ++ gs) = { results := [.lit (.bool true)], args := ds }) (hbel : Below W.heap.size W W') :
    s.post enc P f false true false false W args (.bool true) W' := by
  have hlt : ∀ x ∈ before, x.block < W.heap.size := fun x hx => by simpa using hW.lt x hx
  have hW' := hW
  obtain ⟨p, q, hA, hV, rfl, _, _⟩ := hW
  rw [hv] at hV
  obtain ⟨rfl, rfl⟩ := trodVars_none hV
  have hargs := trodAll_below hl hbel _ _ _ _ hts (fun x hx => hlt x (by simp [hx])) hA
  refine ⟨ds, [], _, [] ++ [], p, [], hW', ?_, ?_, ?_, hbel.frame _, fun h => by cases h⟩
  · rw [hfn, hrt]; exact trodAll_mk1 (shut_bool hb4 _)
  · rw [hfn]; exact hargs
  · rw [hfn, hv]; rfl

theorem lt_of_row {W : World} {a : Addr} {m j : Nat} (hlt : ∀ x ∈ MemPlace.row a m, x.block < W.heap.size) (hj : j < m) : a.block < W.heap.size :=
  hlt (.cell a.block (a.off + j)) (MemPlace.mem_row.2 ⟨j, hj, rfl⟩)

/-- An argument []string, as 'Reads'. -/
theorem open_strs_reads {H : Type} {enc : TypeId × Value → H} {P : Program} {w : World} {r : Reach} {b0 t e : TypeId} {v : Value} {d : DataW H} {ps : List MemPlace} (ht : P.underlying t = some (.slice e)) (he : P.underlying e = some .string) (hc : P.cellsOf e = 1)
    (hval : Value.okWide P w r b0 t v) (h : DataW.Trod enc P w 0 (fun _ => true) true t v d ps) (hlt : ∀ x ∈ ps, x.block < w.heap.size) :
    ∃ (A : Option Addr) (n c : Nat) (ss : List ByteArray), v = .slice A n c ∧ Reads w w.heap.size A n (ss.map Value.string) ∧ n ≤ maxLen ∧ ∀ s ∈ ss, s.size ≤ maxLen := by
  obtain ⟨a0, len, cap, rfl⟩ := okWide_slice ht hval
  obtain ⟨fuel, hf⟩ := h
  rcases open_strings ht he hc hf with ⟨hcs, hx⟩ | ⟨a, len', cap', ss, hcs, _, hl, hm, hz, hx, hcell, hws⟩
  · simp [Value.cells] at hcs
    obtain ⟨rfl, rfl, rfl⟩ := hcs
    exact ⟨none, 0, 0, [], rfl, Reads.none_, Nat.zero_le _, by simp⟩
  · simp [Value.cells] at hcs
    obtain ⟨rfl, rfl, rfl⟩ := hcs
    simp only [Prod.mk.injEq] at hx
    obtain ⟨rfl, rfl⟩ := hx
    simp only [if_true] at hz
    refine ⟨some a, len, cap, ss.take len, rfl, ⟨by simp; omega, fun hn => ⟨a, rfl, lt_of_row (j := 0) hlt (by omega), fun j u hu => ?_⟩⟩, by omega, fun s hs => hws s (List.mem_of_mem_take hs)⟩
    rw [List.getElem?_map, List.getElem?_take] at hu
    by_cases hj : j < len
    · rw [if_pos hj] at hu
      rw [hcell j (by omega), ← hu, List.getD_eq_getElem?_getD]
      have : ss[j]? = some ss[j] := List.getElem?_eq_getElem (by omega)
      rw [this]; rfl
    · rw [if_neg hj] at hu; cases hu

/-- An argument of integers, as 'Reads'. -/
theorem open_ints_reads {H : Type} {enc : TypeId × Value → H} {P : Program} {w : World} {r : Reach} {b0 t e : TypeId} {ik : IntKind} {v : Value} {d : DataW H} {ps : List MemPlace} (ht : P.underlying t = some (.slice e)) (he : P.underlying e = some (.int ik)) (hc : P.cellsOf e = 1)
    (hval : Value.okWide P w r b0 t v) (h : DataW.Trod enc P w 0 (fun _ => true) true t v d ps) (hlt : ∀ x ∈ ps, x.block < w.heap.size) :
    ∃ (A : Option Addr) (n c : Nat) (zs : List Int), v = .slice A n c ∧ Reads w w.heap.size A n (zs.map (Value.int ik)) ∧ n ≤ maxLen ∧ ∀ z ∈ zs, (Lit.int ik z).wf = true := by
  obtain ⟨a0, len, cap, rfl⟩ := okWide_slice ht hval
  obtain ⟨fuel, hf⟩ := h
  rcases open_ints ht he hc hf with ⟨hcs, hx⟩ | ⟨a, len', cap', zs, hcs, _, hl, hm, hz, hx, hcell, hws⟩
  · simp [Value.cells] at hcs
    obtain ⟨rfl, rfl, rfl⟩ := hcs
    exact ⟨none, 0, 0, [], rfl, Reads.none_, Nat.zero_le _, by simp⟩
  · simp [Value.cells] at hcs
    obtain ⟨rfl, rfl, rfl⟩ := hcs
    simp only [Prod.mk.injEq] at hx
    obtain ⟨rfl, rfl⟩ := hx
    simp only [if_true] at hz
    refine ⟨some a, len, cap, zs.take len, rfl, ⟨by simp; omega, fun hn => ⟨a, rfl, lt_of_row (j := 0) hlt (by omega), fun j u hu => ?_⟩⟩, by omega, fun s hs => hws s (List.mem_of_mem_take hs)⟩
    rw [List.getElem?_map, List.getElem?_take] at hu
    by_cases hj : j < len
    · rw [if_pos hj] at hu
      rw [hcell j (by omega), ← hu, List.getD_eq_getElem?_getD]
      have : zs[j]? = some zs[j] := List.getElem?_eq_getElem (by omega)
      rw [this]; rfl
    · rw [if_neg hj] at hu; cases hu
theorem bytes_of_wf : ∀ (zs : List Int), (∀ z ∈ zs, (Lit.int .u8 z).wf = true) → ∃ bs : List UInt8, zs.map (Value.int .u8) = u8s bs
  | [], _ => ⟨[], rfl⟩
  | z :: r, h => by
    obtain ⟨bs, hb⟩ := bytes_of_wf r (fun y hy => h y (by simp [hy]))
    have hz : 0 ≤ z ∧ z ≤ 255 := by simpa [Lit.wf, IntKind.min, IntKind.max, IntKind.signed, IntKind.bits] using h z (by simp)
    refine ⟨UInt8.ofNat z.toNat :: bs, ?_⟩
    have e : ((UInt8.ofNat z.toNat).toNat : Int) = z := by rw [UInt8.toNat_ofNat']; omega
    simp only [u8s, List.map_cons, e]
    rw [hb]; rfl
theorem open_bytes_reads {H : Type} {enc : TypeId × Value → H} {P : Program} {w : World} {r : Reach} {b0 t e : TypeId} {v : Value} {d : DataW H} {ps : List MemPlace} (ht : P.underlying t = some (.slice e)) (he : P.underlying e = some (.int .u8)) (hc : P.cellsOf e = 1)
    (hval : Value.okWide P w r b0 t v) (h : DataW.Trod enc P w 0 (fun _ => true) true t v d ps) (hlt : ∀ x ∈ ps, x.block < w.heap.size) :
    ∃ (A : Option Addr) (n c : Nat) (bs : List UInt8), v = .slice A n c ∧ Reads w w.heap.size A n (u8s bs) ∧ n ≤ maxLen := by
  obtain ⟨A, n, c, zs, rfl, hr, hn, hw⟩ := open_ints_reads ht he hc hval h hlt
  obtain ⟨bs, hb⟩ := bytes_of_wf zs hw
  exact ⟨A, n, c, bs, rfl, by rw [← hb]; exact hr, hn⟩
theorem cellsByte : Try.prog.cellsOf 5 = 1 := by kernel_rfl

theorem laidOut : laidOutB Try.prog = true := by kernel_rfl
theorem own : ownKnob Try.prog.godebug = none := by kernel_rfl
end Go.Proofs.Ytabfjmabiapgoaa


/-
  LISTS OF ROWS AS ARGUMENTS: how they read; szIntS, szIntSS, toIntSS by their contracts.
-/

namespace Go.Proofs.Ytabfjmabiapgoaa
set_option maxRecDepth 100000
open Go.RowKit Go.ChangeShapes Go.WideShapes Go.ChangeAt

/-- The slice value '.slice A n c' holds rows that read as the lists zss, all below block B. -/
structure ReadsS (w : World) (B : Nat) (A : Option Addr) (n : Nat) (zss : List (List Int)) : Prop where
  len : zss.length = n
  rows : 0 < n → ∃ ad, A = some ad ∧ ad.block < B ∧ ∀ (j : Nat) z, zss[j]? = some z → ∃ A' c', w.cell? (ad.add j) = some (.slice A' z.length c') ∧ Reads w B A' z.length (i64s z)
theorem ReadsS.below {w w' : World} {B n : Nat} {A : Option Addr} {zss : List (List Int)} (h : ReadsS w B A n zss) (hb : Below B w w') : ReadsS w' B A n zss :=
  ⟨h.len, fun hn => by
    obtain ⟨ad, e, h1, h2⟩ := h.rows hn
    refine ⟨ad, e, h1, fun j z hz => ?_⟩
    obtain ⟨A', c', h3, h4⟩ := h2 j z hz
    exact ⟨A', c', (hb.cell (by rw [block_of_add]; exact h1)).trans h3, h4.below hb⟩⟩
theorem ReadsS.at_ {w : World} {B n k : Nat} {A : Option Addr} {zss : List (List Int)} (h : ReadsS w B A n zss) (hk : k < n) : ∃ ad A' c' z, A = some ad ∧ zss[k]? = some z ∧ w.cell? (ad.add k) = some (.slice A' z.length c') ∧ Reads w B A' z.length (i64s z) := by
  obtain ⟨ad, e, h1, h2⟩ := h.rows (by omega)
  have hz : zss[k]? = some (zss[k]'(by rw [h.len]; exact hk)) := List.getElem?_eq_getElem _
  obtain ⟨A', c', h3, h4⟩ := h2 k _ hz
  exact ⟨ad, A', c', _, e, hz, h3, h4⟩
theorem list_of {β : Type} {P : Nat → β → Prop} : ∀ n : Nat, (∀ i, i < n → ∃ z, P i z) → ∃ l : List β, l.length = n ∧ ∀ (i : Nat) z, l[i]? = some z → P i z
  | 0, _ => ⟨[], rfl, fun i z h => by simp at h⟩
  | n + 1, h => by
    obtain ⟨l, h1, h2⟩ := list_of n fun i hi => h i (by omega)
    obtain ⟨z, hz⟩ := h n (by omega)
    refine ⟨l ++ [z], by simp [h1], fun i y hy => ?_⟩
    by_cases hi : i < l.length
    · rw [List.getElem?_append_left hi] at hy
      exact h2 i y hy
    · rw [List.getElem?_append_right (by omega)] at hy
      have h0 : i - l.length = 0 := by
        have := (List.getElem?_eq_some_iff.1 hy).1
        simp at this
        omega
      rw [h0] at hy
      simp at hy
      subst hy
      rw [show i = n by omega]
      exact hz
/-- An argument [][]int, as 'ReadsS'. -/
theorem open_intss_reads {H : Type} {enc : TypeId × Value → H} {P : Program} {w : World} {r : Reach} {b0 t e ei : TypeId} {v : Value} {d : DataW H} {ps : List MemPlace} (ht : P.underlying t = some (.slice e)) (he : P.underlying e = some (.slice ei)) (hei : P.underlying ei = some (.int .i64)) (hc : P.cellsOf e = 1) (hci : P.cellsOf ei = 1)
    (hval : Value.okWide P w r b0 t v) (h : DataW.Trod enc P w 0 (fun _ => true) true t v d ps) (hlt : ∀ x ∈ ps, x.block < w.heap.size) :
    ∃ (A : Option Addr) (n c : Nat) (zss : List (List Int)), v = .slice A n c ∧ ReadsS w w.heap.size A n zss ∧ n ≤ maxLen ∧ ∀ z ∈ zss, z.length ≤ maxLen ∧ Small z := by
  obtain ⟨a0, len, cap, rfl⟩ := okWide_slice ht hval
  obtain ⟨fuel, hf⟩ := h
  rcases DataW.trod_slice ht hf with ⟨hcs, hx⟩ | ⟨a, len', cap', elems, rest, m, _, hcs, hx, _, hl, hm, hlen, hel, _, _⟩
  · simp [Value.cells] at hcs
    obtain ⟨rfl, rfl, rfl⟩ := hcs
    exact ⟨none, 0, 0, [], rfl, ⟨rfl, fun h => absurd h (by omega)⟩, Nat.zero_le _, by simp⟩
  · simp [Value.cells] at hcs
    obtain ⟨rfl, rfl, rfl⟩ := hcs
    simp only [Prod.mk.injEq] at hx
    obtain ⟨_, rfl⟩ := hx
    have each : ∀ i, i < len → ∃ z : List Int, (∃ A' c', w.cell? (a.add i) = some (.slice A' z.length c') ∧ Reads w w.heap.size A' z.length (i64s z)) ∧ z.length ≤ maxLen ∧ Small z := by
      intro i hi
      have h1 := hel i hi
      rw [hc, Nat.mul_one, List.getElem?_eq_getElem (by omega), Option.bind_eq_some_iff] at h1
      obtain ⟨cs', hcs', htr⟩ := h1
      have hq : ∀ x ∈ (elems[i]'(by omega)).2, x.block < w.heap.size := fun x hx => hlt x (by
        refine List.mem_append.2 (.inr (List.mem_flatMap.2 ⟨elems[i]'(by omega), List.mem_append.2 (.inl (List.getElem_mem _)), hx⟩))
      )
      rcases open_ints he hei hci htr with ⟨rfl, _⟩ | ⟨a', len'', cap'', zs, rfl, _, hl', hm', hz, hx', hcell, hws⟩
      · exact ⟨[], ⟨none, 0, cell_of_cells?_one hcs', Reads.none_⟩, Nat.zero_le _, fun z hz => by simp at hz⟩
      · simp only [if_true] at hz
        have e1 : (zs.take len'').length = len'' := by rw [List.length_take]; omega
        refine ⟨zs.take len'', ⟨some a', cap'', by rw [e1]; exact cell_of_cells?_one hcs', ?_⟩, by omega, small_of_wf fun z hz => hws z (List.mem_of_mem_take hz)⟩
        refine ⟨by rw [i64_length], fun hn => ⟨a', rfl, ?_, fun j u hu => ?_⟩⟩
        · rw [hx'] at hq
          exact lt_of_row (j := 0) hq (by omega)
        · unfold i64s at hu
          rw [List.getElem?_map, List.getElem?_take] at hu
          by_cases hj : j < len''
          · rw [if_pos hj] at hu
            rw [hcell j (by omega), ← hu, List.getD_eq_getElem?_getD]
            have : zs[j]? = some zs[j] := List.getElem?_eq_getElem (by omega)
            rw [this]; rfl
          · rw [if_neg hj] at hu; cases hu
    obtain ⟨zss, hz1, hz2⟩ := list_of len each
    refine ⟨some a, len, cap, zss, rfl, ⟨hz1, fun hn => ⟨a, rfl, ?_, fun j z hz => (hz2 j z hz).1⟩⟩, by omega, fun z hz => ?_⟩
    · rw [hc] at hlt
      refine lt_of_row (m := (elems.length + rest.length) * 1) (j := 0) (fun x hx => hlt x (List.mem_append.2 (.inl hx))) (by omega)
    · obtain ⟨i, hi, rfl⟩ := List.getElem_of_mem hz
      exact (hz2 i _ (List.getElem?_eq_getElem hi)).2
theorem cellsRow : Try.prog.cellsOf 22 = 1 := by kernel_rfl

theorem szi_any (A : Option Addr) (n c : Nat) (L : Int) (hL : 0 ≤ L ∧ L ≤ 1048576) (hn : n ≤ maxLen) (w : World) :
    Calls Try.prog 26 #[.slice A n c, .int .i64 L] w fun e w' => e = .returned (.int .i64 (if L < n then -1 else L - n)) ∧ w = w' := by
  unfold maxLen at hn
  obtain ⟨hL1, hL2⟩ := hL
  by_cases hlt : L < n
  · rw [if_pos hlt]
    have h1 : L - (n : Int) < 0 := by omega
    go_enter Try.func26, Try.ntmps26
    go_wp2
    go_ret
    exact ⟨rfl, rfl⟩
  · rw [if_neg hlt]
    have h1 : ¬ L - (n : Int) < 0 := by omega
    go_enter Try.func26, Try.ntmps26
    go_wp2
    go_ret
    exact ⟨rfl, rfl⟩
end Go.Proofs.Ytabfjmabiapgoaa


/-
  Structs of two rows: the words for them; eqNear, markNear, heldNear, szNear, toNear by their contracts.
-/

namespace Go.Proofs.Ytabfjmabiapgoaa
set_option maxRecDepth 100000
open Go.RowKit

/-- Two rows from block B on, apart from one another. -/
structure NearAt (w : World) (B : Nat) (pv jv : Value) (q J : List Int) : Prop where
  p : Ints w B pv q
  j : Ints w B jv J
  away : Away pv jv
theorem NearAt.below {w w' : World} {B : Nat} {pv jv : Value} {q J : List Int} (h : NearAt w B pv jv q J) (hb : Below w.heap.size w w') : NearAt w' B pv jv q J := ⟨h.p.below hb, h.j.below hb, h.away⟩
theorem NearAt.low {w : World} {B B' : Nat} {pv jv : Value} {q J : List Int} (h : NearAt w B pv jv q J) (hB : B' ≤ B) : NearAt w B' pv jv q J := ⟨h.p.low hB, h.j.low hB, h.away⟩
theorem Ints.past {w : World} {B : Nat} {v : Value} {zs : List Int} (h : Ints w B v zs) {p : Addr} (hp : p.block < B) (u : Value) : Ints (w.setCell p u) B v zs := by
  refine ⟨h.1, ?_⟩
  rcases h.2 with hn | ⟨g, cap, cur, e, rfl, hb, hgg, h1, h2, he⟩
  · exact .inl hn
  · exact .inr ⟨g, cap, cur, e, rfl, hb, (Below.heap_setCell w p u g (by omega)).trans hgg, h1, h2, he⟩
theorem NearAt.past {w : World} {B : Nat} {pv jv : Value} {q J : List Int} (h : NearAt w B pv jv q J) {p : Addr} (hp : p.block < B) (u : Value) : NearAt (w.setCell p u) B pv jv q J := ⟨h.p.past hp u, h.j.past hp u, h.away⟩
/-- .. and below block U. -/
def NSeal (w : World) (B U : Nat) (pv jv : Value) (q J : List Int) : Prop := NearAt w B pv jv q J ∧ Until U pv ∧ Until U jv
section
variable {w w' : World} {B U : Nat} {pv jv : Value} {q J : List Int}
theorem NearAt.sealed (h : NearAt w B pv jv q J) : NSeal w B w.heap.size pv jv q J := ⟨h, h.p.until_, h.j.until_⟩
theorem NSeal.opened (h : NSeal w B U pv jv q J) : NearAt w B pv jv q J := h.1
theorem NSeal.below (h : NSeal w B U pv jv q J) (hb : Below w.heap.size w w') : NSeal w' B U pv jv q J := ⟨h.1.below hb, h.2⟩
theorem NSeal.after {u : Value} {E : Nat} (h : NSeal w B U pv jv q J) (hg : w.grownBy w' u.ownBlock) (hu : Until E u) (hE : E ≤ B) : NSeal w' B U pv jv q J :=
  ⟨⟨h.1.p.kept hg (apart' h.1.p.since hu hE), h.1.j.kept hg (apart' h.1.j.since hu hE), h.1.away⟩, h.2⟩
theorem NSeal.turnLow {B0 U0 : Nat} (h : NSeal w B0 U0 pv jv q J) (ht : Turned B U w w') (hU : U0 ≤ B) : NSeal w' B0 U0 pv jv q J :=
  ⟨⟨h.1.p.turnLow h.2.1 ht hU, h.1.j.turnLow h.2.2 ht hU, h.1.away⟩, h.2⟩
theorem NSeal.turnHigh {B0 U0 : Nat} (h : NSeal w B0 U0 pv jv q J) (ht : Turned B U w w') (hU : U ≤ B0) : NSeal w' B0 U0 pv jv q J :=
  ⟨⟨h.1.p.turnHigh ht hU, h.1.j.turnHigh ht hU, h.1.away⟩, h.2⟩
end
/-- A struct of two rows, and whether. -/
def GivesNB (w : World) (q J : List Int) (b : Bool) (e : Ending) (w' : World) : Prop :=
  ∃ A c P d, e = .returned (.tuple #[.agg #[.slice A q.length c, .slice P J.length d], .bool b]) ∧ NearAt w' w.heap.size (.slice A q.length c) (.slice P J.length d) q J ∧ Below w.heap.size w w'
def GivesNr (w : World) (q J : List Int) (e : Ending) (w' : World) : Prop :=
  ∃ A c P d, e = .returned (.agg #[.slice A q.length c, .slice P J.length d]) ∧ NearAt w' w.heap.size (.slice A q.length c) (.slice P J.length d) q J ∧ Below w.heap.size w w'
theorem GivesNB.mk {w w' : World} {pv jv : Value} {q J : List Int} (b : Bool) (h : NearAt w' w.heap.size pv jv q J) (hb : Below w.heap.size w w') : GivesNB w q J b (.returned (.tuple #[.agg #[pv, jv], .bool b])) w' := by
  obtain ⟨A, c, rfl⟩ := h.p.slice
  obtain ⟨P, d, rfl⟩ := h.j.slice
  exact ⟨A, c, P, d, rfl, h, hb⟩
theorem GivesNr.mk {w w' : World} {pv jv : Value} {q J : List Int} (h : NearAt w' w.heap.size pv jv q J) (hb : Below w.heap.size w w') : GivesNr w q J (.returned (.agg #[pv, jv])) w' := by
  obtain ⟨A, c, rfl⟩ := h.p.slice
  obtain ⟨P, d, rfl⟩ := h.j.slice
  exact ⟨A, c, P, d, rfl, h, hb⟩
theorem NearAt.none_ (w : World) (B : Nat) : NearAt w B (.slice none 0 0) (.slice none 0 0) [] [] := ⟨Ints.nil w B, Ints.nil w B, .inl rfl⟩

set_option maxHeartbeats 800000 in
theorem eqnear_any (A P A' P' : Option Addr) (n c m d n' c' m' d' B B' : Nat) (q J : List Int) (w : World) (h : NearAt w B (.slice A n c) (.slice P m d) q J) (h' : NearAt w B' (.slice A' n' c') (.slice P' m' d') q J)
    (hr : q.length ≤ 1048576) (hp : J.length ≤ 1048576) :
    Calls Try.prog 12 #[.agg #[.slice A n c, .slice P m d], .agg #[.slice A' n' c', .slice P' m' d']] w (GivesB w true) := by
  have b1' := (Below.refl _ w).alloc (Nat.le_refl _) (.cells #[.slice A n c, .slice P m d] 27)
  have b2' := b1'.alloc (by simp) (.cells #[.slice A' n' c', .slice P' m' d'] 27)
  have g1 := (Whole.new w 27 #[.slice A n c, .slice P m d]).alloc (.cells #[.slice A' n' c', .slice P' m' d'] 27)
  have g2 := Whole.new (w.alloc (.cells #[.slice A n c, .slice P m d] 27)) 27 #[.slice A' n' c', .slice P' m' d']
  simp only [World.size_alloc] at g2
  have i1 := h.below b2'
  have i2 := h'.below b2'
  have l1 := i1.p.len
  have l2 := i1.j.len
  have H1 := hide (eqi_any A A' n c n' c' _ _ q _ i1.p.reads i2.p.reads (by omega))
  have HI := hide (And.intro i1 i2)
  clear b1' i1 i2 h h'
  go_enter Try.func12, Try.ntmps12
  go_wp2_with fail
  refine (unhide H1).mono ?_
  rintro e w3 ⟨rfl, hd⟩
  have hb3 := b2'.trans (hd.below _)
  have k1 := (Whole.below g1 (hd.below (w.heap.size + 2)) (by omega)).cell 1
  have k2 := (Whole.below g2 (hd.below (w.heap.size + 2)) (by omega)).cell 1
  simp only [List.getElem?_toArray, List.getElem?_cons_zero, List.getElem?_cons_succ] at k1 k2
  have H2 := hide (eqi_any P P' m d m' d' _ _ J w3 ((unhide HI).1.below (hd.below _)).j.reads ((unhide HI).2.below (hd.below _)).j.reads (by omega))
  clear H1 hd b2' g1 g2 HI
  go_wp2_with fail
  refine (unhide H2).mono ?_
  rintro e w4 ⟨rfl, hd4⟩
  have hb5 := hb3.trans (hd4.below _)
  clear H2 hd4 hb3
  go_wp2
  go_ret
  exact ⟨rfl, hb5⟩
set_option maxHeartbeats 800000 in
theorem marknear_in (A P : Option Addr) (n c m d B U k : Nat) (K : Int) (hK : K = (k : Int)) (q J : List Int) (w : World) (h : NSeal w B U (.slice A n c) (.slice P m d) q J) (hU : U ≤ w.heap.size)
    (hkn : k + q.length + J.length ≤ 1099511627776) :
    Calls Try.prog 21 #[.agg #[.slice A n c, .slice P m d], .int .i64 K] w fun e w' => e = .returned (.int .i64 (K + (q.length : Int) + (J.length : Int))) ∧
      NSeal w' B U (.slice A n c) (.slice P m d) (marksI k q.length) (marksI (k + q.length) J.length) ∧ Turned B U w w' := by
  subst hK
  have l1 := h.1.p.len
  have l2 := h.1.j.len
  have b1 := (Below.refl _ w).alloc (Nat.le_refl _) (.cells #[.slice A n c, .slice P m d] 27)
  have g1 := Whole.new w 27 #[.slice A n c, .slice P m d]
  obtain ⟨⟨x1, x2, x3⟩, u1, u2⟩ := h.below b1
  have H1 := hide (marki_at A n c B k _ rfl q _ x1 (by omega))
  subst l1
  subst l2
  have HX := hide (And.intro x1 (And.intro x2 (And.intro x3 (And.intro u1 u2))))
  have HT := hide (Turned.of_below (B := B) (U := U) b1 (Nat.le_refl _))
  clear h b1 x1 x2 x3 u1 u2
  go_enter Try.func21, Try.ntmps21
  go_wp2_with fail
  refine (unhide H1).mono ?_
  rintro e w3 ⟨rfl, hm, hg⟩
  obtain ⟨x1, x2, x3, u1, u2⟩ := unhide HX
  have g3 := g1.grown hg (fun e => by have := u1 _ e.symm; omega)
  have k1 := g3.cell 1
  simp only [List.getElem?_toArray, List.getElem?_cons_zero, List.getElem?_cons_succ] at k1
  have o2 := x2.kept hg x3.symm
  have t3 := (unhide HT).trans (Turned.of_grown (B := B) (U := U) hg (fun k hk => ⟨x1.since k hk, u1 k hk⟩))
  have H2 := hide (marki_at P J.length d B (k + q.length) ((k : Int) + (q.length : Int)) (by omega) J w3 o2 (by omega))
  have HY := hide (And.intro hm t3)
  clear H1 HT hm hg g3 x1 x2 x3 u1 u2 o2 t3 g1
  go_wp2_with fail
  refine (unhide H2).mono ?_
  rintro e w4 ⟨rfl, y2, y3⟩
  obtain ⟨x1, x2, x3, u1, u2⟩ := unhide HX
  obtain ⟨hm, t3⟩ := unhide HY
  have hz : NSeal w4 B U (.slice A q.length c) (.slice P J.length d) (marksI k q.length) (marksI (k + q.length) J.length) := ⟨⟨hm.kept y3 x3, y2, x3⟩, u1, u2⟩
  have t4 := t3.trans (Turned.of_grown (B := B) (U := U) y3 (fun k hk => ⟨x2.since k hk, u2 k hk⟩))
  clear x1 x2 x3 u1 u2 hm t3 y2 y3 H2 HX HY
  go_wp2
  go_ret
  exact ⟨rfl, hz, t4⟩
set_option maxHeartbeats 800000 in
theorem heldnear_any (A P : Option Addr) (n c m d B k : Nat) (K : Int) (hK : K = (k : Int)) (r s : Nat) (w : World) (h : NearAt w B (.slice A n c) (.slice P m d) (marksI k r) (marksI (k + r) s))
    (hkn : k + r + s ≤ 1099511627776) :
    Calls Try.prog 22 #[.agg #[.slice A n c, .slice P m d], .int .i64 K] w fun e w' => e = .returned (.int .i64 (K + (r : Int) + (s : Int))) ∧ Below w.heap.size w w' := by
  subst hK
  have b1 := (Below.refl _ w).alloc (Nat.le_refl _) (.cells #[.slice A n c, .slice P m d] 27)
  have g1 := Whole.new w 27 #[.slice A n c, .slice P m d]
  have hO := h.below b1
  have l1 := hO.p.len
  have l2 := hO.j.len
  rw [marksI_length] at l1 l2
  subst l1
  subst l2
  have H1 := hide (heldi_at A r c _ k _ rfl _ hO.p.reads (by omega))
  have H2 := hide (heldi_at P s d _ (k + r) ((k : Int) + (r : Int)) (by omega) _ hO.j.reads (by omega))
  have k1 := g1.cell 1
  simp only [List.getElem?_toArray, List.getElem?_cons_zero, List.getElem?_cons_succ] at k1
  clear h hO
  go_enter Try.func22, Try.ntmps22
  go_wp2_with fail
  refine (unhide H1).mono ?_
  rintro e w3 ⟨rfl, rfl⟩
  clear H1
  go_wp2_with fail
  refine (unhide H2).mono ?_
  rintro e w4 ⟨rfl, rfl⟩
  clear H2
  go_wp2
  go_ret
  exact ⟨rfl, b1⟩
def szN (L : Int) (n m : Nat) : Int := if L < n + m then -1 else L - n - m
set_option maxHeartbeats 800000 in
theorem sznear_any (A P : Option Addr) (n c m d : Nat) (L : Int) (hL : 0 ≤ L ∧ L ≤ 1048576) (w : World) (hn : n ≤ maxLen) (hm : m ≤ maxLen) :
    Calls Try.prog 8 #[.agg #[.slice A n c, .slice P m d], .int .i64 L] w fun e w' => e = .returned (.int .i64 (szN L n m)) ∧ Below w.heap.size w w' := by
  have b1 := (Below.refl _ w).alloc (Nat.le_refl _) (.cells #[.slice A n c, .slice P m d] 24)
  have g1 := Whole.new w 24 #[.slice A n c, .slice P m d]
  have k1 := g1.cell 1
  simp only [List.getElem?_toArray, List.getElem?_cons_zero, List.getElem?_cons_succ] at k1
  obtain ⟨hL1, hL2⟩ := hL
  have H1 := hide (szi_any A n c L ⟨hL1, hL2⟩ hn (w.alloc (.cells #[.slice A n c, .slice P m d] 24)))
  by_cases hlt : L < n
  · rw [if_pos hlt] at H1
    have hx : szN L n m = -1 := by unfold szN; rw [if_pos (by omega)]
    rw [hx]
    clear hx g1
    go_enter Try.func8, Try.ntmps8
    go_wp2_with fail
    refine (unhide H1).mono ?_
    rintro e w3 ⟨rfl, rfl⟩
    clear H1
    go_wp2
    go_ret
    exact ⟨rfl, b1⟩
  · rw [if_neg hlt] at H1
    have H2 := hide (szi_any P m d (L - (n : Int)) (by omega) hm (w.alloc (.cells #[.slice A n c, .slice P m d] 24)))
    have hx : (if L - (n : Int) < (m : Int) then (-1 : Int) else L - (n : Int) - (m : Int)) = szN L n m := by
      unfold szN
      by_cases h : L - (n : Int) < (m : Int)
      · rw [if_pos h, if_pos (by omega)]
      · rw [if_neg h, if_neg (by omega)]
    rw [hx] at H2
    obtain ⟨r, hr0⟩ : ∃ r, szN L n m = r := ⟨_, rfl⟩
    have hrr : r = -1 ∨ 0 ≤ r := by
      rw [← hr0]; unfold szN
      by_cases h : L < n + m
      · rw [if_pos h]; exact .inl rfl
      · rw [if_neg h]; right; omega
    rw [hr0] at H2 ⊢
    have h0 : ¬ L - (n : Int) < 0 := by omega
    clear hx g1 hr0
    go_enter Try.func8, Try.ntmps8
    go_wp2_with fail
    refine (unhide H1).mono ?_
    rintro e w3 ⟨rfl, rfl⟩
    clear H1
    go_wp2_with fail
    refine (unhide H2).mono ?_
    rintro e w4 ⟨rfl, rfl⟩
    clear H2
    rcases hrr with rfl | hr0
    · go_wp2
      go_ret
      exact ⟨rfl, b1⟩
    · have h1 : ¬ r < 0 := by omega
      go_wp2
      go_ret
      exact ⟨rfl, b1⟩
theorem nearInfo : (Try.prog.info? 27).map (·.size) = some 2 := by kernel_rfl
set_option maxHeartbeats 1600000 in
theorem tonear_any (A P : Option Addr) (n c m d B : Nat) (p J : List Int) (w : World) (hp : Reads w B A n (i64s p)) (hr : Reads w B P m (i64s J)) (hB : B ≤ w.heap.size) (hn : n ≤ 1048576) (hm : m ≤ 1048576) :
    Calls Try.prog 10 #[.agg #[.slice A n c, .slice P m d]] w (GivesNr w p J) := by
  have b1 := (Below.refl _ w).alloc (Nat.le_refl _) (.cells #[.slice A n c, .slice P m d] 24)
  have b2 := b1.alloc (by simp) (.cells #[.slice none 0 0, .slice none 0 0] 27)
  have b3 := b2.alloc (by simp; omega) (.cells #[.slice none 0 0, .slice none 0 0] 27)
  have g1 := ((Whole.new w 24 #[.slice A n c, .slice P m d]).alloc (.cells #[.slice none 0 0, .slice none 0 0] 27)).alloc (.cells #[.slice none 0 0, .slice none 0 0] 27)
  have g2 := (Whole.new (w.alloc (.cells #[.slice A n c, .slice P m d] 24)) 27 #[.slice none 0 0, .slice none 0 0]).alloc (.cells #[.slice none 0 0, .slice none 0 0] 27)
  have g3 := Whole.new ((w.alloc (.cells #[.slice A n c, .slice P m d] 24)).alloc (.cells #[.slice none 0 0, .slice none 0 0] 27)) 27 #[.slice none 0 0, .slice none 0 0]
  simp only [World.size_alloc] at g2 g3
  have H1 : Hid (Calls Try.prog 14 #[.slice A n c] (((w.alloc (.cells #[.slice A n c, .slice P m d] 24)).alloc (.cells #[.slice none 0 0, .slice none 0 0] 27)).alloc (.cells #[.slice none 0 0, .slice none 0 0] 27))
      (fun e w' => ∃ A' c', e = .returned (.slice A' n c') ∧ Ints w' (w.heap.size + 1 + 1 + 1) (.slice A' n c') p ∧ Below (w.heap.size + 1 + 1 + 1) (((w.alloc (.cells #[.slice A n c, .slice P m d] 24)).alloc (.cells #[.slice none 0 0, .slice none 0 0] 27)).alloc (.cells #[.slice none 0 0, .slice none 0 0] 27)) w')) :=
    hide ((toi_any A n c B p _ (hp.below (b3.mono hB)) (Nat.le_trans hB b3.size) (by omega)).mono (by
      rintro e w' ⟨rfl, o, d⟩
      simp only [World.size_alloc] at o d ⊢
      exact ⟨_, _, rfl, o, d⟩))
  have hr3 := hr.below (b3.mono hB)
  have hbB := b3.mono hB
  have HR := hide (And.intro hr3 hbB)
  have HL : Hid (p.length = n ∧ J.length = m) := hide ⟨by have := hp.1; rwa [i64_length] at this, by have := hr.1; rwa [i64_length] at this⟩
  clear b1 b2 hp hr hr3 hbB
  go_enter Try.func10, Try.ntmps10
  go_wp2_with fail
  refine (unhide H1).mono ?_
  rintro e w2 ⟨A2, c2, rfl, o2, d2⟩
  have hb2 := b3.trans (d2.mono (by omega))
  have e1 := g1.below d2 (by omega)
  have e2 := g2.below d2 (by omega)
  have e3 := g3.below d2 (by omega)
  have p1 := e1.cell 1
  have q0 := e3.cell 0
  have q1 := e3.cell 1
  have f0 := e3.frozen 0
  have l3 := e3.lt
  simp only [List.getElem?_toArray, List.getElem?_cons_zero, List.getElem?_cons_succ] at p1 q0 q1
  have l2 := d2.size
  simp only [World.size_alloc] at l2
  have i1 := e1.far (p := ⟨w.heap.size + 1 + 1, 0, none⟩) (by simp; omega) (.slice A2 n c2)
  have i2 := e2.far (p := ⟨w.heap.size + 1 + 1, 0, none⟩) (by simp) (.slice A2 n c2)
  have i3 := e3.put 0 (.slice A2 n c2)
  have o3 := o2.past (p := ⟨w.heap.size + 1 + 1, 0, none⟩) (by simp) (.slice A2 n c2)
  have hb3 := hb2.setCell (p := ⟨w.heap.size + 1 + 1, 0, none⟩) (by simp; omega) (.slice A2 n c2)
  have H2 : Hid (Calls Try.prog 14 #[.slice P m d] (w2.setCell ⟨w.heap.size + 1 + 1, 0, none⟩ (.slice A2 n c2))
      (fun e w' => ∃ g, e = .returned (.slice (some ⟨g, 0, none⟩) m m) ∧ Ints w' w2.heap.size (.slice (some ⟨g, 0, none⟩) m m) J ∧ Below w2.heap.size (w2.setCell ⟨w.heap.size + 1 + 1, 0, none⟩ (.slice A2 n c2)) w')) := by
    have hr4 := (unhide HR).1.below ((d2.mono (show B ≤ _ by omega)).setCell (p := ⟨w.heap.size + 1 + 1, 0, none⟩) (by simp; omega) (.slice A2 n c2))
    refine hide ((toi_any P m d B J _ hr4 (by simp; omega) (by omega)).mono ?_)
    rintro e w' ⟨rfl, o, d⟩
    simp only [World.size_setCell] at o d ⊢
    exact ⟨_, rfl, o, d⟩
  have hu2 := o2.until_
  clear H1 e1 e2 e3 hb2 b3 d2 o2 HR g1 g2 g3
  go_wp2_with fail
  refine (unhide H2).mono ?_
  rintro e w4 ⟨g, rfl, o4, d4⟩
  have j2 := i2.below d4 (by omega)
  have j3 := i3.below d4 (by omega)
  have hb4 := hb3.trans (d4.mono (by omega))
  have o5 := Row.stay o3 hu2 d4
  have HI : Hid (NearAt w4 (w.heap.size + 1 + 1 + 1) (.slice A2 n c2) (.slice (some ⟨g, 0, none⟩) m m) p J) := hide ⟨o5, o4.low (by omega), apart hu2 o4.since (by omega)⟩
  have q0 := j3.cell 0
  have q1 := j3.cell 1
  have f1 := j3.frozen 1
  have r0 := j2.cell 0
  have r1 := j2.cell 1
  have s0 := j2.frozen 0
  have s1 := j2.frozen 1
  have l4 := j3.lt
  simp only [List.setIfInBounds_toArray, List.set_cons_zero, List.getElem?_toArray, List.getElem?_cons_zero, List.getElem?_cons_succ] at q0 q1 r0 r1
  have HJ := hide (And.intro j2 j3)
  obtain ⟨hl1, hl2⟩ := unhide HL
  clear o5 o4 d4 hu2 H2 hb3 i1 i2 i3 o3 j2 j3 HL p1
  go_wp2
  have hWe := ((unhide HJ).1.far (p := ⟨w.heap.size + 1 + 1, 1, none⟩) (by simp) (.slice (some ⟨g, 0, none⟩) m m)).put 0 (.slice A2 n c2) |>.put 1 (.slice (some ⟨g, 0, none⟩) m m)
  refine bodyPost_ret (v := .agg #[.slice A2 n c2, .slice (some ⟨g, 0, none⟩) m m]) (results_cell_row Try.results10 _ _ (w.heap.size + 1) 27 _ (0, 0) _ rfl hWe Try.underlying27 rfl nearInfo) rfl ?_
  refine GivesNr.mk ((((unhide HI).past (p := ⟨w.heap.size + 1 + 1, 1, none⟩) (by simp) _).past (p := ⟨w.heap.size + 1, 0, none⟩) (by simp) _).past (p := ⟨w.heap.size + 1, 1, none⟩) (by simp) _ |>.low (by omega)) ?_
  exact ((hb4.setCell (by simp; omega) _).setCell (by simp) _).setCell (by simp) _
end Go.Proofs.Ytabfjmabiapgoaa


/-
  spec.l1In, spec.l2Has and spec.IsPerm, by their contracts.
-/

namespace Go.Proofs.Ytabfjmabiapgoaa
set_option maxRecDepth 100000
open Go.RowKit

theorem l1in_any (x lo hi : Int) (b : Bool) (hb : decide (lo ≤ x ∧ x ≤ hi) = b) (w : World) :
    Calls Try.prog 27 #[.int .i64 x, .int .i64 lo, .int .i64 hi] w fun e w' => e = .returned (.bool b) ∧ w' = w := by
  by_cases h1 : lo ≤ x
  · by_cases h2 : x ≤ hi
    · obtain rfl : b = true := by rw [← hb]; simp [h1, h2]
      clear hb
      go_enter Try.func27, Try.ntmps27
      go_wp2
      go_ret
      exact ⟨rfl, rfl⟩
    · obtain rfl : b = false := by rw [← hb]; simp [h2]
      clear hb
      go_enter Try.func27, Try.ntmps27
      go_wp2
      go_ret
      exact ⟨rfl, rfl⟩
  · obtain rfl : b = false := by rw [← hb]; simp [h1]
    clear hb
    go_enter Try.func27, Try.ntmps27
    go_wp2
    go_ret
    exact ⟨rfl, rfl⟩

theorem has_step {zs : List Int} {k : Nat} {y z : Int} (hz : zs[k]? = some y) (hne : y ≠ z) (h : z ∉ zs.take k) : z ∉ zs.take (k + 1) := by
  rw [take_snoc_i hz, List.mem_append, List.mem_singleton]
  rintro (h' | h')
  · exact h h'
  · exact hne h'.symm
theorem l2has_any (A : Option Addr) (n c B : Nat) (zs : List Int) (z : Int) (b : Bool) (hb : decide (z ∈ zs) = b) (w : World) (hr : Reads w B A n (i64s zs)) (hn : n ≤ 1099511627776) :
    Calls Try.prog 36 #[.slice A n c, .int .i64 z] w fun e w' => e = .returned (.bool b) ∧ w' = w := by
  have HB := hide hb
  clear hb
  go_enter Try.func36, Try.ntmps36
  go_wp2
  go_loop [5] (fun i => ∃ k : Nat, k ≤ n ∧ i = .int .i64 k ∧ Hid (z ∉ zs.take k)) (fun i => n - (intOf i).toNat)
  case atStart => exact ⟨0, Nat.zero_le _, rfl, by exact (by simp : z ∉ zs.take 0)⟩
  case round =>
    obtain ⟨k, hk, rfl, hno⟩ := hrel
    by_cases hlt : k < n
    · obtain ⟨ad, u, rfl, had, hu, hc⟩ := hr.at_ hlt
      obtain ⟨y, hy, rfl⟩ := i64_at hu
      clear hu
      by_cases he : y = z
      · subst he
        have hin : decide (y ∈ zs) = true := by simp [List.mem_of_getElem? hy]
        obtain rfl : b = true := (unhide HB).symm.trans hin
        clear hin hy HB hno
        go_wp2
        go_ret
        exact ⟨rfl, rfl⟩
      · have hnext := hide (has_step hy he (unhide hno))
        have he' : (y == z) = false := by simpa using he
        clear hno hy HB he
        go_wp2
        go_round
        case rel => exact ⟨k + 1, by omega, by go_num, hnext⟩
        case measure => simp [intOf]; omega
    · obtain rfl : n = k := by omega
      have hl : zs.length = n := by have := hr.1; rwa [i64_length] at this
      have hin : decide (z ∈ zs) = false := by
        have h := unhide hno
        rw [List.take_of_length_le (by omega)] at h
        simpa using h
      obtain rfl : b = false := (unhide HB).symm.trans hin
      clear hin HB hno hl
      go_wp2
      go_ret
      exact ⟨rfl, rfl⟩

theorem Reads.pre {w : World} {B n k : Nat} {A : Option Addr} {zs : List Int} (h : Reads w B A n (i64s zs)) (hk : k ≤ n) : Reads w B A k (i64s (zs.take k)) := by
  have hl : zs.length = n := by have := h.1; rwa [i64_length] at this
  refine ⟨by rw [i64_length, List.length_take]; omega, fun h0 => ?_⟩
  obtain ⟨ad, e, hb, hc⟩ := h.2 (by omega)
  refine ⟨ad, e, hb, fun j u hu => hc j u ?_⟩
  unfold i64s at hu ⊢
  rw [List.getElem?_map, List.getElem?_take] at hu
  rw [List.getElem?_map]
  by_cases hj : j < k
  · rwa [if_pos hj] at hu
  · rw [if_neg hj] at hu; cases hu
theorem Reads.len {w : World} {B n : Nat} {A : Option Addr} {zs : List Int} (h : Reads w B A n (i64s zs)) : zs.length = n := by have := h.1; rwa [i64_length] at this
theorem range_of {zs : List Int} {n : Nat} {z : Int} (hl : zs.length = n) (h : decide ((1 : Int) ≤ z ∧ z ≤ (n : Int)) = true) : 1 ≤ z ∧ z ≤ (zs.length : Int) := by rw [hl]; simpa using h
theorem range_not {zs : List Int} {n : Nat} {z : Int} (hl : zs.length = n) (h : decide ((1 : Int) ≤ z ∧ z ≤ (n : Int)) = false) : ¬ (1 ≤ z ∧ z ≤ (zs.length : Int)) := by rw [hl]; simpa using h

set_option maxHeartbeats 800000 in
theorem sisperm_any (A : Option Addr) (n c B : Nat) (zs : List Int) (b : Bool) (hb : isP zs = b) (w : World) (hr : Reads w B A n (i64s zs)) (hn : n ≤ 1048576) (hc : n ≤ c) :
    Calls Try.prog 28 #[.slice A n c] w fun e w' => e = .returned (.bool b) ∧ Drew w w' := by
  have HB := hide hb
  clear hb
  have hl := hr.len
  by_cases h8 : n ≤ 8
  · have HL := hide hl
    clear hl
    go_enter Try.func28, Try.ntmps28
    go_wp2
    go_loopw [3] (fun i wr => ∃ k : Nat, k ≤ n ∧ i = .int .i64 k ∧ Drew w wr ∧ Hid (Seen zs k)) (fun i _ => n - (intOf i).toNat)
    case atStart => exact ⟨0, Nat.zero_le _, rfl, Drew.refl _, by exact Seen.zero zs⟩
    case round =>
      obtain ⟨k, hk, rfl, hd, hs⟩ := hrel
      by_cases hlt : k < n
      · obtain ⟨ad, u, rfl, had, hu, hcell⟩ := (hr.ofDrew hd).at_ hlt
        obtain ⟨z, hz, rfl⟩ := i64_at hu
        have hpre := (hr.ofDrew hd).pre hk
        have HZ := hide hz
        have HD := hide hd
        clear hu hz hd
        obtain ⟨b1, hb1⟩ : ∃ b1, decide ((1 : Int) ≤ z ∧ z ≤ (n : Int)) = b1 := ⟨_, rfl⟩
        obtain ⟨b2, hb2⟩ : ∃ b2, decide (z ∈ zs.take k) = b2 := ⟨_, rfl⟩
        have HB1 := hide hb1
        have HB2 := hide hb2
        clear hb1 hb2
        have hkc : k ≤ c := by omega
        cases b1 with
        | false =>
          obtain rfl : b = false := (unhide HB).symm.trans (isP_no_range (unhide HZ) (range_not (unhide HL) (unhide HB1)))
          clear HB
          go_wp2
          go_quiet ((first | (go_at_call 27; exact Calls.quiet_of_same (l1in_any _ _ _ _ (unhide HB1) _)) | (go_at_call 36; exact Calls.quiet_of_same (l2has_any _ _ _ _ _ _ _ (unhide HB2) _ hpre (by omega)))))
          go_wp2
          go_ret
          exact ⟨rfl, (unhide HD).more _⟩
        | true =>
          cases b2 with
          | true =>
            obtain rfl : b = false := (unhide HB).symm.trans (isP_no_twice (unhide HZ) (by simpa using unhide HB2))
            clear HB
            go_wp2
            go_quiet ((first | (go_at_call 27; exact Calls.quiet_of_same (l1in_any _ _ _ _ (unhide HB1) _)) | (go_at_call 36; exact Calls.quiet_of_same (l2has_any _ _ _ _ _ _ _ (unhide HB2) _ hpre (by omega)))))
            go_wp2
            go_ret
            exact ⟨rfl, (unhide HD).more _⟩
          | false =>
            have hnext := hide ((unhide hs).step (unhide HZ) (range_of (unhide HL) (unhide HB1)) (by simpa using unhide HB2))
            go_wp2
            go_quiet ((first | (go_at_call 27; exact Calls.quiet_of_same (l1in_any _ _ _ _ (unhide HB1) _)) | (go_at_call 36; exact Calls.quiet_of_same (l2has_any _ _ _ _ _ _ _ (unhide HB2) _ hpre (by omega)))))
            go_wp2
            go_roundw
            case rel => exact ⟨k + 1, by omega, by go_num, (unhide HD).more _, hnext⟩
            case measure => simp [intOf]; omega
      · obtain rfl : n = k := by omega
        obtain rfl : b = true := (unhide HB).symm.trans (Seen.isP (by rw [unhide HL]; exact unhide hs) (by rw [unhide HL]; exact h8))
        clear HB hs
        have h8b : decide ((n : Int) ≤ 8) = true := by simp; omega
        go_wp2
        go_ret
        exact ⟨rfl, hd⟩
  · obtain rfl : b = false := (unhide HB).symm.trans (isP_long (by omega))
    clear HB hl
    have h8' : 8 < n := by omega
    go_enter Try.func28, Try.ntmps28
    go_wp2
    go_loopw [3] (fun i wr => i = .int .i64 0 ∧ w = wr) (fun i _ => 0)
    case atStart => exact ⟨rfl, rfl⟩
    case round =>
      obtain ⟨rfl, rfl⟩ := hrel
      have h8b : decide ((n : Int) ≤ 8) = false := by simp; omega
      go_wp2
      go_ret
      exact ⟨rfl, Drew.refl _⟩

end Go.Proofs.Ytabfjmabiapgoaa


/-
  impl.ascendingArray, by its contract.
-/

namespace Go.Proofs.Ytabfjmabiapgoaa
set_option maxRecDepth 100000
open Go.RowKit

theorem permInfo : (Try.prog.info? 62).map (·.size) = some 8 := by kernel_rfl
theorem arr_one (l : List Int) : (arr l).all (·.oneCell') = true := by
  unfold arr i64s
  simp only [List.all_toArray, List.all_map, List.all_eq_true]
  intro z _
  rfl
theorem zeros_asc : (#[Value.int .i64 0, Value.int .i64 0, Value.int .i64 0, Value.int .i64 0, Value.int .i64 0, Value.int .i64 0, Value.int .i64 0, Value.int .i64 0] : Array Value) = arr (ascL 0) := by rw [ascL_zero]; rfl
theorem below_set_row {B : Nat} {w w' : World} (hb : Below B w w') (g : Nat) (cs : Array Value) (hg : B ≤ g) : Below B w (w'.setRow g cs) :=
  hb.trans ⟨rfl, rfl, rfl, by simp [World.setRow], fun k hk => setRow_other w' g k cs (by omega)⟩

set_option maxHeartbeats 400000 in
theorem asc_any (n : Nat) (hn : n ≤ 8) (w : World) :
    Calls Try.prog 46 #[.int .i64 n] w fun e w' => e = .returned (.agg (arr (ascL n))) ∧ Below w.heap.size w w' := by
  go_enter Try.func46, Try.ntmps46
  go_wp2
  rw [zeros_asc]
  go_loopw [4, 6] (fun _ i wr => ∃ k : Nat, k ≤ n ∧ i = .int .i64 k ∧ Below w.heap.size w wr ∧ Whole wr w.heap.size 62 (arr (ascL 0)) ∧ Whole wr (w.heap.size + 1) 62 (arr (ascL k))) (fun _ i _ => n - (intOf i).toNat)
  case atStart =>
    have h1 := Whole.new w 62 (arr (ascL 0))
    have h2 := Whole.new (w.alloc (.cells (arr (ascL 0)) 62)) 62 (arr (ascL 0))
    rw [show (w.alloc (.cells (arr (ascL 0)) 62)).heap.size = w.heap.size + 1 by simp] at h2
    exact ⟨0, Nat.zero_le _, rfl, ((Below.refl _ _).alloc (Nat.le_refl _) _).alloc (by simp) _, h1.alloc _, h2⟩
  case round =>
    obtain ⟨k, hk, rfl, hb, hw0, hw1⟩ := hrel
    by_cases hlt : k < n
    · have hk8 : k < 8 := by omega
      obtain ⟨old, hold⟩ : ∃ old, wr.cell? ⟨w.heap.size + 1, k, none⟩ = some old := by
        rw [hw1.cell]
        exact ⟨_, Array.getElem?_eq_getElem (by rw [arr_size, ascL_length]; exact hk8)⟩
      have hfz := hw1.frozen k
      have n1 := hw1.put k (.int .i64 ((k : Int) + 1))
      rw [arr_set, ascL_step] at n1
      have n0 := hw0.far (p := ⟨w.heap.size + 1, k, none⟩) (by simp) (.int .i64 ((k : Int) + 1))
      have nb := hb.setCell (p := ⟨w.heap.size + 1, k, none⟩) (by simp) (.int .i64 ((k : Int) + 1))
      clear hw0 hw1 hb
      go_wp2
      go_roundw
      case rel => exact ⟨k + 1, by omega, by go_num, nb, n0, n1⟩
      case measure => simp [intOf]; omega
    · obtain rfl : n = k := by omega
      go_wp2_with (first
        | (refine wpList_load_row rfl 62 (.tmp 3) rfl (w.heap.size + 1) rfl 62 (arr (ascL n)) (0, 0) _ hw1 Try.underlying62 rfl (by rw [arr_size, ascL_length]; exact permInfo) ?_)
        | (refine wpList_store_row rfl 62 (.tmp 2) (.tmp 14) rfl w.heap.size (arr (ascL n)) rfl rfl 62 (arr (ascL 0)) hw0 (by rw [arr_size, ascL_length]; exact permInfo) (by rw [arr_size, arr_size, ascL_length, ascL_length]) (arr_one _) ?_))
      refine bodyPost_ret (v := .agg (arr (ascL n))) (results_cell_row Try.results46 _ _ w.heap.size 62 (arr (ascL n)) (0, 0) _ rfl (setRow_heap _ _ _ _ _ _ hw0) Try.underlying62 rfl (by rw [arr_size, ascL_length]; exact permInfo)) rfl ?_
      exact ⟨rfl, below_set_row hb _ _ (Nat.le_refl _)⟩
end Go.Proofs.Ytabfjmabiapgoaa


/-
  PLAIN: arrays of integers compared.
-/

namespace Go.Proofs.Ytabfjmabiapgoaa
set_option maxRecDepth 100000
open Go.RowKit

theorem all_at_eq : ∀ (xs ys : List Int), xs.length = ys.length → ((List.range xs.length).all fun i => xs.getD i 0 == ys.getD i 0) = (xs == ys)
  | [], [], _ => rfl
  | x :: xs, y :: ys, h => by
    have ih := all_at_eq xs ys (by simpa using h)
    rw [List.length_cons, List.range_succ_eq_map, List.all_cons, List.all_map]
    simp only [List.getD_cons_zero, Function.comp_def, List.getD_cons_succ, ih]
    simp [List.cons_beq_cons]
  | [], _ :: _, h => by simp at h
  | _ :: _, [], h => by simp at h

theorem run_equalIn_ints {P : Program} (w : World) (d : Nat) (t e : TypeId) (n : Nat) (ht : P.underlying t = some (.array n e)) (he : P.underlying e = some (.int .i64)) (hsz : ∀ w, (sizeOf e).run P w = .ok 1 w)
    (xs ys : List Int) (hx : xs.length = n) (hy : ys.length = n) :
    (Op.equalIn (d + 2) t (.agg (arr xs)) (.agg (arr ys))).run P w = .ok (xs == ys) w := by
  unfold arr i64s
  rw [← all_at_eq xs ys (hx.trans hy.symm), hx, List.range_eq_range', Op.equalIn]
  simp only [Sem.run_bind, run_underlying ht, Result.andThen_ok, hsz, Std.Legacy.Range.forIn_eq_forIn_range', Std.Legacy.Range.size, Nat.sub_zero, Nat.add_sub_cancel, Nat.div_one]
  have hl : ∀ i ∈ List.range' 0 n 1, i < n := fun i hi => by simpa using (List.mem_range'_1.1 hi).2
  generalize List.range' 0 n 1 = l at hl ⊢
  induction l with
  | nil => simp
  | cons i l ih =>
    have hi : i < n := hl i (by simp)
    have px : (part e (xs.map (Value.int .i64)).toArray (i * 1)).run P w = .ok (.int .i64 (xs.getD i 0)) w := by
      simp [part, isAgg, run_underlying he, List.getD, List.getElem?_eq_getElem (show i < xs.length by omega)]
    have py : (part e (ys.map (Value.int .i64)).toArray (i * 1)).run P w = .ok (.int .i64 (ys.getD i 0)) w := by
      simp [part, isAgg, run_underlying he, List.getD, List.getElem?_eq_getElem (show i < ys.length by omega)]
    have pe : (Op.equalIn (d + 1) e (.int .i64 (xs.getD i 0)) (.int .i64 (ys.getD i 0))).run P w = .ok (xs.getD i 0 == ys.getD i 0) w := by
      rw [run_equalIn_int w d e .i64 .i64 _ _ he]
    simp only [List.forIn_cons, Sem.run_bind, px, py, pe, Result.andThen_ok, List.all_cons]
    cases hb : (xs.getD i 0 == ys.getD i 0)
    · simp
    · simp only [Bool.not_true, Bool.false_eq_true, if_false, Sem.run_pure, Result.andThen_ok, Bool.true_and]
      exact ih fun j hj => hl j (by simp [hj])
theorem list8 {l : List Int} (h : l.length = 8) : ∃ x0 x1 x2 x3 x4 x5 x6 x7, l = [x0, x1, x2, x3, x4, x5, x6, x7] := by
  match l, h with
  | [x0, x1, x2, x3, x4, x5, x6, x7], _ => exact ⟨x0, x1, x2, x3, x4, x5, x6, x7, rfl⟩
end Go.Proofs.Ytabfjmabiapgoaa


/-
  impl.IsPerm, by its contract.
-/

namespace Go.Proofs.Ytabfjmabiapgoaa
set_option maxRecDepth 100000
open Go.RowKit

theorem sizeInt (w : World) : (sizeOf 3).run Try.prog w = .ok 1 w := by kernel_rfl
theorem permEq (w : World) (xs ys : List Int) (hx : xs.length = 8) (hy : ys.length = 8) : (Op.equalIn 10000 62 (.agg (arr xs)) (.agg (arr ys))).run Try.prog w = .ok (xs == ys) w :=
  run_equalIn_ints w 9998 62 3 8 Try.underlying62 Try.underlying3 sizeInt xs ys hx hy

theorem range_snoc {zs : List Int} {k : Nat} {z m : Int} (hz : zs[k]? = some z) (h1 : 1 ≤ z) (h2 : z ≤ m) (h : ∀ x ∈ zs.take k, 1 ≤ x ∧ x ≤ m) : ∀ x ∈ zs.take (k + 1), 1 ≤ x ∧ x ≤ m := by
  rw [take_snoc_i hz]
  intro x hx
  rcases List.mem_append.1 hx with hx | hx
  · exact h x hx
  · rw [List.mem_singleton] at hx
    subst hx
    exact ⟨h1, h2⟩

set_option maxHeartbeats 800000 in
theorem iisperm_any (A : Option Addr) (n c B : Nat) (zs : List Int) (b : Bool) (hb : isP zs = b) (w : World) (hr : Reads w B A n (i64s zs)) (hB : B ≤ w.heap.size) (hn : n ≤ 1048576) (hz : Small zs) :
    Calls Try.prog 29 #[.slice A n c] w fun e w' => e = .returned (.bool b) ∧ Below w.heap.size w w' := by
  have HB := hide hb
  clear hb
  have hl : zs.length = n := by have := hr.1; rwa [i64_length] at this
  by_cases h8 : n ≤ 8
  · have HL := hide hl
    clear hl
    have h8b : decide ((8 : Int) < (n : Int)) = false := by simp; omega
    go_enter Try.func29, Try.ntmps29
    go_wp2
    rw [zeros_asc]
    go_loopw [5, 11] (fun _ i wr => ∃ k : Nat, k ≤ n ∧ i = .int .i64 k ∧ Below w.heap.size w wr ∧ Whole wr w.heap.size 62 (arr (fnd (zs.take k))) ∧ Hid (∀ x ∈ zs.take k, 1 ≤ x ∧ x ≤ (n : Int))) (fun _ i _ => n - (intOf i).toNat)
    case atStart =>
      refine ⟨0, Nat.zero_le _, rfl, (Below.refl _ _).alloc (Nat.le_refl _) _, ?_, by exact (by simp : ∀ x ∈ zs.take 0, 1 ≤ x ∧ x ≤ (n : Int))⟩
      have h1 := Whole.new w 62 (arr (ascL 0))
      rw [ascL_zero] at h1 ⊢
      rw [List.take_zero, fnd_nil]
      exact h1
    case round =>
      obtain ⟨k, hk, rfl, hbw, hw0, hs⟩ := hrel
      by_cases hlt : k < n
      · obtain ⟨ad, u, rfl, had, hu, hcell⟩ := ((hr.more hB).below hbw).at_ hlt
        obtain ⟨z, hz, rfl⟩ := i64_at hu
        clear hu
        have hzs := ‹Small zs› z (List.mem_of_getElem? hz)
        obtain ⟨hzl, hzu⟩ := hzs
        have HZ := hide hz
        clear hz
        by_cases h1 : 1 ≤ z
        · by_cases h2 : z ≤ (n : Int)
          · have hz8 : z.toNat - 1 < 8 := by omega
            have h1' : ¬ z < 1 := by omega
            have h2' : ¬ (n : Int) < z := by omega
            obtain ⟨old, hold⟩ : ∃ old, wr.cell? ⟨w.heap.size, z.toNat - 1, none⟩ = some old := by
              rw [hw0.cell]
              exact ⟨_, Array.getElem?_eq_getElem (by rw [arr_size, fnd_length]; exact hz8)⟩
            have hfz := hw0.frozen (z.toNat - 1)
            have n0 := hw0.put (z.toNat - 1) (.int .i64 z)
            rw [arr_set, show z.toNat - 1 = (z - 1).toNat by omega, fnd_step h1 (by omega), ← take_snoc_i (unhide HZ), show (z - 1).toNat = z.toNat - 1 by omega] at n0
            have nb := hbw.setCell (p := ⟨w.heap.size, z.toNat - 1, none⟩) (Nat.le_refl _) (.int .i64 z)
            have hs' := hide (range_snoc (unhide HZ) h1 h2 (unhide hs))
            clear hw0 hbw hs
            go_wp2
            go_roundw
            case rel => exact ⟨k + 1, by omega, by go_num, nb, n0, hs'⟩
            case measure => simp [intOf]; omega
          · obtain rfl : b = false := (unhide HB).symm.trans (isP_no_range (unhide HZ) (by rw [unhide HL]; omega))
            have h1' : ¬ z < 1 := by omega
            have h2' : (n : Int) < z := by omega
            clear HB
            go_wp2
            go_ret
            exact ⟨rfl, hbw⟩
        · obtain rfl : b = false := (unhide HB).symm.trans (isP_no_range (unhide HZ) (by omega))
          have h1' : z < 1 := by omega
          clear HB
          go_wp2
          go_ret
          exact ⟨rfl, hbw⟩
      · obtain rfl : n = k := by omega
        have htk : zs.take n = zs := List.take_of_length_le (by rw [unhide HL]; exact Nat.le_refl _)
        rw [htk] at hw0 hs
        have heq := fun w => permEq w (fnd zs) (ascL n) (fnd_length _) (ascL_length _)
        have hfa := fnd_asc (l := zs) (by rw [unhide HL]; exact h8) (by rw [unhide HL]; exact unhide hs)
        rw [unhide HL] at hfa
        rw [hfa, unhide HB] at heq
        clear hfa htk hs HB HL h8b hk hlt hr
        obtain ⟨x0, x1, x2, x3, x4, x5, x6, x7, hx⟩ := list8 (fnd_length zs)
        rw [hx] at hw0 heq
        clear hx
        have k0 := hw0.cell 0
        have k1 := hw0.cell 1
        have k2 := hw0.cell 2
        have k3 := hw0.cell 3
        have k4 := hw0.cell 4
        have k5 := hw0.cell 5
        have k6 := hw0.cell 6
        have k7 := hw0.cell 7
        have hg := hw0.lt
        clear hw0
        have heq2 : ∀ w, (Op.equalIn 10000 62 (.agg #[.int .i64 x0, .int .i64 x1, .int .i64 x2, .int .i64 x3, .int .i64 x4, .int .i64 x5, .int .i64 x6, .int .i64 x7]) (.agg (arr (ascL n)))).run Try.prog w = .ok b w := heq
        clear heq
        simp only [arr, i64s, List.map_cons, List.map_nil] at k0 k1 k2 k3 k4 k5 k6 k7
        go_wp2
        go_region_held3 (fun w' => w'.cell? ⟨w.heap.size, 0, none⟩ = some (.int .i64 x0) ∧ w'.cell? ⟨w.heap.size, 1, none⟩ = some (.int .i64 x1) ∧ w'.cell? ⟨w.heap.size, 2, none⟩ = some (.int .i64 x2) ∧ w'.cell? ⟨w.heap.size, 3, none⟩ = some (.int .i64 x3) ∧
            w'.cell? ⟨w.heap.size, 4, none⟩ = some (.int .i64 x4) ∧ w'.cell? ⟨w.heap.size, 5, none⟩ = some (.int .i64 x5) ∧ w'.cell? ⟨w.heap.size, 6, none⟩ = some (.int .i64 x6) ∧ w'.cell? ⟨w.heap.size, 7, none⟩ = some (.int .i64 x7))
          (first
            | go_keep
            | exact ⟨(hb1.cell hg).trans k0, (hb1.cell hg).trans k1, (hb1.cell hg).trans k2, (hb1.cell hg).trans k3, (hb1.cell hg).trans k4, (hb1.cell hg).trans k5, (hb1.cell hg).trans k6, (hb1.cell hg).trans k7⟩)
          (first | (go_at_call 46; refine (asc_any n h8 _).mono ?_; rintro e w1 ⟨rfl, hb1⟩))
        go_wp2
        go_ret
        exact ⟨rfl, hbw.trans ((below_drew _ wr).trans (hb1.mono hbw.size))⟩
  · obtain rfl : b = false := (unhide HB).symm.trans (isP_long (by omega))
    clear HB hl
    have h8' : 8 < n := by omega
    go_enter Try.func29, Try.ntmps29
    go_wp2
    go_ret
    exact ⟨rfl, Below.refl _ _⟩
end Go.Proofs.Ytabfjmabiapgoaa
