/-
  WORDS FOR append: a list that is read, behind a row of the call's own. Nothing here speaks of a function of the program.
-/
import Derived.Test.YtmgmedgdpbknmaaInts
import Derived.Laws.AppendOwnNone
namespace Go.Proofs.Ytmgmedgdpbknmaa
open Go.RowKit

theorem i64_append (xs ys : List Int) : i64s xs ++ i64s ys = i64s (xs ++ ys) := by unfold i64s; rw [List.map_append]
theorem i64_one (xs : List Int) : ∀ u ∈ i64s xs, u.oneCell' = true := fun u hu => by
  unfold i64s at hu
  obtain ⟨z, _, rfl⟩ := List.mem_map.1 hu
  rfl
/-- 'append(s, x...)', s a row of the call's own, x a list that is read. -/
theorem wpList_append_arg {ops : Array Oper} {rest : List Oper} {o : Oper} {a : Act} {W : World} {Q : Exit → Act → World → Prop} (hgd : o.guard = none) (s x : Operand)
    (ho : o.op = .call { callee := .builtin .append, args := #[s, x], argTypes := #[22, 22] })
    (base B m n c : Nat) (w0 : World) (v : Value) (A : Option Addr) (xs zs : List Int) (hs : a.eval s = v) (hx : a.eval x = .slice A n c) (hown : W.ownsRow base 3 1 v m (i64s xs)) (h : Arg W B A n c zs)
    (hm : m ≤ 1099511627776) (hb : Below base w0 W) (hbase : base ≤ W.heap.size)
    (K : ∀ v' w', w'.ownsRow base 3 1 v' (m + n) (i64s (xs ++ zs)) → Below base w0 w' → W.grownBy w' v.ownBlock → wpList Try.prog ops Q rest (a.put o.dst v') w') : wpList Try.prog ops Q (o :: rest) a W := by
  obtain ⟨i0, hi, hz0, hz1, hz2⟩ := info_parts intInfo
  have hn := h.le
  have hl := h.len
  cases A with
  | none =>
    obtain rfl : c = 0 := h.nil rfl
    have hc := h.cap
    obtain rfl : n = 0 := by omega
    obtain rfl := List.eq_nil_of_length_eq_zero hl
    refine wpList_append_own_none hgd s x 22 ho base 3 i0 1 Try.underlying22 hi v m _ hs hown hx ?_
    exact K v W (by rw [List.append_nil]; exact hown) hb (World.grownBy.refl W _)
  | some ad =>
    have hr := h.reads
    refine wpList_append_own W hgd s x 22 ho base 3 i0 (.int .i64 0) 1 8 Try.underlying22 hi hz0 hz1 hz2 rfl (by decide) v m _ hs hown ad n c (i64s zs) hx (by rw [i64_length, hl]; omega) ?_ (i64_one zs) (by unfold maxLen; omega) (by omega) hbase ?_
    · intro j u hu
      have hj : j < n := by have := (List.getElem?_eq_some_iff.1 hu).1; rw [i64_length, hl] at this; exact this
      obtain ⟨ad', he, _, hc⟩ := hr.2 (by omega)
      injection he with he
      subst he
      exact hc j u hu
    · intro v' w' h1 h2 _
      rw [i64_append] at h1
      exact K v' w' h1 (hb.grown h2 hbase (fun k hk => (hown.lt k hk).1)) h2
end Go.Proofs.Ytmgmedgdpbknmaa
