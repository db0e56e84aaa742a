
/-
  impl.ReversePerm, by its contract.
-/
import Derived.Test.YtkjjjnkgkgdfkaaRev
import Derived.Test.YtkjjjnkgkgdfkaaShelfR
import Derived.Sort.OwnSortedInts
namespace Go.Proofs.Ytkjjjnkgkgdfkaa
set_option maxRecDepth 100000
open Go.RowKit

/-- A row on which other numbers have been laid. -/
theorem Ints.laid {w : World} {B g n cap : Nat} {zs : List Int} (h : Ints w B (.slice (some ⟨g, 0, none⟩) n cap) zs) (ts : List Int) (hl : ts.length = zs.length) (k : Nat) :
    Ints (Sort.putRow (Value.int .i64) (Sort.ahead w k) g 0 ts.toArray) B (.slice (some ⟨g, 0, none⟩) n cap) ts ∧ w.grownBy (Sort.putRow (Value.int .i64) (Sort.ahead w k) g 0 ts.toArray) (some g) := by
  have hg := grownBy_sortedI (w := w) (g := g) (n := k) (os := #[]) ts.toArray
  rw [Sort.grow_empty] at hg
  refine ⟨?_, hg⟩
  have hn := h.len
  rcases h.2 with ⟨hv, _⟩ | ⟨g', cap', cur, e, hv, hb, hgg, hs, ht, he⟩
  · cases hv
  · injection hv with h1 h2 h3
    injection h1 with h1
    injection h1 with h1
    subst h1; subst h3
    have hh := heap_sortedI (w := w) (g := g) (n := k) (os := #[]) ts.toArray hgg
    rw [Sort.grow_empty] at hh
    refine ⟨by rw [i64_length], .inr ⟨g, cap, _, e, by rw [hl, ← hn], hb, hh, ⟨by omega, by unfold Sort.putCells; rw [Array.size_mapIdx]; omega⟩, ?_, he⟩⟩
    exact take_putCellsI cur ts (by omega)
theorem Ints.holds {w : World} {B g n cap : Nat} {zs : List Int} (h : Ints w B (.slice (some ⟨g, 0, none⟩) n cap) zs) : Sort.Holds (Value.int .i64) w g 0 zs.toArray := by
  rcases h.2 with ⟨hv, _⟩ | ⟨g', cap', cur, e, hv, hb, hgg, hs, ht, he⟩
  · cases hv
  · injection hv with h1 h2 h3
    injection h1 with h1
    injection h1 with h1
    subst h1
    exact holds_of_blockI hgg ht
set_option maxHeartbeats 400000 in
theorem irev_any (A : Option Addr) (n c B : Nat) (zs : List Int) (w : World) (h : Arg w B A n c zs) :
    Calls Try.prog 46 #[.slice A n c] w (GivesI w (revR zs)) := by
  obtain ⟨b, hb⟩ : ∃ b, isP zs = b := ⟨_, rfl⟩
  have H1 := hide (iisperm_any A n c B zs b hb w h.reads h.under h.le h.small)
  cases b with
  | false =>
    rw [revR_no hb]
    clear hb h
    go_enter Try.func46, Try.ntmps46
    go_wp2_with fail
    refine (unhide H1).mono ?_
    rintro e w1 ⟨rfl, hb⟩
    clear H1
    go_wp2
    go_ret
    exact GivesI.mk (v := .slice none 0 0) (Ints.nil _ _) hb
  | true =>
    rw [revR_yes hb]
    have h8 := isP_le hb
    have H2 := hide (fun w' (hb' : Below w.heap.size w w') => clone_any A n c B zs w' (h.below hb'))
    clear hb h
    go_enter Try.func46, Try.ntmps46
    go_wp2_with fail
    refine (unhide H1).mono ?_
    rintro e w1 ⟨rfl, hb⟩
    have H3 := hide (unhide H2 w1 hb)
    clear H1 H2
    go_wp2_with fail
    refine (unhide H3).mono ?_
    rintro e w2 ⟨A2, c2, rfl, own2, hb2⟩
    have hs := hb.size
    have hb3 := below_after hb hb2
    clear H3 hb hb2
    have own2 := own2.low hs
    rcases own2.2 with ⟨hv, h0⟩ | ⟨g, cap, cur, e, hv, hg, _⟩
    · injection hv with e1 e2 e3
      subst e1; subst e3
      obtain rfl := List.eq_nil_of_length_eq_zero h0
      have H4 := hide (Try.slices_Reverse_int_empty none 0 w2)
      clear h0 own2
      go_wp2_with fail
      refine (unhide H4).mono ?_
      rintro e w3 ⟨rfl, hw3⟩
      rw [hw3]
      clear hw3 H4
      go_wp2
      go_ret
      exact GivesI.mk (v := .slice none 0 0) (Ints.nil _ _) hb3
    · injection hv with e1 e2 e3
      subst e1; subst e3
      have H4 := hide (Try.slices_Reverse_int g 0 c2 zs w2 own2.holds (by omega))
      have L := hide (fun k => own2.laid zs.reverse (by rw [List.length_reverse]) k)
      have hB := hb3.size
      have hgs := own2.since
      clear own2
      go_wp2_with fail
      refine (unhide H4).mono ?_
      rintro e w3 ⟨rfl, k, hw3⟩
      obtain ⟨l1, l2⟩ := unhide L k
      rw [← hw3] at l1 l2
      have hb4 := hb3.grown l2 hB (fun q hq => hgs q (by rw [← hq]; rfl))
      clear hw3 H4 L hb3
      go_wp2
      go_ret
      exact GivesI.mk l1 hb4
end Go.Proofs.Ytkjjjnkgkgdfkaa
