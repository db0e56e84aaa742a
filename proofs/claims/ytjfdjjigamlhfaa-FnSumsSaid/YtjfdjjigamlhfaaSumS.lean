
/-
  spec.SumOf, spec.SkewSumOf, by their contracts. (Written by wip/tools/mkjoin.py.)
-/
import Derived.Test.YtjfdjjigamlhfaaJoin
namespace Go.Proofs.Ytjfdjjigamlhfaa
open Go.RowKit

theorem ssum_any (A A' : Option Addr) (n c B n' c' B' : Nat) (p q : List Int) (w : World) (h : Arg w B A n c p) (h' : Arg w B' A' n' c' q) :
    Calls Try.prog 10 #[.slice A n c, .slice A' n' c'] w (GivesIB w (joinR false p q) (fit p q)) := by
  obtain ⟨b, hb⟩ : ∃ b, fit p q = b := ⟨_, rfl⟩
  have H1 := hide (l4fit_any A A' n c B n' c' B' p q b hb w h h')
  cases b with
  | false =>
    rw [joinR_no hb, hb]
    clear hb h h'
    go_enter Try.func10, Try.ntmps10
    go_wp2_with fail
    refine (unhide H1).mono ?_
    rintro e w1 ⟨rfl, hd⟩
    have hb := hd.below w.heap.size
    clear hd H1
    go_wp2
    go_ret2
    exact GivesIB.mk false (Ints.made0 w1 w.heap.size hb.size) (hb.alloc hb.size _)
  | true =>
    have H2 := hide (fun w' (hb' : Below w.heap.size w w') => l4join_any A A' n c B n' c' B' false p q w' (h.below hb') (h'.below hb') hb)
    rw [joinR_yes hb, hb]
    clear hb h h'
    go_enter Try.func10, Try.ntmps10
    go_wp2_with fail
    refine (unhide H1).mono ?_
    rintro e w1 ⟨rfl, hd⟩
    have hb := hd.below w.heap.size
    have H3 := hide (unhide H2 w1 hb)
    clear hd H1 H2
    go_wp2_with fail
    refine (unhide H3).mono ?_
    rintro e w2 ⟨A2, c2, rfl, own2, hb2⟩
    clear H3
    go_wp2
    go_ret2
    exact GivesIB.mk true (own2.low hb.size) (below_after hb hb2)

theorem sskew_any (A A' : Option Addr) (n c B n' c' B' : Nat) (p q : List Int) (w : World) (h : Arg w B A n c p) (h' : Arg w B' A' n' c' q) :
    Calls Try.prog 16 #[.slice A n c, .slice A' n' c'] w (GivesIB w (joinR true p q) (fit p q)) := by
  obtain ⟨b, hb⟩ : ∃ b, fit p q = b := ⟨_, rfl⟩
  have H1 := hide (l4fit_any A A' n c B n' c' B' p q b hb w h h')
  cases b with
  | false =>
    rw [joinR_no hb, hb]
    clear hb h h'
    go_enter Try.func16, Try.ntmps16
    go_wp2_with fail
    refine (unhide H1).mono ?_
    rintro e w1 ⟨rfl, hd⟩
    have hb := hd.below w.heap.size
    clear hd H1
    go_wp2
    go_ret2
    exact GivesIB.mk false (Ints.made0 w1 w.heap.size hb.size) (hb.alloc hb.size _)
  | true =>
    have H2 := hide (fun w' (hb' : Below w.heap.size w w') => l4join_any A A' n c B n' c' B' true p q w' (h.below hb') (h'.below hb') hb)
    rw [joinR_yes hb, hb]
    clear hb h h'
    go_enter Try.func16, Try.ntmps16
    go_wp2_with fail
    refine (unhide H1).mono ?_
    rintro e w1 ⟨rfl, hd⟩
    have hb := hd.below w.heap.size
    have H3 := hide (unhide H2 w1 hb)
    clear hd H1 H2
    go_wp2_with fail
    refine (unhide H3).mono ?_
    rintro e w2 ⟨A2, c2, rfl, own2, hb2⟩
    clear H3
    go_wp2
    go_ret2
    exact GivesIB.mk true (own2.low hb.size) (below_after hb hb2)
end Go.Proofs.Ytjfdjjigamlhfaa
