
/-
  spec.BeforePerm and impl.BeforePerm, by their contracts.
-/
import Derived.Test.YtkjjjnkgkgdfkaaPermS
import Derived.Test.YtkjjjnkgkgdfkaaIsPerm
import Derived.Test.YtkjjjnkgkgdfkaaPermB
import Derived.Test.YtkjjjnkgkgdfkaaCmp
namespace Go.Proofs.Ytkjjjnkgkgdfkaa
set_option maxRecDepth 100000
open Go.RowKit

theorem sbef_any (A A' : Option Addr) (n c B n' c' B' : Nat) (p q : List Int) (w : World) (h : Arg w B A n c p) (h' : Arg w B' A' n' c' q) :
    Calls Try.prog 27 #[.slice A n c, .slice A' n' c'] w (GivesB w (bef p q)) := by
  obtain ⟨bp, hp⟩ : ∃ b, isP p = b := ⟨_, rfl⟩
  obtain ⟨bq, hq⟩ : ∃ b, isP q = b := ⟨_, rfl⟩
  have H1 := hide (sisperm_any A n c B p bp hp w h.reads h.le h.cap)
  have H2 := hide (fun w' (hb' : Below w.heap.size w w') => sisperm_any A' n' c' B' q bq hq w' (h'.below hb').reads h'.le h'.cap)
  have H3 := hide (fun w' (hb' : Below w.heap.size w w') => l2bef_any A A' n c B n' c' B' p q (befL p q) rfl w' (h.below hb') (h'.below hb'))
  cases bp with
  | false =>
    rw [bef_no1 hp]
    clear hp hq h h' H2 H3
    go_enter Try.func27, Try.ntmps27
    go_wp2_with fail
    refine (unhide H1).mono ?_
    rintro e w1 ⟨rfl, hd⟩
    have hb := hd.below w.heap.size
    clear hd H1
    go_wp2
    go_ret
    exact ⟨rfl, hb⟩
  | true =>
    cases bq with
    | false =>
      rw [bef_no2 hq]
      clear hp hq h h' H3
      go_enter Try.func27, Try.ntmps27
      go_wp2_with fail
      refine (unhide H1).mono ?_
      rintro e w1 ⟨rfl, hd⟩
      have hb := hd.below w.heap.size
      have H4 := hide (unhide H2 w1 hb)
      clear hd H1 H2
      go_wp2_with fail
      refine (unhide H4).mono ?_
      rintro e w2 ⟨rfl, hd⟩
      have hb2 := below_after hb (hd.below _)
      clear hd H4
      go_wp2
      go_ret
      exact ⟨rfl, hb2⟩
    | true =>
      rw [bef_yes hp hq]
      obtain ⟨b, hbb⟩ : ∃ b, b = befL p q := ⟨_, rfl⟩
      simp only [← hbb] at H3 ⊢
      clear hp hq h h' hbb
      go_enter Try.func27, Try.ntmps27
      go_wp2_with fail
      refine (unhide H1).mono ?_
      rintro e w1 ⟨rfl, hd⟩
      have hb := hd.below w.heap.size
      have H4 := hide (unhide H2 w1 hb)
      clear hd H1 H2
      go_wp2_with fail
      refine (unhide H4).mono ?_
      rintro e w2 ⟨rfl, hd⟩
      have hb2 := below_after hb (hd.below _)
      have H5 := hide (unhide H3 w2 hb2)
      clear hd H4 H3
      go_wp2_with fail
      refine (unhide H5).mono ?_
      rintro e w3 ⟨rfl, hd⟩
      have hb3 := below_after hb2 (hd.below _)
      clear hd H5
      go_wp2
      go_ret
      exact ⟨rfl, hb3⟩

theorem ibef_any (A A' : Option Addr) (n c B n' c' B' : Nat) (p q : List Int) (w : World) (h : Arg w B A n c p) (h' : Arg w B' A' n' c' q) :
    Calls Try.prog 26 #[.slice A n c, .slice A' n' c'] w (GivesB w (bef p q)) := by
  obtain ⟨bp, hp⟩ : ∃ b, isP p = b := ⟨_, rfl⟩
  obtain ⟨bq, hq⟩ : ∃ b, isP q = b := ⟨_, rfl⟩
  have H1 := hide (iisperm_any A n c B p bp hp w h.reads h.under h.le h.small)
  have H2 := hide (fun w' (hb' : Below w.heap.size w w') => iisperm_any A' n' c' B' q bq hq w' (h'.below hb').reads (h'.below hb').under h'.le h'.small)
  have H3 := hide (fun w' (hb' : Below w.heap.size w w') => comparePerms_any A A' n c B n' c' B' p q w' (h.below hb') (h'.below hb'))
  cases bp with
  | false =>
    rw [bef_no1 hp]
    clear hp hq h h' H2 H3
    go_enter Try.func26, Try.ntmps26
    go_wp2_with fail
    refine (unhide H1).mono ?_
    rintro e w1 ⟨rfl, hb⟩
    clear H1
    go_wp2
    go_ret
    exact ⟨rfl, hb⟩
  | true =>
    cases bq with
    | false =>
      rw [bef_no2 hq]
      clear hp hq h h' H3
      go_enter Try.func26, Try.ntmps26
      go_wp2_with fail
      refine (unhide H1).mono ?_
      rintro e w1 ⟨rfl, hb⟩
      have H4 := hide (unhide H2 w1 hb)
      clear H1 H2
      go_wp2_with fail
      refine (unhide H4).mono ?_
      rintro e w2 ⟨rfl, hd⟩
      have hb2 := below_after hb hd
      clear hd H4
      go_wp2
      go_ret
      exact ⟨rfl, hb2⟩
    | true =>
      rw [bef_yes hp hq]
      rw [← cmpV_befL]
      clear hp hq h h'
      go_enter Try.func26, Try.ntmps26
      go_wp2_with fail
      refine (unhide H1).mono ?_
      rintro e w1 ⟨rfl, hb⟩
      have H4 := hide (unhide H2 w1 hb)
      clear H1 H2
      go_wp2_with fail
      refine (unhide H4).mono ?_
      rintro e w2 ⟨rfl, hd⟩
      have hb2 := below_after hb hd
      have H5 := hide (unhide H3 w2 hb2)
      clear hd H4 H3 hb
      go_wp2_with fail
      refine (unhide H5).mono ?_
      rintro e w3 ⟨rfl, k, os, rfl⟩
      have hb3 := below_after hb2 (below_sgrow w2 k os)
      clear H5 hb2
      go_wp2
      go_ret
      exact ⟨rfl, hb3⟩
end Go.Proofs.Ytkjjjnkgkgdfkaa
