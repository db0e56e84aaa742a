
/-
  spec.ComposePerm and impl.ComposePerm, by their contracts.
-/
import Derived.Test.YtkjjjnkgkgdfkaaPermS
import Derived.Test.YtkjjjnkgkgdfkaaIsPerm
import Derived.Test.YtkjjjnkgkgdfkaaPermF
namespace Go.Proofs.Ytkjjjnkgkgdfkaa
open Go.RowKit

theorem scomp_no (A A' : Option Addr) (n c B n' c' B' : Nat) (p q : List Int) (bp bq : Bool) (hp : isP p = bp) (hq : isP q = bq) (hno : bp = false ∨ bq = false ∨ n ≠ n') (w : World) (h : Arg w B A n c p) (h' : Arg w B' A' n' c' q) :
    Calls Try.prog 11 #[.slice A n c, .slice A' n' c'] w (GivesIB w [] false) := by
  have H1 := hide (sisperm_any A n c B p bp hp w h.reads h.le h.cap)
  have H2 := hide (fun w' (hb' : Below w.heap.size w w') => sisperm_any A' n' c' B' q bq hq w' (h'.below hb').reads h'.le h'.cap)
  have hn := h.le
  have hn' := h'.le
  clear hp hq h h'
  cases bp with
  | false =>
    clear hno H2
    go_enter Try.func11, Try.ntmps11
    go_wp2_with fail
    refine (unhide H1).mono ?_
    rintro e w1 ⟨rfl, hd⟩
    have hb := hd.below w.heap.size
    clear hd H1
    go_wp2
    go_ret2
    exact GivesIB.mk false (Ints.made0 w1 w.heap.size hb.size) (hb.alloc hb.size _)
  | true =>
    cases bq with
    | false =>
      clear hno
      go_enter Try.func11, Try.ntmps11
      go_wp2_with fail
      refine (unhide H1).mono ?_
      rintro e w1 ⟨rfl, hd⟩
      have hb := hd.below w.heap.size
      have H3 := hide (unhide H2 w1 hb)
      clear hd H1 H2
      go_wp2_with fail
      refine (unhide H3).mono ?_
      rintro e w2 ⟨rfl, hd⟩
      have hb2 := below_after hb (hd.below _)
      clear hd H3 hb
      go_wp2
      go_ret2
      exact GivesIB.mk false (Ints.made0 w2 w.heap.size hb2.size) (hb2.alloc hb2.size _)
    | true =>
      have hne : n ≠ n' := by simpa using hno
      have hne' : ((n : Int) == (n' : Int)) = false := by simp; omega
      clear hno
      go_enter Try.func11, Try.ntmps11
      go_wp2_with fail
      refine (unhide H1).mono ?_
      rintro e w1 ⟨rfl, hd⟩
      have hb := hd.below w.heap.size
      have H3 := hide (unhide H2 w1 hb)
      clear hd H1 H2
      go_wp2_with fail
      refine (unhide H3).mono ?_
      rintro e w2 ⟨rfl, hd⟩
      have hb2 := below_after hb (hd.below _)
      clear hd H3 hb
      go_wp2
      go_ret2
      exact GivesIB.mk false (Ints.made0 w2 w.heap.size hb2.size) (hb2.alloc hb2.size _)

set_option maxHeartbeats 800000 in
theorem scomp_yes (A A' : Option Addr) (n c B c' B' : Nat) (p q : List Int) (hp : isP p = true) (hq : isP q = true) (w : World) (h : Arg w B A n c p) (h' : Arg w B' A' n c' q) :
    Calls Try.prog 11 #[.slice A n c, .slice A' n c'] w (GivesIB w (compL p q q.length) true) := by
  obtain ⟨i0, hi, hz0, hz1, hz2⟩ := info_parts intInfo
  have H1 := hide (sisperm_any A n c B p true hp w h.reads h.le h.cap)
  have H2 := hide (fun w' (hb' : Below w.heap.size w w') => sisperm_any A' n c' B' q true hq w' (h'.below hb').reads h'.le h'.cap)
  have hl := h'.len
  have hlp := h.len
  have hr := h.reads
  have hr' := h'.reads
  have hB := h.under
  have hB' := h'.under
  have hn8 : n ≤ 8 := by have := isP_le hq; omega
  have HP := hide (fun k z hz => isP_range hq (k := k) (z := z) hz)
  rw [hl]
  have HL := hide hl
  have HLP := hide hlp
  clear hl hlp hp hq h h'
  go_enter Try.func11, Try.ntmps11
  go_wp2_with fail
  refine (unhide H1).mono ?_
  rintro e w1 ⟨rfl, hd⟩
  have hb := hd.below w.heap.size
  have H3 := hide (unhide H2 w1 hb)
  clear hd H1 H2
  go_wp2_with fail
  refine (unhide H3).mono ?_
  rintro e w2 ⟨rfl, hd⟩
  have hb2 := below_after hb (hd.below _)
  have hst := own0 w2 w.heap.size hb2.size
  have hbel := hb2.alloc hb2.size (.cells #[] 3)
  clear hd H3 hb
  go_wp2
  go_loopw [6, 7] (fun v i wr => ∃ k : Nat, k ≤ n ∧ i = .int .i64 k ∧ Below w.heap.size w wr ∧ wr.ownsRow w.heap.size 3 1 v k (i64s (compL p q k))) (fun _ i _ => n - (intOf i).toNat)
  case atStart => exact ⟨0, Nat.zero_le _, rfl, hbel, hst⟩
  case round =>
    obtain ⟨k, hk, rfl, hbw, hown⟩ := hrel
    clear hst hbel hb2
    by_cases hlt : k < n
    · obtain ⟨ad, u, rfl, had, hu, hc⟩ := ((hr'.more hB').below hbw).at_ hlt
      obtain ⟨z, hz, rfl⟩ := i64_at hu
      obtain ⟨hz1', hz2'⟩ := unhide HP k z hz
      rw [unhide HL] at hz2'
      have hzn : z.toNat - 1 < n := by omega
      obtain ⟨ad2, u2, rfl, had2, hu2, hc2⟩ := ((hr.more hB).below hbw).at_ hzn
      obtain ⟨y, hy, rfl⟩ := i64_at hu2
      have hstep := compL_step hz hy
      have e : i64s (compL p q k) ++ [.int .i64 y] = i64s (compL p q (k + 1)) := by rw [hstep]; unfold i64s; simp
      have HE := hide e
      clear e hstep hu hu2 hz hy
      go_wp2_with (first
        | (at_builtin; refine wpList_append_one rfl (.tmp 31) (.tmp 40) 24 rfl w.heap.size 3 i0 (.int .i64 0) 8 Try.underlying24 hi hz0 hz1 hz2 rfl w wr _ _ _ rfl hown (.int .i64 y) rfl rfl rfl (by omega) (by simp only [maxLen]; omega) hbw hbw.size ?_; intro v2 w2 hown2 hb2 hg2; clear hg2))
      rw [unhide HE] at hown2
      clear hown hbw HE
      go_roundw
      case rel => exact ⟨k + 1, by omega, by go_num, hb2, hown2⟩
      case measure => simp [intOf]; omega
    · obtain rfl : n = k := by omega
      have hI : Ints wr w.heap.size u6 (compL p q n) := Ints.of_own hown
      clear hown
      go_wp2
      go_ret2
      exact GivesIB.mk true hI hbw

theorem scomp_any (A A' : Option Addr) (n c B n' c' B' : Nat) (p q : List Int) (b : Bool) (hb : compOK p q = b) (w : World) (h : Arg w B A n c p) (h' : Arg w B' A' n' c' q) :
    Calls Try.prog 11 #[.slice A n c, .slice A' n' c'] w (GivesIB w (compR p q) b) := by
  by_cases hp : isP p = true
  · by_cases hq : isP q = true
    · by_cases hn : n = n'
      · subst hn
        have hok := compOK_yes hp hq (h.len.trans h'.len.symm)
        obtain rfl : b = true := hb.symm.trans hok
        rw [compR_yes hok]
        exact scomp_yes A A' n c B c' B' p q hp hq w h h'
      · have hok : compOK p q = false := compOK_no3 (by rw [h.len, h'.len]; exact hn)
        obtain rfl : b = false := hb.symm.trans hok
        rw [compR_no hok]
        exact scomp_no A A' n c B n' c' B' p q _ _ hp hq (.inr (.inr hn)) w h h'
    · have hq' : isP q = false := by simpa using hq
      have hok : compOK p q = false := compOK_no2 hq'
      obtain rfl : b = false := hb.symm.trans hok
      rw [compR_no hok]
      exact scomp_no A A' n c B n' c' B' p q _ _ hp hq' (.inr (.inl rfl)) w h h'
  · have hp' : isP p = false := by simpa using hp
    have hok : compOK p q = false := compOK_no1 hp'
    obtain rfl : b = false := hb.symm.trans hok
    rw [compR_no hok]
    exact scomp_no A A' n c B n' c' B' p q _ _ hp' rfl (.inl rfl) w h h'

theorem icomp_no (A A' : Option Addr) (n c B n' c' B' : Nat) (p q : List Int) (bp bq : Bool) (hp : isP p = bp) (hq : isP q = bq) (hno : bp = false ∨ bq = false ∨ n ≠ n') (w : World) (h : Arg w B A n c p) (h' : Arg w B' A' n' c' q) :
    Calls Try.prog 10 #[.slice A n c, .slice A' n' c'] w (GivesIB w [] false) := by
  have H1 := hide (iisperm_any A n c B p bp hp w h.reads h.under h.le h.small)
  have H2 := hide (fun w' (hb' : Below w.heap.size w w') => iisperm_any A' n' c' B' q bq hq w' (h'.below hb').reads (h'.below hb').under h'.le h'.small)
  have hn := h.le
  have hn' := h'.le
  clear hp hq h h'
  cases bp with
  | false =>
    clear hno H2
    go_enter Try.func10, Try.ntmps10
    go_wp2_with fail
    refine (unhide H1).mono ?_
    rintro e w1 ⟨rfl, hb⟩
    clear H1
    go_wp2
    go_ret2
    exact GivesIB.mk (v := .slice none 0 0) false (Ints.nil _ _) hb
  | true =>
    cases bq with
    | false =>
      clear hno
      go_enter Try.func10, Try.ntmps10
      go_wp2_with fail
      refine (unhide H1).mono ?_
      rintro e w1 ⟨rfl, hb⟩
      have H3 := hide (unhide H2 w1 hb)
      clear H1 H2
      go_wp2_with fail
      refine (unhide H3).mono ?_
      rintro e w2 ⟨rfl, hd⟩
      have hb2 := below_after hb hd
      clear hd H3 hb
      go_wp2
      go_ret2
      exact GivesIB.mk (v := .slice none 0 0) false (Ints.nil _ _) hb2
    | true =>
      have hne : n ≠ n' := by simpa using hno
      have hne' : ((n : Int) == (n' : Int)) = false := by simp; omega
      clear hno
      go_enter Try.func10, Try.ntmps10
      go_wp2_with fail
      refine (unhide H1).mono ?_
      rintro e w1 ⟨rfl, hb⟩
      have H3 := hide (unhide H2 w1 hb)
      clear H1 H2
      go_wp2_with fail
      refine (unhide H3).mono ?_
      rintro e w2 ⟨rfl, hd⟩
      have hb2 := below_after hb hd
      clear hd H3 hb
      go_wp2
      go_ret2
      exact GivesIB.mk (v := .slice none 0 0) false (Ints.nil _ _) hb2

set_option maxHeartbeats 800000 in
theorem icomp_yes (A A' : Option Addr) (n c B c' B' : Nat) (p q : List Int) (hp : isP p = true) (hq : isP q = true) (w : World) (h : Arg w B A n c p) (h' : Arg w B' A' n c' q) :
    Calls Try.prog 10 #[.slice A n c, .slice A' n c'] w (GivesIB w (compL p q q.length) true) := by
  obtain ⟨i0, hi, hz0, hz1, hz2⟩ := info_parts intInfo
  have H1 := hide (iisperm_any A n c B p true hp w h.reads h.under h.le h.small)
  have H2 := hide (fun w' (hb' : Below w.heap.size w w') => iisperm_any A' n c' B' q true hq w' (h'.below hb').reads (h'.below hb').under h'.le h'.small)
  have hl := h'.len
  have hlp := h.len
  have hr := h.reads
  have hr' := h'.reads
  have hB := h.under
  have hB' := h'.under
  have hn8 : n ≤ 8 := by have := isP_le hq; omega
  have HP := hide (fun k z hz => isP_range hq (k := k) (z := z) hz)
  rw [hl]
  have HL := hide hl
  clear hl hlp hp hq h h'
  go_enter Try.func10, Try.ntmps10
  go_wp2_with fail
  refine (unhide H1).mono ?_
  rintro e w1 ⟨rfl, hb⟩
  have H3 := hide (unhide H2 w1 hb)
  clear H1 H2
  go_wp2_with fail
  refine (unhide H3).mono ?_
  rintro e w2 ⟨rfl, hd⟩
  have hb0 := below_after hb hd
  have hs0 := hb0.size
  clear hd H3 hb
  go_wp2_with (first
    | (at_make; refine wpList_make_full _ rfl (.tmp 25) (.tmp 25) 24 rfl w.heap.size 3 i0 (.int .i64 0) 1 Try.underlying24 hi hz0 hz1 _ _ _ _ n rfl rfl (by first | rfl | omega) (by first | rfl | omega) (by rw [hz2]; omega) (by unfold maxLen; omega) hs0 ?_; intro w3 hown hg))
  have hb1 := hb0.grown hg hs0 (by simp)
  clear hg hb0
  obtain ⟨g, hg⟩ : ∃ g, g = w2.heap.size := ⟨_, rfl⟩
  rw [← hg] at hown ⊢
  clear hg hs0
  go_loopw [7, 8, 29] (fun _ _ i wr => ∃ (k : Nat) (xs : List Value), k ≤ n ∧ i = .int .i64 k ∧ Below w.heap.size w wr ∧ wr.ownsRow w.heap.size 3 1 (.slice (some ⟨g, 0, none⟩) n n) n xs ∧ Hid (xs.take k = (i64s (compL p q n)).take k)) (fun _ _ i _ => n - (intOf i).toNat)
  case atStart => exact ⟨0, _, Nat.zero_le _, rfl, hb1, hown, by exact rfl⟩
  case round =>
    obtain ⟨k, xs, hk, rfl, hb, hown', hx⟩ := hrel
    clear hown hb1
    have hlx : xs.length = n := by simpa using hown'.1
    by_cases hlt : k < n
    · obtain ⟨ad, u, rfl, had, hu, hc⟩ := ((hr'.more hB').below hb).at_ hlt
      obtain ⟨z, hz, rfl⟩ := i64_at hu
      obtain ⟨hz1', hz2'⟩ := unhide HP k z hz
      rw [unhide HL] at hz2'
      have hzn : z.toNat - 1 < n := by omega
      obtain ⟨ad2, u2, rfl, had2, hu2, hc2⟩ := ((hr.more hB).below hb).at_ hzn
      obtain ⟨y, hy, rfl⟩ := i64_at hu2
      obtain ⟨old, hold⟩ : ∃ old, wr.cell? ⟨g, k, none⟩ = some old := ⟨_, by rw [hown'.cellAt k (by omega)]; exact List.getElem?_eq_getElem (by omega)⟩
      have hfz := hown'.frozenAt k
      have hst := hide (take_set_i (unhide hx) (i64_get (compL_at hlt hz hy)) (by omega))
      have ho2 := (hown'.stored k (.int .i64 y)).1
      have hb2 := below_set_i hb hown' k (.int .i64 y)
      clear hx hlx hu hu2 hz hy hown' hb
      go_wp2
      go_roundw
      case rel => exact ⟨k + 1, _, by omega, by go_num, hb2, ho2, hst⟩
      case measure => simp [intOf]; omega
    · obtain rfl : n = k := by omega
      have : xs = i64s (compL p q n) := by
        have h := unhide hx
        rwa [List.take_of_length_le (by omega), List.take_of_length_le (by rw [i64_length, compL_length]; omega)] at h
      subst this
      have hI : Ints wr w.heap.size (.slice (some ⟨g, 0, none⟩) n n) (compL p q n) := Ints.of_own hown'
      clear hx hlx hown'
      go_wp2
      go_ret2
      exact GivesIB.mk true hI hb

theorem icomp_any (A A' : Option Addr) (n c B n' c' B' : Nat) (p q : List Int) (b : Bool) (hb : compOK p q = b) (w : World) (h : Arg w B A n c p) (h' : Arg w B' A' n' c' q) :
    Calls Try.prog 10 #[.slice A n c, .slice A' n' c'] w (GivesIB w (compR p q) b) := by
  by_cases hp : isP p = true
  · by_cases hq : isP q = true
    · by_cases hn : n = n'
      · subst hn
        have hok := compOK_yes hp hq (h.len.trans h'.len.symm)
        obtain rfl : b = true := hb.symm.trans hok
        rw [compR_yes hok]
        exact icomp_yes A A' n c B c' B' p q hp hq w h h'
      · have hok : compOK p q = false := compOK_no3 (by rw [h.len, h'.len]; exact hn)
        obtain rfl : b = false := hb.symm.trans hok
        rw [compR_no hok]
        exact icomp_no A A' n c B n' c' B' p q _ _ hp hq (.inr (.inr hn)) w h h'
    · have hq' : isP q = false := by simpa using hq
      have hok : compOK p q = false := compOK_no2 hq'
      obtain rfl : b = false := hb.symm.trans hok
      rw [compR_no hok]
      exact icomp_no A A' n c B n' c' B' p q _ _ hp hq' (.inr (.inl rfl)) w h h'
  · have hp' : isP p = false := by simpa using hp
    have hok : compOK p q = false := compOK_no1 hp'
    obtain rfl : b = false := hb.symm.trans hok
    rw [compR_no hok]
    exact icomp_no A A' n c B n' c' B' p q _ _ hp' rfl (.inl rfl) w h h'

end Go.Proofs.Ytkjjjnkgkgdfkaa
