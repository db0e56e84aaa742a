/-
  Words and contracts that the laws lean on, bundled: Pat, OccR, OccI, Tell, Zone, Round, SymG, OccN, LowS.
-/
import Derived.Test.YtichenjbkclljaaB2
import Derived.Test.YtichenjbkclljaaB3
import Derived.Test.YtichenjbkclljaaB1
import Derived.IntWalk
import Derived.Deep.RegionHeld3
import Derived.RangeFuncNested
import Derived.RangeFuncBound
import Derived.RangeFuncCalls
import Derived.RangeFuncLeaves
import Derived.Shelf.Abstract
import Derived.Shelf.RegionOpen
import Derived.WalkKit
import Derived.OwnWalkIn
import Derived.TacticsInMore
import Derived.LoopNIn
import Derived.LoopIn

/-
  spec.PatternOf and impl.PatternOf, by their contracts.
-/

namespace Go.Proofs.Ytichenjbkclljaa
set_option maxRecDepth 100000
open Go.RowKit

theorem bit_true (w : World) : Calls Try.prog 54 #[.bool true] w fun e w' => e = .returned (.int .i64 1) ∧ w' = w := by
  go_enter Try.func54, Try.ntmps54
  go_wp2
  go_ret
  exact ⟨rfl, rfl⟩
theorem bit_false (w : World) : Calls Try.prog 54 #[.bool false] w fun e w' => e = .returned (.int .i64 0) ∧ w' = w := by
  go_enter Try.func54, Try.ntmps54
  go_wp2
  go_ret
  exact ⟨rfl, rfl⟩
theorem cnt_at {zs : List Int} {k : Nat} {x v : Int} (h : zs[k]? = some x) : cnt (zs.take (k + 1)) v = cnt (zs.take k) v + if x < v then 1 else 0 := by rw [take_snoc_i h, cnt_snoc]

set_option maxHeartbeats 400000 in
theorem less_any (A : Option Addr) (n c B : Nat) (zs : List Int) (v : Int) (w : World) (h : Arg w B A n c zs) :
    Calls Try.prog 97 #[.slice A n c, .int .i64 v] w fun e w' => e = .returned (.int .i64 (cnt zs v : Int)) ∧ w = w' := by
  have hl := h.len
  have hn := h.le
  have hr := h.reads
  have HL := hide hl
  clear h hl
  go_enter Try.func97, Try.ntmps97
  go_wp2
  go_loop [5, 7, 10] (fun m _ i => ∃ k : Nat, k ≤ n ∧ i = .int .i64 k ∧ m = .int .i64 (cnt (zs.take k) v : Int)) (fun _ _ i => n - (intOf i).toNat)
  case atStart => exact ⟨0, Nat.zero_le _, rfl, rfl⟩
  case round =>
    obtain ⟨k, hk, rfl, rfl⟩ := hrel
    have hle := cnt_le (zs.take k) v
    have hle2 : cnt (zs.take k) v ≤ 1048576 := by have := List.length_take_le k zs; omega
    clear hle
    by_cases hlt : k < n
    · obtain ⟨ad, u, rfl, _, hu, hc⟩ := hr.at_ hlt
      obtain ⟨x, hx, rfl⟩ := i64_at hu
      have hstep := hide (cnt_at (v := v) hx)
      clear hu hx hr
      by_cases hxv : x < v
      · go_wp2
        go_round
        case rel => exact ⟨k + 1, by omega, by go_num, by rw [unhide hstep, if_pos hxv]; go_num⟩
        case measure => simp [intOf]; omega
      · go_wp2
        go_round
        case rel => exact ⟨k + 1, by omega, by go_num, by rw [unhide hstep, if_neg hxv]; rfl⟩
        case measure => simp [intOf]; omega
    · obtain rfl : n = k := by omega
      have e : zs.take n = zs := List.take_of_length_le (by rw [unhide HL]; exact Nat.le_refl _)
      rw [e] at hle2 ⊢
      clear e
      go_wp2
      go_ret
      exact ⟨rfl, rfl⟩

set_option maxHeartbeats 800000 in
theorem l2pat_any (A : Option Addr) (n c B : Nat) (zs : List Int) (w : World) (h : Arg w B A n c zs) (hn8 : n ≤ 8) :
    Calls Try.prog 70 #[.slice A n c] w (GivesI w (patL zs)) := by
  obtain ⟨i0, hi, hz0, hz1, hz2⟩ := info_parts intInfo
  have hl := h.len
  have hr := h.reads
  have hB := h.under
  have HL := hide hl
  have hst := own0 w w.heap.size (Nat.le_refl _)
  have hbel := (Below.refl w.heap.size w).alloc (Nat.le_refl _) (.cells #[] 3)
  clear h hl
  go_enter Try.func70, Try.ntmps70
  go_wp2
  go_loopw [3, 4, 5, 6] (fun o i _ _ wr => ∃ k : Nat, k ≤ n ∧ i = .int .i64 k ∧ Below w.heap.size w wr ∧ wr.ownsRow w.heap.size 3 1 o k (i64s ((patL zs).take k))) (fun _ i _ _ _ => n - (intOf i).toNat)
  case atStart => exact ⟨0, Nat.zero_le _, rfl, hbel, hst⟩
  case round =>
    obtain ⟨k, hk, rfl, hbw, hown⟩ := hrel
    clear hst hbel
    by_cases hlt : k < n
    · obtain ⟨ad, u, rfl, _, hu, hc⟩ := ((hr.more hB).below hbw).at_ hlt
      obtain ⟨v, hv, rfl⟩ := i64_at hu
      have HV := hide hv
      clear hu hv
      obtain ⟨wo, rfl⟩ : ∃ wo : World, wo = wr := ⟨_, rfl⟩
      go_wp2
      go_loopw [5, 6] (fun m i wi => ∃ j : Nat, j ≤ n ∧ i = .int .i64 j ∧ m = .int .i64 (1 + (cnt (zs.take j) v : Int)) ∧ Drew wo wi) (fun _ i _ => n - (intOf i).toNat)
      case atStart => exact ⟨0, Nat.zero_le _, rfl, rfl, Drew.refl _⟩
      case round =>
        obtain ⟨j, hj, rfl, rfl, hd⟩ := hrel
        have hle := cnt_le (zs.take j) v
        have hle2 : cnt (zs.take j) v ≤ 8 := by have := List.length_take_le j zs; omega
        clear hle
        by_cases hjt : j < n
        · obtain ⟨ad', u', he', _, hu', hc'⟩ := (((hr.more hB).below hbw).ofDrew hd).at_ hjt
          obtain rfl : ad = ad' := Option.some.inj he'
          clear he'
          obtain ⟨x, hx, rfl⟩ := i64_at hu'
          have hstep := hide (cnt_at (v := v) hx)
          have hcv := (hd.cell _).trans hc
          have HD := hide hd
          have HR := hide hr
          have HO := hide hown
          have HBW := hide hbw
          clear hu' hx hd hr hown hbw hc
          obtain ⟨m, hm⟩ : ∃ m, m = cnt (zs.take j) v := ⟨_, rfl⟩
          rw [← hm] at hle2 hstep ⊢
          clear hm
          have w1 : IntKind.i64.wrap (1 + (m : Int) + 1) = 1 + (m : Int) + 1 := IntWalk.i64_in _ (by omega)
          have w0 : IntKind.i64.wrap (1 + (m : Int)) = 1 + (m : Int) := IntWalk.i64_in _ (by omega)
          by_cases hxv : x < v
          · go_wp2
            go_quiet ((go_at_call 54; exact Calls.quiet_of_same (bit_true _)))
            clear w1 w0
            go_wp2
            go_roundw
            case rel => exact ⟨j + 1, by omega, by go_num, by rw [unhide hstep, if_pos hxv]; go_num, (unhide HD).more _⟩
            case measure => simp [intOf]; omega
          · have hdf : decide (x < v) = false := by simpa using hxv
            go_wp2
            go_quiet ((go_at_call 54; exact Calls.quiet_of_same (bit_false _)))
            clear w1 w0
            go_wp2
            go_roundw
            case rel => exact ⟨j + 1, by omega, by go_num, by rw [unhide hstep, if_neg (by omega)]; rfl, (unhide HD).more _⟩
            case measure => simp [intOf]; omega
        · obtain rfl : n = j := by omega
          have e : zs.take n = zs := List.take_of_length_le (by rw [unhide HL]; exact Nat.le_refl _)
          rw [e] at hle2 ⊢
          clear e
          have hownA := own_below hown (hd.below _)
          have hbwA := hbw.trans (hd.below _)
          have e2 : i64s ((patL zs).take k) ++ [.int .i64 (1 + (cnt zs v : Int))] = i64s ((patL zs).take (k + 1)) := by rw [patL_take (unhide HV)]; unfold i64s; simp
          have HE := hide e2
          clear e2 hd hown hbw hc
          go_wp2_with (first
            | (at_builtin; refine wpList_append_one rfl (.tmp 32) (.tmp 34) 24 rfl w.heap.size 3 i0 (.int .i64 0) 8 Try.underlying24 hi hz0 hz1 hz2 rfl w _ _ _ _ rfl hownA (.int .i64 (1 + (cnt zs v : Int))) rfl rfl rfl (by omega) (by simp only [maxLen]; omega) hbwA hbwA.size ?_; intro v2 w2 hown2 hb2 hg2; clear hg2))
          rw [unhide HE] at hown2
          clear hownA hbwA HE
          go_roundw
          case rel => exact ⟨k + 1, by omega, by go_num, hb2, hown2⟩
          case measure => simp [intOf]; omega
    · obtain rfl : n = k := by omega
      have e : (patL zs).take n = patL zs := List.take_of_length_le (by rw [patL_length, unhide HL]; exact Nat.le_refl _)
      rw [e] at hown
      have hI : Ints wr w.heap.size u3 (patL zs) := Ints.of_own hown
      clear hown e
      go_wp2
      go_ret
      exact GivesI.mk hI hbw

set_option maxHeartbeats 800000 in
theorem ipat_any (A : Option Addr) (n c B : Nat) (zs : List Int) (b : Bool) (hb : patOK zs = b) (w : World) (h : Arg w B A n c zs) :
    Calls Try.prog 61 #[.slice A n c] w (GivesIB w (patR zs) b) := by
  obtain ⟨i0, hi, hz0, hz1, hz2⟩ := info_parts intInfo
  have hl := h.len
  have hr := h.reads
  have hB := h.under
  by_cases h8 : n ≤ 8
  · have h8' : ¬ 8 < n := by omega
    have h8b : decide ((8 : Int) < (n : Int)) = false := by simp; omega
    have H2 := hide (fun v w' (hb' : Below w.heap.size w w') => less_any A n c B zs v w' (h.below hb'))
    have HL := hide hl
    have HB := hide hb
    have HC := hide (fun v => cnt_le zs v)
    clear h hl hb
    go_enter Try.func61, Try.ntmps61
    go_wp2_with (first
      | (at_make; refine wpList_make_full _ rfl (.tmp 11) (.tmp 11) 24 rfl w.heap.size 3 i0 (.int .i64 0) 1 Try.underlying24 hi hz0 hz1 _ _ _ _ n rfl rfl (by first | rfl | omega) (by first | rfl | omega) (by rw [hz2]; omega) (by unfold maxLen; omega) (Nat.le_refl _) ?_; intro w1 hown hg))
    have hb1 := (Below.refl w.heap.size w).grown hg (Nat.le_refl _) (by simp)
    clear hg
    go_loopw [5, 6, 15] (fun _ _ i wr => ∃ (k : Nat) (xs : List Value), k ≤ n ∧ i = .int .i64 k ∧ Below w.heap.size w wr ∧ wr.ownsRow w.heap.size 3 1 (.slice (some ⟨w.heap.size, 0, none⟩) n n) n xs ∧ Hid (xs.take k = (i64s (patL zs)).take k)) (fun _ _ i _ => n - (intOf i).toNat)
    case atStart => exact ⟨0, _, Nat.zero_le _, rfl, hb1, hown, by exact rfl⟩
    case round =>
      obtain ⟨k, xs, hk, rfl, hb, hown', hx⟩ := hrel
      clear hown hb1
      have hlx : xs.length = n := by simpa using hown'.1
      by_cases hlt : k < n
      · obtain ⟨ad, u, rfl, had, hu, hc⟩ := ((hr.more hB).below hb).at_ hlt
        obtain ⟨z, hz, rfl⟩ := i64_at hu
        obtain ⟨old, hold⟩ : ∃ old, wr.cell? ⟨w.heap.size, k, none⟩ = some old := ⟨_, by rw [hown'.cellAt k (by omega)]; exact List.getElem?_eq_getElem (by omega)⟩
        have hfz := hown'.frozenAt k
        have hle : cnt zs z ≤ 8 := by have := unhide HC z; rw [unhide HL] at this; omega
        have hst := hide (take_set_i (unhide hx) (i64_get (patL_at hz)) (by omega))
        have ho2 := (hown'.stored k (.int .i64 (1 + (cnt zs z : Int)))).1
        have hb2 := below_set_i hb hown' k (.int .i64 (1 + (cnt zs z : Int)))
        have H3 := hide (unhide H2 z wr hb)
        clear hx hlx hu hz hown' hb H2
        go_wp2_with fail
        refine (unhide H3).mono ?_
        rintro e w' ⟨rfl, rfl⟩
        clear H3
        go_wp2
        go_roundw
        case rel => exact ⟨k + 1, _, by omega, by go_num, hb2, ho2, hst⟩
        case measure => simp [intOf]; omega
      · obtain rfl : n = k := by omega
        have : xs = i64s (patL zs) := by
          have h := unhide hx
          rwa [List.take_of_length_le (by omega), List.take_of_length_le (by rw [i64_length, patL_length, unhide HL]; exact Nat.le_refl _)] at h
        subst this
        have hI : Ints wr w.heap.size (.slice (some ⟨w.heap.size, 0, none⟩) n n) (patL zs) := Ints.of_own hown'
        have hsm : Small (patL zs) := fun x hx => by
          have := patL_range x hx
          rw [unhide HL] at this
          omega
        have H4 := hide (iisperm_any _ n n _ (patL zs) b ((isP_pat zs).trans (unhide HB)) wr hI.reads (Nat.le_refl _) (by omega) hsm)
        clear hx hlx hown' H2 hsm
        cases b with
        | true =>
          have HR := hide (patR_yes (unhide HB))
          go_wp2_with fail
          refine (unhide H4).mono ?_
          rintro e w2 ⟨rfl, hb2⟩
          have hI2 := hI.below hb2
          rw [← unhide HR] at hI2
          clear H4
          go_wp2
          go_ret2
          exact GivesIB.mk true hI2 (below_after hb hb2)
        | false =>
          have HR := hide (patR_no (unhide HB))
          go_wp2_with fail
          refine (unhide H4).mono ?_
          rintro e w2 ⟨rfl, hb2⟩
          clear H4
          go_wp2
          go_ret2
          exact GivesIB.mk (v := .slice none 0 0) false (by rw [unhide HR]; exact Ints.nil _ _) (below_after hb hb2)
  · have hno := patOK_no8 (l := zs) (by omega)
    obtain rfl : b = false := hb.symm.trans hno
    rw [patR_no hno]
    have hn := h.le
    have h8' : 8 < n := by omega
    have h8b : decide ((8 : Int) < (n : Int)) = true := by simp; omega
    clear hb hno h hl hr
    go_enter Try.func61, Try.ntmps61
    go_wp2
    go_ret2
    exact GivesIB.mk (v := .slice none 0 0) false (Ints.nil _ _) (Below.refl _ _)
end Go.Proofs.Ytichenjbkclljaa


/-
  spec.OccurrencesOf, spec.CountPattern, spec.HasPattern, spec.IsOccurrence, by their contracts.
-/

namespace Go.Proofs.Ytichenjbkclljaa
set_option maxRecDepth 100000
open Go.RowKit

set_option maxHeartbeats 800000 in
theorem soccs_any (A A' : Option Addr) (n c B n' c' B' : Nat) (p q : List Int) (w : World) (h : Arg w B A n c p) (h' : Arg w B' A' n' c' q) :
    Calls Try.prog 21 #[.slice A n c, .slice A' n' c'] w (GivesSS w (occR p q)) := by
  obtain ⟨b, hb⟩ : ∃ b, isP p = b := ⟨_, rfl⟩
  obtain ⟨b', hb'⟩ : ∃ b, isP q = b := ⟨_, rfl⟩
  have H0 := hide (sisperm_any A n c B p b hb w h.reads h.le h.cap)
  cases b with
  | false =>
    have HR := hide (occR_no (p := p) (q := q) (.inl hb))
    rw [unhide HR]
    clear h h' hb hb'
    go_enter Try.func21, Try.ntmps21
    go_wp2_with fail
    refine (unhide H0).mono ?_
    rintro e w1 ⟨rfl, hd⟩
    have hb1 := hd.below w.heap.size
    have hm := IntsS.made0 w1 w.heap.size hb1.size
    clear H0 hd
    go_wp2
    go_ret
    exact GivesSS.mk hm (hb1.alloc hb1.size _)
  | true =>
    have H1 := hide (fun w' (hb'' : Below w.heap.size w w') => sisperm_any A' n' c' B' q b' hb' w' (h'.below hb'').reads h'.le h'.cap)
    cases b' with
    | false =>
      have HR := hide (occR_no (p := p) (q := q) (.inr hb'))
      rw [unhide HR]
      clear h h' hb hb'
      go_enter Try.func21, Try.ntmps21
      go_wp2_with fail
      refine (unhide H0).mono ?_
      rintro e w1 ⟨rfl, hd⟩
      have hb1 := hd.below w.heap.size
      have H2 := hide (unhide H1 w1 hb1)
      clear H0 H1 hd
      go_wp2_with fail
      refine (unhide H2).mono ?_
      rintro e w2 ⟨rfl, hd2⟩
      have hb2 := hb1.trans (hd2.below _)
      have hm := IntsS.made0 w2 w.heap.size hb2.size
      clear H2 hd2 hb1
      go_wp2
      go_ret
      exact GivesSS.mk hm (hb2.alloc hb2.size _)
    | true =>
      have HR := hide (occR_yes hb hb')
      have hsz := occ_size p q hb
      rw [unhide HR] at hsz ⊢
      have H3 := hide (fun (w' : World) (hx : Below w.heap.size w w') => l7find_any q.length A A' n c B n' c' B' w.heap.size p q (some ⟨w'.heap.size, 0, none⟩) 0 0 [] (.slice (some ⟨w'.heap.size + 1, 0, none⟩) 0 0) [] []
        ((w'.alloc (.cells #[] 3)).alloc (.cells #[] 24)) (h.below ((hx.alloc hx.size _).alloc (by have := hx.size; simp; omega) _)) (h'.below ((hx.alloc hx.size _).alloc (by have := hx.size; simp; omega) _)) h.under h'.under (by have := hx.size; simp; omega) hb hb' (by simp) (PlOK.nil _)
        ((Ints.made0 w' w.heap.size hx.size).below ((Below.refl _ _).alloc (Nat.le_refl _) _)) (by have := ownS0 (w'.alloc (.cells #[] 3)) w.heap.size (by have := hx.size; simp; omega); rw [World.size_alloc] at this; exact this) (Inner.nil _ _) (fun x hx => by cases hx) (by simp only [List.length_nil]; omega))
      clear h h' hb hb' hsz
      go_enter Try.func21, Try.ntmps21
      go_wp2_with fail
      refine (unhide H0).mono ?_
      rintro e w1 ⟨rfl, hd⟩
      have hb1 := hd.below w.heap.size
      have H2 := hide (unhide H1 w1 hb1)
      clear H0 H1 hd
      go_wp2_with fail
      refine (unhide H2).mono ?_
      rintro e w2 ⟨rfl, hd2⟩
      have hb2 := hb1.trans (hd2.below _)
      have H4 := hide (unhide H3 w2 hb2)
      clear H2 H3 hd2 hb1
      go_wp2_with fail
      refine (unhide H4).mono ?_
      rintro e w5 ⟨v, us, rfl, o5, i5, _, hb5, _⟩
      have hS : IntsS w5 w.heap.size v (extL p q q.length []) := ⟨us, by simpa using o5, by simpa using i5⟩
      have hb6 := ((hb2.alloc hb2.size (.cells #[] 3)).alloc (by have := hb2.size; simp; omega) (.cells #[] 24)).trans hb5
      clear H4 o5 i5 hb5
      go_wp2
      go_ret
      exact GivesSS.mk hS hb6
/-- How often q occurs in p. -/
def numOcc (p q : List Int) : Int := if isP p && isP q then ((occR p q).length : Int) else -1
set_option maxHeartbeats 800000 in
theorem scnt_any (A A' : Option Addr) (n c B n' c' B' : Nat) (p q : List Int) (w : World) (h : Arg w B A n c p) (h' : Arg w B' A' n' c' q) :
    Calls Try.prog 27 #[.slice A n c, .slice A' n' c'] w fun e w' => e = .returned (.int .i64 (numOcc p q)) ∧ Below w.heap.size w w' := by
  obtain ⟨b, hb⟩ : ∃ b, isP p = b := ⟨_, rfl⟩
  obtain ⟨b', hb'⟩ : ∃ b, isP q = b := ⟨_, rfl⟩
  have H0 := hide (sisperm_any A n c B p b hb w h.reads h.le h.cap)
  have H1 := hide (fun w' (hx : Below w.heap.size w w') => sisperm_any A' n' c' B' q b' hb' w' (h'.below hx).reads h'.le h'.cap)
  cases b with
  | false =>
    have e : numOcc p q = -1 := by unfold numOcc; rw [hb]; rfl
    rw [e]
    clear h h' hb hb' e H1
    go_enter Try.func27, Try.ntmps27
    go_wp2_with fail
    refine (unhide H0).mono ?_
    rintro e w1 ⟨rfl, hd⟩
    have hb1 := hd.below w.heap.size
    clear H0 hd
    go_wp2
    go_ret
    exact ⟨rfl, hb1⟩
  | true =>
    cases b' with
    | false =>
      have e : numOcc p q = -1 := by unfold numOcc; rw [hb, hb']; rfl
      rw [e]
      clear h h' hb hb' e
      go_enter Try.func27, Try.ntmps27
      go_wp2_with fail
      refine (unhide H0).mono ?_
      rintro e w1 ⟨rfl, hd⟩
      have hb1 := hd.below w.heap.size
      have H2 := hide (unhide H1 w1 hb1)
      clear H0 H1 hd
      go_wp2_with fail
      refine (unhide H2).mono ?_
      rintro e w2 ⟨rfl, hd2⟩
      have hb2 := hb1.trans (hd2.below _)
      clear H2 hd2 hb1
      go_wp2
      go_ret
      exact ⟨rfl, hb2⟩
    | true =>
      have e : numOcc p q = ((occR p q).length : Int) := by unfold numOcc; rw [hb, hb']; rfl
      rw [e]
      have H3 := hide (fun w' (hx : Below w.heap.size w w') => soccs_any A A' n c B n' c' B' p q w' (h.below hx) (h'.below hx))
      have hsz := occ_size p q hb
      obtain ⟨R, hR⟩ : ∃ R, occR p q = R := ⟨_, rfl⟩
      rw [hR] at H3 hsz ⊢
      clear h h' hb hb' e hR
      go_enter Try.func27, Try.ntmps27
      go_wp2_with fail
      refine (unhide H0).mono ?_
      rintro e w1 ⟨rfl, hd⟩
      have hb1 := hd.below w.heap.size
      have H2 := hide (unhide H1 w1 hb1)
      clear H0 H1 hd
      go_wp2_with fail
      refine (unhide H2).mono ?_
      rintro e w2 ⟨rfl, hd2⟩
      have hb2 := hb1.trans (hd2.below _)
      have H4 := hide (unhide H3 w2 hb2)
      clear H2 H3 hd2 hb1
      go_wp2_with fail
      refine (unhide H4).mono ?_
      rintro e w3 ⟨A3, c3, rfl, hS, hb3⟩
      have hb4 := below_after hb2 hb3
      clear H4 hS hb3
      go_wp2
      go_ret
      exact ⟨rfl, hb4⟩
def hasR (p q : List Int) : Bool := decide (1 ≤ numOcc p q)
theorem numOcc_rng (p q : List Int) : -1 ≤ numOcc p q ∧ numOcc p q ≤ 256 := by
  unfold numOcc
  by_cases h : (isP p && isP q) = true
  · rw [if_pos h]
    have := occ_size p q (by simp at h; exact h.1)
    omega
  · rw [if_neg h]; omega
set_option maxHeartbeats 800000 in
theorem shas_any (A A' : Option Addr) (n c B n' c' B' : Nat) (p q : List Int) (w : World) (h : Arg w B A n c p) (h' : Arg w B' A' n' c' q) :
    Calls Try.prog 29 #[.slice A n c, .slice A' n' c'] w (GivesB w (hasR p q)) := by
  have H0 := hide (scnt_any A A' n c B n' c' B' p q w h h')
  unfold hasR
  have hr := numOcc_rng p q
  obtain ⟨R, hR⟩ : ∃ R, numOcc p q = R := ⟨_, rfl⟩
  rw [hR] at H0 hr ⊢
  clear h h' hR
  by_cases h1 : 1 ≤ R
  · rw [decide_eq_true h1]
    go_enter Try.func29, Try.ntmps29
    go_wp2_with fail
    refine (unhide H0).mono ?_
    rintro e w1 ⟨rfl, hb1⟩
    clear H0
    go_wp2
    go_ret
    exact ⟨by simp, hb1⟩
  · rw [decide_eq_false h1]
    go_enter Try.func29, Try.ntmps29
    go_wp2_with fail
    refine (unhide H0).mono ?_
    rintro e w1 ⟨rfl, hb1⟩
    clear H0
    go_wp2
    go_ret
    exact ⟨by simp; omega, hb1⟩
end Go.Proofs.Ytichenjbkclljaa


/-
  spec.IsOccurrence, by its contract.
-/

namespace Go.Proofs.Ytichenjbkclljaa
set_option maxRecDepth 100000
open Go.RowKit

theorem add_zero' (a : Addr) : a.add 0 = a := by unfold Addr.add; split <;> simp_all
theorem isOcc_no {p q pl : List Int} (h : ¬ PlOK p.length pl) : isOcc p q pl = false := by
  cases hc : isOcc p q pl with
  | false => rfl
  | true => exact absurd (isOcc_iff.1 hc).2.2.2.1 h
theorem PlOK.step {n k : Nat} {pl : List Int} (hk : k < pl.length) : PlOK n (pl.take (k + 1)) ↔ PlOK n (pl.take k) ∧ (lastP (pl.take k) : Int) < at0 pl k ∧ at0 pl k ≤ (n : Int) := by
  rw [take_snoc_i (at0_some hk), PlOK.snoc]
theorem lastP_take {n k : Nat} {pl : List Int} (h : PlOK n (pl.take (k + 1))) (hk : k < pl.length) : (lastP (pl.take (k + 1)) : Int) = at0 pl k := by
  have hl : (pl.take (k + 1)).length = k + 1 := by rw [List.length_take]; omega
  have hr := h.rng (i := k) (by omega)
  rw [lastP_at (by omega), hl, Nat.add_sub_cancel, at0_take (by omega) hk] at *
  omega

set_option maxHeartbeats 1600000 in
theorem sisocc_any (A A' A2 : Option Addr) (n c B n' c' B' n2 c2 B2 : Nat) (p q pl : List Int) (w : World) (h : Arg w B A n c p) (h' : Arg w B' A' n' c' q) (h2 : Arg w B2 A2 n2 c2 pl) :
    Calls Try.prog 23 #[.slice A n c, .slice A' n' c', .slice A2 n2 c2] w (GivesB w (isOcc p q pl)) := by
  obtain ⟨b, hb⟩ : ∃ b, isP p = b := ⟨_, rfl⟩
  obtain ⟨b', hb'⟩ : ∃ b, isP q = b := ⟨_, rfl⟩
  obtain ⟨r, hr⟩ : ∃ r, isOcc p q pl = r := ⟨_, rfl⟩
  rw [hr]
  have HRR := hide hr
  have H0 := hide (sisperm_any A n c B p b hb w h.reads h.le h.cap)
  have H1 := hide (fun w' (hx : Below w.heap.size w w') => sisperm_any A' n' c' B' q b' hb' w' (h'.below hx).reads h'.le h'.cap)
  have hl := h.len
  have hl' := h'.len
  have hl2 := h2.len
  clear hr
  cases b with
  | false =>
    obtain rfl : r = false := (unhide HRR).symm.trans (by unfold isOcc; rw [hb]; rfl)
    clear h h' h2 hb hb' H1 HRR hl hl' hl2
    go_enter Try.func23, Try.ntmps23
    go_wp2_with fail
    refine (unhide H0).mono ?_
    rintro e w1 ⟨rfl, hd⟩
    have hb1 := hd.below w.heap.size
    clear H0 hd
    go_wp2
    go_ret
    exact ⟨rfl, hb1⟩
  | true =>
    cases b' with
    | false =>
      obtain rfl : r = false := (unhide HRR).symm.trans (by unfold isOcc; rw [hb, hb']; rfl)
      clear h h' h2 hb hb' HRR hl hl' hl2
      go_enter Try.func23, Try.ntmps23
      go_wp2_with fail
      refine (unhide H0).mono ?_
      rintro e w1 ⟨rfl, hd⟩
      have H2 := hide (unhide H1 w1 (hd.below _))
      clear H0 H1
      go_wp2_with fail
      refine (unhide H2).mono ?_
      rintro e w2 ⟨rfl, hd2⟩
      have hb2 := (hd.below w.heap.size).trans (hd2.below _)
      clear H2 hd2 hd
      go_wp2
      go_ret
      exact ⟨rfl, hb2⟩
    | true =>
      by_cases hne : n2 = n'
      rotate_left
      · obtain rfl : r = false := (unhide HRR).symm.trans (by
          cases hc : isOcc p q pl with
          | false => rfl
          | true => have := (isOcc_iff.1 hc).2.2.1; omega)
        have hne2 : ¬ (n2 : Int) = (n' : Int) := by omega
        clear h h' h2 hb hb' HRR hl hl' hl2
        go_enter Try.func23, Try.ntmps23
        go_wp2_with fail
        refine (unhide H0).mono ?_
        rintro e w1 ⟨rfl, hd⟩
        have H2 := hide (unhide H1 w1 (hd.below _))
        clear H0 H1
        go_wp2_with fail
        refine (unhide H2).mono ?_
        rintro e w2 ⟨rfl, hd2⟩
        have hb2 := (hd.below w.heap.size).trans (hd2.below _)
        clear H2 hd2 hd
        go_wp2
        go_ret
        exact ⟨rfl, hb2⟩
      · subst hne
        have h8 := isP_le hb
        have hq8 := isP_le hb'
        have hn8 : n2 ≤ 8 := by omega
        have HE := hide (fun (hP : PlOK p.length pl) => show isOcc p q pl = decide (patL (nums p pl) = q) from by
          unfold isOcc
          rw [hb, hb', decide_eq_true hP, decide_eq_true (by omega : pl.length = q.length)]; rfl)
        have HNO := hide (fun (k : Nat) (hn : ¬ PlOK p.length (pl.take k)) => isOcc_no (p := p) (q := q) (pl := pl) (fun hP => hn (hP.take k)))
        have hpn : p.length = n := hl
        have HL2 := hide hl2
        have HPN := hide hpn
        clear hb hb' hl hl' hpn
        go_enter Try.func23, Try.ntmps23
        go_wp2_with fail
        refine (unhide H0).mono ?_
        rintro e w1 ⟨rfl, hd⟩
        have H2 := hide (unhide H1 w1 (hd.below _))
        clear H0 H1
        go_wp2_with fail
        refine (unhide H2).mono ?_
        rintro e w2 ⟨rfl, hd2⟩
        have hd3 := hd.trans hd2
        clear H2 hd2 hd
        go_wp2
        go_loopw [7] (fun i wr => ∃ k : Nat, k ≤ n2 ∧ i = .int .i64 k ∧ Drew w wr ∧ Hid (PlOK p.length (pl.take k))) (fun i _ => n2 - (intOf i).toNat)
        case atStart => exact ⟨0, Nat.zero_le _, rfl, hd3, PlOK.nil _⟩
        case round =>
          obtain ⟨k, hk, rfl, hd, hP⟩ := hrel
          clear hd3
          by_cases hlt : k < n2
          · obtain ⟨ad, rfl, _, _, hc⟩ := (h2.below (hd.below _)).at_ hlt
            have hs := PlOK.step (n := p.length) (show k < pl.length by rw [unhide HL2]; exact hlt)
            rw [unhide HPN] at hs
            obtain ⟨x, hx⟩ : ∃ x, at0 pl k = x := ⟨_, rfl⟩
            rw [hx] at hc hs
            have HX := hide hx
            have HS := hide hs
            have HD := hide hd
            obtain ⟨b1, hb1⟩ : ∃ b1, decide ((1 : Int) ≤ x ∧ x ≤ (n : Int)) = b1 := ⟨_, rfl⟩
            have HB1 := hide hb1
            cases b1 with
            | false =>
              obtain rfl : r = false := (unhide HRR).symm.trans (unhide HNO (k + 1) (by
                rw [unhide HPN, unhide HS]
                rintro ⟨_, h3, h4⟩
                have := of_decide_eq_false (unhide HB1)
                omega))
              clear HRR hs hx hb1 hP hd
              cases k with
              | zero =>
                rw [add_zero'] at hc
                go_wp2
                go_quiet ((go_at_call 63; exact Calls.quiet_of_same (l1in_any _ _ _ _ (unhide HB1) _)))
                go_wp2
                go_ret
                exact ⟨rfl, ((unhide HD).more _).below _⟩
              | succ k =>
                have hbd0 : (0 : Int) ≤ (k : Int) + 1 := by omega
                have hbd1 : (k : Int) + 1 < (n2 : Int) := by omega
                rw [show ad.add (k + 1) = ⟨ad.block, ad.off + (k + 1), none⟩ by unfold Addr.add; rw [if_neg (by omega)]] at hc
                go_wp2
                go_quiet ((go_at_call 63; exact Calls.quiet_of_same (l1in_any _ _ _ _ (unhide HB1) _)))
                go_wp2
                go_ret
                exact ⟨rfl, ((unhide HD).more _).below _⟩
            | true =>
              cases k with
              | zero =>
                rw [add_zero'] at hc
                have hnext : Hid (PlOK p.length (pl.take 1)) := hide (by
                  rw [unhide HPN]
                  refine (unhide HS).2 ⟨PlOK.nil _, ?_, ?_⟩
                  · have := of_decide_eq_true (unhide HB1); rw [List.take_zero, lastP_nil]; omega
                  · have := of_decide_eq_true (unhide HB1); omega)
                clear hs hx hb1 hP hd
                go_wp2
                go_quiet ((go_at_call 63; exact Calls.quiet_of_same (l1in_any _ _ _ _ (unhide HB1) _)))
                go_wp2
                go_roundw
                case rel => exact ⟨1, by omega, by go_num, (unhide HD).more _, hnext⟩
                case measure => simp [intOf]; omega
              | succ k =>
                obtain ⟨_, he, _, _, hc2⟩ := (h2.below (hd.below _)).at_ (show k < n2 by omega)
                obtain rfl := Option.some.inj he
                have hbd0 : (0 : Int) ≤ (k : Int) + 1 := by omega
                have hbd1 : (k : Int) + 1 < (n2 : Int) := by omega
                rw [show ad.add (k + 1) = ⟨ad.block, ad.off + (k + 1), none⟩ by unfold Addr.add; rw [if_neg (by omega)]] at hc
                have hlp := lastP_take (k := k) (unhide hP) (by rw [unhide HL2]; omega)
                obtain ⟨y, hy⟩ : ∃ y, at0 pl k = y := ⟨_, rfl⟩
                rw [hy] at hc2 hlp
                have HLP := hide hlp
                have hki : ((k + 1 : Nat) : Int) - 1 = (k : Int) := by omega
                have d0 : decide ((0 : Int) < (k : Int) + 1) = true := decide_eq_true (by omega)
                have w1 : IntKind.i64.wrap (k : Int) = k := by rw [IntKind.wrap_i64]; omega
                by_cases hxy : x ≤ y
                · have d1 : decide (x ≤ y) = true := decide_eq_true hxy
                  obtain rfl : r = false := (unhide HRR).symm.trans (unhide HNO (k + 1 + 1) (by
                    rw [unhide HPN, unhide HS]
                    rintro ⟨_, h3, h4⟩
                    rw [unhide HLP] at h3
                    omega))
                  clear HRR hs hx hb1 hP hd he hlp hy
                  go_wp2
                  go_quiet ((go_at_call 63; exact Calls.quiet_of_same (l1in_any _ _ _ _ (unhide HB1) _)))
                  go_wp2
                  go_ret
                  exact ⟨rfl, ((unhide HD).more _).below _⟩
                · have d1 : decide (x ≤ y) = false := decide_eq_false hxy
                  have hnext : Hid (PlOK p.length (pl.take (k + 1 + 1))) := hide (by
                    rw [unhide HPN]
                    refine (unhide HS).2 ⟨by have := unhide hP; rwa [unhide HPN] at this, ?_, ?_⟩
                    · rw [unhide HLP]; omega
                    · have := of_decide_eq_true (unhide HB1); omega)
                  clear hs hx hb1 hP hd he hlp hy
                  go_wp2
                  go_quiet ((go_at_call 63; exact Calls.quiet_of_same (l1in_any _ _ _ _ (unhide HB1) _)))
                  go_wp2
                  go_roundw
                  case rel => exact ⟨k + 1 + 1, by omega, by go_num, (unhide HD).more _, hnext⟩
                  case measure => simp [intOf]; omega
          · obtain rfl : n2 = k := by omega
            have hPP : PlOK p.length pl := by
              have := unhide hP
              rwa [List.take_of_length_le (by rw [unhide HL2]; exact Nat.le_refl _)] at this
            obtain rfl : decide (patL (nums p pl) = q) = r := (unhide HE hPP).symm.trans (unhide HRR)
            have hdb := hd.below w.heap.size
            have T1 := hide (l7at_any A A2 n c B n2 c2 B2 p pl wr (h.below hdb) (h2.below hdb) hPP.1)
            have hnl : (nums p pl).length = n2 := by rw [nums_length, unhide HL2]
            have hsm : Small (nums p pl) := fun z hz => by
              obtain ⟨x, _, rfl⟩ := List.mem_map.1 hz
              unfold at0
              rw [List.getD_eq_getElem?_getD]
              cases ho : p[x.toNat - 1]? with
              | none => simp
              | some y => exact h.small y (List.mem_of_getElem? ho)
            have HP1 := hide (patL_length (nums p pl))
            have hps : Small (patL (nums p pl)) := fun z hz => by have := patL_range z hz; rw [hnl] at this; omega
            obtain ⟨N, hN⟩ : ∃ N, nums p pl = N := ⟨_, rfl⟩
            rw [hN] at T1 hnl hsm hps HP1 ⊢
            have HQ := hide (h'.below hdb)
            have HNL := hide hnl
            have HN := hide hN
            clear HE HNO HRR hP hPP hd h h' h2 hN hnl
            go_wp2_with fail
            refine (unhide T1).mono ?_
            rintro e w3 ⟨A3, c3, rfl, o3, hb3⟩
            have T2 := hide (l2pat_any A3 N.length c3 _ N w3 (o3.arg (by rw [unhide HNL]; omega) o3.cap hsm) (by rw [unhide HNL]; omega))
            have hb4 := below_after hdb hb3
            have hq3 := (unhide HQ).below hb3
            clear T1 o3 hb3 HQ
            go_wp2_with fail
            refine (unhide T2).mono ?_
            rintro e w4 ⟨A4, c4, rfl, o4, hb5⟩
            obtain ⟨r, hr⟩ : ∃ r, decide (patL N = q) = r := ⟨_, rfl⟩
            have T3 := hide (l2same_any A4 A' (patL N).length c4 _ n2 c' B' (patL N) q r hr w4 (o4.arg (by rw [unhide HP1, unhide HNL]; omega) o4.cap hps) (hq3.below hb5))
            have hb6 := below_after hb4 hb5
            have HRZ := hide hr
            clear T2 o4 hb5 hq3 hr
            go_wp2_with fail
            refine (unhide T3).mono ?_
            rintro e w5 ⟨rfl, hd5⟩
            have hb7 := hb6.trans ((hd5.below w.heap.size))
            clear T3 hd5
            go_wp2
            go_ret
            exact ⟨by rw [unhide HN, unhide HRZ]; rfl, hb7⟩
end Go.Proofs.Ytichenjbkclljaa


/-
  A RANGE OVER A FUNCTION WHOSE ITERATOR TELLS THE ROUND WHAT THE HANDED VALUE POINTS TO.
-/

namespace Go.Proofs.Ytichenjbkclljaa
set_option maxRecDepth 100000
open Go.RowKit

variable {F : Fence} {n : Nat} {P : Program}
/-- The iterator hands x over in a world V that it has come to from U, where the last round ended: 'Kn U x V' holds; of a round that goes on it asks Kp. -/
def Tells {α : Type} (F : Fence) (n : Nat) (P : Program) (gf : Nat) (lb : Array Value) (en : α → Array Value) (Kn : World → α → World → Prop) (Kp : World → World → Prop) (S Sp : List α → Prop) (N : Nat) (w : World) : Prop :=
  ∀ (l : Nat) (J Jx : List α → World → Prop) (W : World), Below w.heap.size w W → AbidesFrom W.heap.size J → AbidesFrom W.heap.size Jx →
    (∀ pre x U V, J pre U → Below U.heap.size U V → Kn U x V → pre.length < N → YieldAt F (n - 1) P l (en x) V fun e V' => (e = .returned (.bool true) ∧ J (pre ++ [x]) V' ∧ Kp V V') ∨ (e = .returned (.bool false) ∧ Jx (pre ++ [x]) V')) →
    J [] W → CallsIn F n P gf (#[.func (.yield l) #[] #[]] ++ lb) W fun e V => (∃ v, e = .returned v) ∧ ((∃ xs, S xs ∧ J xs V) ∨ ∃ pre, Sp pre ∧ Jx pre V)

/-- The two blocks of the loop's own book-keeping, from block D on. -/
structure Desk (D : Nat) (r : Loop) (W : World) : Prop where
  rec_ : W.heap[D + 1]? = some (.loop r)
  marks : W.heap[D]? = some (.deferred (some []))
theorem Desk.lt {D : Nat} {r : Loop} {W : World} (h : Desk D r W) : D + 1 < W.heap.size := (Array.getElem?_eq_some_iff.1 h.rec_).1
theorem Desk.walked {D : Nat} {r : Loop} {W W' : World} {row : Option Nat} (h : Desk D r W) (hg : W.grownBy W' row) (hr : ∀ k, row = some k → ∃ o : Obj, W.heap[k]? = some o ∧ o.isWalk = true) : Desk D r W' :=
  ⟨(grownBy_keeps hg hr h.rec_ rfl).trans h.rec_, (grownBy_keeps hg hr h.marks rfl).trans h.marks⟩
theorem Desk.kept {D : Nat} {r : Loop} {W W' : World} (h : Desk D r W) (hk : KeepsFrom D W W') : Desk D r W' := ⟨hk.same _ _ (by omega) h.rec_ rfl, hk.same _ _ (Nat.le_refl _) h.marks rfl⟩
theorem Desk.later {D : Nat} {r : Loop} {W W' : World} (h : Desk D r W) (hb : Below W.heap.size W W') : Desk D r W' := ⟨(hb.block _ h.lt).trans h.rec_, (hb.block _ (by have := h.lt; omega)).trans h.marks⟩
/-- The same object put into both worlds. -/
theorem below_both {U V : World} {l : Nat} (h : Below U.heap.size U V) (hl : l < U.heap.size) (o : Obj) : Below (U.putObj l o).heap.size (U.putObj l o) (V.putObj l o) := by
  have hsU := (grownBy_putObj' U l o).size
  have hsz : (U.putObj l o).heap.size = U.heap.size := by unfold World.putObj; simp
  have hsz' : (V.putObj l o).heap.size = V.heap.size := by unfold World.putObj; simp
  refine ⟨h.os, h.tape, h.output, by rw [hsz, hsz']; exact h.size, fun i hi => ?_⟩
  rw [hsz] at hi
  by_cases e : i = l
  · subst e
    rw [World.putObj_heap_same hl, World.putObj_heap_same (Nat.lt_of_lt_of_le hl h.size)]
  · rw [World.putObj_heap_other e, World.putObj_heap_other e]
    exact h.block i hi
theorem Desk.turn {D : Nat} {r : Loop} {W : World} (h : Desk D r W) (r' : Loop) : Desk D r' (W.putObj (D + 1) (.loop r')) := ⟨World.putObj_heap_same h.lt, (World.putObj_heap_other (by omega)).trans h.marks⟩
theorem Desk.new (w : World) (r : Loop) : Desk w.heap.size r ((w.alloc (.deferred (some []))).alloc (.loop r)) := by
  refine ⟨?_, (Below.heap_alloc _ _ _ (by simp)).trans (World.alloc_heap_new w _)⟩
  have := World.alloc_heap_new (w.alloc (.deferred (some []))) (.loop r)
  rwa [World.size_alloc] at this
/-- What speaks of cells abides the turn of the record. -/
theorem own_turn {β : Type} {D : Nat} {I : β → World → Prop} (hI : OwnFrom D I) {s : β} {r r' : Loop} {W : World} (h : I s W) (hd : Desk D r W) : I s (W.putObj (D + 1) (.loop r')) := hI.putObj _ h (by omega) hd.rec_ rfl
theorem walks_own {β : Type} {D B : Nat} {I : β → World → Prop} (hI : OwnFrom D I) (hB : D ≤ B) {s : β} {W W' : World} {row : Option Nat} (h : I s W) (hg : W.grownBy W' row) (hr : ∀ k, row = some k → B ≤ k ∧ ∃ o : Obj, W.heap[k]? = some o ∧ o.isWalk = true) : I s W' :=
  hI s W W' row h hg fun k e => by
    obtain ⟨h1, o, h2, h3⟩ := hr k e
    exact ⟨by omega, o, h2, Obj.not_cells_of_walk h3⟩

set_option maxHeartbeats 1600000 in
theorem range_tells {α : Type} {g : Operand} {ps : Array Tmp} {assign body : Code} {Q : Exit → Act → World → Prop} {a : Act} {w : World}
    (hro : F.round = none) (h1 : 1 ≤ n) {gf : Nat} {lb : Array Value} (hg : a.eval g = .func (.func gf) #[] lb) (hFg : F.fn gf) (eg : ∀ args w, (callFunc gf args).run P w = .ok (.enter gf args) w)
    {en : α → Array Value} {Kn : World → α → World → Prop} {Kp : World → World → Prop} {S Sp : List α → Prop} {N : Nat} {w0 : World} (hseq : Tells F (n - 1) P gf lb en Kn Kp S Sp N w0) (hb0 : Below w0.heap.size w0 w)
    (hKt : ∀ {A B C : World}, Kp A B → Kp B C → Kp A C) (hKb : ∀ (W : World) (r r' : Loop), Desk w.heap.size r W → Kp W (W.putObj (w.heap.size + 1) (.loop r')))
    (hps : ∀ x, (en x).size = ps.size) (hKn : ∀ (U V : World) (x : α) (r r' : Loop), Desk w.heap.size r U → Desk w.heap.size r V → Kn U x V → Kn (U.putObj (w.heap.size + 1) (.loop r')) x (V.putObj (w.heap.size + 1) (.loop r')))
    (I : List α → World → Prop) (Ix : Code → List α → World → Prop) (hI : OwnFrom w.heap.size I) (hIx : ∀ c, OwnFrom w.heap.size (Ix c)) (h0 : I [] w) (a₁ : α → Act)
    (hassign : ∀ (l : Nat) (x : α) (W : World) (K : Act → World → Prop), K (a₁ x) W →
      assign.wpIn (F.inRound l) (n - 1 - 1) P (Exit.then K (fun _ _ _ => False)) { tmps := (ps.zip (en x)).foldl (fun t (p, v) => t.setIfInBounds p v) a.tmps, defers := [] } W)
    (hbody : ∀ (l : Nat) (pre : List α) (x : α) (U W : World), I pre U → Below U.heap.size U W → Kn U x W → pre.length < N → w.heap.size + 2 ≤ U.heap.size → body.wpIn (F.inRound l) (n - 1 - 1) P (ownPostG w.heap.size Kp I Ix (pre ++ [x]) W) (a₁ x) W)
    (hdone : ∀ (xs : List α) (W : World), S xs → I xs W → W.heap[w.heap.size]? = some (.deferred (some [])) → Q .normal { a with defers := { target := .collected w.heap.size, args := #[] } :: a.defers } W)
    (hstop : ∀ (c : Code) (pre : List α) (W : World), Sp pre → Ix c pre W → W.heap[w.heap.size]? = some (.deferred (some [])) → c.wpIn F n P Q { a with defers := { target := .collected w.heap.size, args := #[] } :: a.defers } W) :
    (Code.rangeFunc g ps assign body).wpIn F n P Q a w := by
  refine wpIn_rangeFunc fun fn hfn => ?_
  rw [hro]
  obtain ⟨R, hR⟩ : ∃ R : LoopState → Option Code → Loop, R = fun st pe => { state := st, pending := pe, fn, tmps := a.tmps, params := ps, assign, body, defers := w.heap.size } := ⟨_, rfl⟩
  have hd0 := Desk.new w (R .ready none)
  have hI0 : I [] ((w.alloc (.deferred (some []))).alloc (.loop (R .ready none))) := hI.alloc _ (hI.alloc _ h0)
  have hbel : Below w0.heap.size w0 ((w.alloc (.deferred (some []))).alloc (.loop (R .ready none))) := hb0.trans ((((Below.refl _ w).alloc (Nat.le_refl _) _).alloc (by simp) _).mono hb0.size)
  have hrun0 : (Instr.enterLoop fn a.tmps ps assign body none).run P w = .ok (w.heap.size + 1, [{ target := .collected w.heap.size, args := #[] }]) ((w.alloc (.deferred (some []))).alloc (.loop (R .ready none))) := by rw [hR]; exact run_enterLoop_outer _ _ _ _ _
  have hsz1 : w.heap.size ≤ ((w.alloc (.deferred (some []))).alloc (.loop (R .ready none))).heap.size := by simp; omega
  obtain ⟨W1, hW1⟩ : ∃ W1, W1 = (w.alloc (.deferred (some []))).alloc (.loop (R .ready none)) := ⟨_, rfl⟩
  rw [← hW1] at hd0 hI0 hbel hrun0 hsz1
  clear hW1
  refine ⟨w.heap.size + 1, [{ target := .collected w.heap.size, args := #[] }], W1, { target := .fn (.func gf) lb, args := #[.func (.yield (w.heap.size + 1)) #[] #[]] }, W1, gf,
    #[.func (.yield (w.heap.size + 1)) #[] #[]] ++ lb, W1, hrun0, ?_, ?_, ?_, fun _ => h1, ?_⟩
  · simp only [resolve, hg]
    simp [go_sem]
  · intro f' hf'
    simp [Target.leads] at hf'
    subst hf'
    exact hFg
  · simp [invoke, go_sem, eg]
  · refine (hseq (w.heap.size + 1) (fun pre W => I pre W ∧ Desk w.heap.size (R .ready none) W) (fun pre W => ∃ c, Ix c pre W ∧ Desk w.heap.size (R .done (some c)) W) W1 hbel
      (fun s X Y row hs hgr hr => ⟨walks_own hI hsz1 hs.1 hgr hr, hs.2.walked hgr fun k e => (hr k e).2⟩)
      (fun s X Y row hs hgr hr => by obtain ⟨c, hc, hd⟩ := hs; exact ⟨c, walks_own (hIx c) hsz1 hc hgr hr, hd.walked hgr fun k e => (hr k e).2⟩)
      ?_ ⟨hI0, hd0⟩).mono ?_
    · rintro pre x U V ⟨hi, hdU⟩ hbU hkn hlen
      have hd := hdU.later hbU
      have hy := run_yield (P := P) (args := en x) hd.rec_ (by rw [hR]; exact hps x)
      rw [hR] at hy
      refine ⟨fn, _, assign, body, hy, roundIn_of_wpIn hfn (hassign _ x V _ ⟨_, run_beginRound hd.rec_ (by rw [hR]), ?_⟩)⟩
      obtain ⟨r1, hr1⟩ : ∃ r1 : Loop, r1 = { R .ready none with state := .busy } := ⟨_, rfl⟩
      rw [← hr1]
      have hd1 := hd.turn r1
      have hk1 := hKb V _ r1 hd
      have hlt := (hdU.turn r1).lt
      refine wpIn_mono (hbody _ pre x _ _ (own_turn hI hi hdU) (below_both hbU hdU.lt _) (hKn _ _ _ _ r1 hdU hd hkn) hlen (by omega)) ?_
      -- the end of a round
      have fin : ∀ (c : Option Code) (V' : World), KeepsFrom w.heap.size (V.putObj (w.heap.size + 1) (.loop r1)) V' → Desk w.heap.size r1 V' ∧
          (Instr.endRound (w.heap.size + 1) c).run P V' = .ok (.bool c.isNone) (V'.putObj (w.heap.size + 1) (.loop (R (if c.isNone then .ready else .done) c))) := fun c V' hk => by
        have hd2 := hd1.kept hk
        refine ⟨hd2, ?_⟩
        have := run_endRound (P := P) c hd2.rec_
        rw [hr1] at this
        rw [this, hR]
      rintro e a3 V3 hp
      cases e with
      | normal =>
        obtain ⟨hd3, hrun⟩ := fin none V3 hp.1
        exact ⟨_, _, hrun, .inl ⟨rfl, ⟨own_turn hI hp.2.2 hd3, hd3.turn _⟩, hKt (hKt hk1 hp.2.1) (hKb _ _ _ hd3)⟩⟩
      | ret =>
        obtain ⟨hd3, hrun⟩ := fin (some .ret) V3 hp.1
        exact ⟨_, _, hrun, .inr ⟨rfl, .ret, own_turn (hIx _) hp.2 hd3, hd3.turn _⟩⟩
      | exit id =>
        obtain ⟨hd3, hrun⟩ := fin (some (.exit id)) V3 hp.1
        exact ⟨_, _, hrun, .inr ⟨rfl, .exit id, own_turn (hIx _) hp.2 hd3, hd3.turn _⟩⟩
      | goto t =>
        obtain ⟨hd3, hrun⟩ := fin (some (.goto t)) V3 hp.1
        exact ⟨_, _, hrun, .inr ⟨rfl, .goto t, own_turn (hIx _) hp.2 hd3, hd3.turn _⟩⟩
      | panic _ => exact hp.elim
      | outgrown => exact hp.elim
    · rintro e V ⟨⟨v, rfl⟩, hend⟩
      rcases hend with ⟨xs, hS, hi, hd⟩ | ⟨pre, hSp, c, hi, hd⟩
      · have hrun := run_endLoop (P := P) hd.rec_ (by rw [hR]; simp)
        rw [hR] at hrun
        exact ⟨none, _, hrun, hdone xs _ hS (own_turn hI hi hd) (hd.turn _).marks⟩
      · have hrun := run_endLoop (P := P) hd.rec_ (by rw [hR]; simp)
        rw [hR] at hrun
        exact ⟨some c, _, hrun, hstop c pre _ hSp (own_turn (hIx c) hi hd) (hd.turn _).marks⟩

/-! what a round keeps: rows -/
/-- Blocks of cells from block D on that hold no rows of rows lie as they lay. -/
structure RowsFrom (D : Nat) (W W' : World) : Prop where
  size : W.heap.size ≤ W'.heap.size
  same : ∀ (k : Nat) (cur : Array Value) (e : TypeId) (fr : Nat × Nat), D ≤ k → W.heap[k]? = some (.cells cur e fr) → e ≠ 24 → W'.heap[k]? = some (.cells cur e fr)
theorem RowsFrom.refl (D : Nat) (W : World) : RowsFrom D W W := ⟨Nat.le_refl _, fun _ _ _ _ _ h _ => h⟩
theorem RowsFrom.trans {D : Nat} {X Y Z : World} (h : RowsFrom D X Y) (k : RowsFrom D Y Z) : RowsFrom D X Z := ⟨Nat.le_trans h.size k.size, fun i cur e fr hi hk he => k.same i cur e fr hi (h.same i cur e fr hi hk he) he⟩
theorem RowsFrom.of_keepI {D : Nat} {W W' : World} (h : KeepI W W') : RowsFrom D W W' := ⟨h.size, fun k cur e fr _ hk he => (h.block k cur e fr hk he).trans hk⟩
theorem RowsFrom.of_below {D : Nat} {W W' : World} (h : Below W.heap.size W W') : RowsFrom D W W' := .of_keepI (.of_below h)
/-- A step that turns one block alone: it lies below D, or it holds no cells. -/
theorem RowsFrom.of_grownBy {D : Nat} {W W' : World} {row : Option Nat} (hg : W.grownBy W' row) (hr : ∀ k, row = some k → k < D ∨ ∃ o : Obj, W.heap[k]? = some o ∧ o.isCells = false) : RowsFrom D W W' :=
  ⟨hg.size, fun k cur e fr hk hc _ => (hg.block k (Array.getElem?_eq_some_iff.1 hc).1 fun e => by
    rcases hr k e.symm with h | ⟨o, ho, h⟩
    · omega
    · rw [hc] at ho; cases ho; cases h).trans hc⟩
theorem RowsFrom.turn {D B : Nat} {r : Loop} {W : World} (h : Desk B r W) (r' : Loop) : RowsFrom D W (W.putObj (B + 1) (.loop r')) := .of_grownBy (grownBy_putObj' W _ _) fun k e => by cases e; exact .inr ⟨_, h.rec_, rfl⟩
theorem RowsFrom.stored {D b : Nat} (W : World) (hb : b < D) (v : Value) : RowsFrom D W (W.setCell ⟨b, 0, none⟩ v) := .of_grownBy (grownBy_setCell' W b v) fun k e => by cases e; exact .inl hb
theorem Ints.rows {D : Nat} {W W' : World} {v : Value} {zs : List Int} (h : Ints W D v zs) (hk : RowsFrom D W W') : Ints W' D v zs := by
  refine ⟨h.1, ?_⟩
  rcases h.2 with h0 | ⟨g, cap, cur, e, hv, hb, hc, h1, h2, h3⟩
  · exact .inl h0
  · exact .inr ⟨g, cap, cur, e, hv, hb, hk.same g cur e _ hb hc h3, h1, h2, h3⟩
/-- A row speaks of cells alone. -/
theorem ints_own (D B : Nat) : OwnFrom D (fun (x : Value × List Int) W => Ints W B x.1 x.2) := fun x X Y row h hg hr => by
  refine ⟨h.1, ?_⟩
  rcases h.2 with h0 | ⟨g, cap, cur, e, hv, hb, hc, rest⟩
  · exact .inl h0
  · refine .inr ⟨g, cap, cur, e, hv, hb, (hg.block g (Array.getElem?_eq_some_iff.1 hc).1 fun e' => ?_).trans hc, rest⟩
    obtain ⟨_, o, ho, hcl⟩ := hr g e'.symm
    rw [hc] at ho; cases ho; cases hcl
/-- A row that was made since the last round: what range_tells asks of Kn. -/
theorem kn_row (D : Nat) (U V : World) (x : Value × List Int) (r r' : Loop) (_ : Desk D r U) (hd : Desk D r V) (h : Ints V U.heap.size x.1 x.2) : Ints (V.putObj (D + 1) (.loop r')) (U.putObj (D + 1) (.loop r')).heap.size x.1 x.2 := by
  have hsz : (U.putObj (D + 1) (.loop r')).heap.size = U.heap.size := by unfold World.putObj; simp
  rw [hsz]
  exact own_turn (ints_own D U.heap.size) (s := x) h hd
theorem intsS_own (D B : Nat) {β : Type} (v : Value) (f : β → List (List Int)) : OwnFrom D (fun (s : β) W => IntsS W B v (f s)) := fun s X Y row h hg hr => by
  obtain ⟨vs, h1, h2⟩ := h
  have hne : ∀ (u : Value) (zs : List Int), Ints X B u zs → Ints Y B u zs := fun u zs hu => ints_own D B (u, zs) X Y row hu hg hr
  refine ⟨vs, ?_, ⟨h2.len, fun i u zs hu hz => hne u zs (h2.row i u zs hu hz), h2.away⟩⟩
  refine h1.kept hg ?_
  rcases h1.2 with hn | ⟨g, cap, cur, hv, hb, hc, rest⟩
  · rw [hn.1]; exact .inl rfl
  · rw [hv]
    refine .inr fun e => ?_
    obtain ⟨_, o, ho, hcl⟩ := hr g e.symm
    rw [hc] at ho; cases ho; cases hcl
end Go.Proofs.Ytichenjbkclljaa


/-
  A RANGE OVER A FUNCTION WHOSE ITERATOR HAS BLOCKS OF ITS OWN (a list that is lent, an inner loop's desk): they lie in a zone right behind the loop's desk, and what the loop's body holds lies outside of it.
-/

namespace Go.Proofs.Ytichenjbkclljaa
set_option maxRecDepth 100000
open Go.RowKit

/-- What lies outside of [lo, hi) lies as it lay. -/
structure But (lo hi : Nat) (U V : World) : Prop where
  os : V.os = U.os
  tape : V.tape = U.tape
  output : V.output = U.output
  size : U.heap.size ≤ V.heap.size
  block : ∀ k, k < U.heap.size → k < lo ∨ hi ≤ k → V.heap[k]? = U.heap[k]?
theorem But.refl (lo hi : Nat) (U : World) : But lo hi U U := ⟨rfl, rfl, rfl, Nat.le_refl _, fun _ _ _ => rfl⟩
theorem But.trans {lo hi : Nat} {U V W : World} (h : But lo hi U V) (k : But lo hi V W) : But lo hi U W :=
  ⟨k.os.trans h.os, k.tape.trans h.tape, k.output.trans h.output, Nat.le_trans h.size k.size, fun i hi hz => (k.block i (Nat.lt_of_lt_of_le hi h.size) hz).trans (h.block i hi hz)⟩
theorem But.mono {lo hi lo' hi' : Nat} {U V : World} (h : But lo hi U V) (hl : lo' ≤ lo) (hh : hi ≤ hi') : But lo' hi' U V := ⟨h.os, h.tape, h.output, h.size, fun k hk hz => h.block k hk (by omega)⟩
theorem But.of_below {lo hi : Nat} {U V : World} (h : Below U.heap.size U V) : But lo hi U V := ⟨h.os, h.tape, h.output, h.size, fun k hk _ => h.block k hk⟩
/-- Changes at or behind lo alone, and no block lay behind hi. -/
theorem But.of_below_lo {lo hi : Nat} {U V : World} (h : Below lo U V) (hs : U.heap.size ≤ hi) : But lo hi U V := ⟨h.os, h.tape, h.output, h.size, fun k hk hz => h.block k (by omega)⟩
theorem But.below {lo hi n : Nat} {U V : World} (h : But lo hi U V) (hn : n ≤ lo) (hs : n ≤ U.heap.size) : Below n U V := ⟨h.os, h.tape, h.output, h.size, fun k hk => h.block k (by omega) (by omega)⟩
theorem But.alloc {lo hi : Nat} (U : World) (o : Obj) : But lo hi U (U.alloc o) := .of_below ((Below.refl _ U).alloc (Nat.le_refl _) o)
theorem But.grown {lo hi : Nat} {U V : World} {row : Option Nat} (hg : U.grownBy V row) (hr : ∀ k, row = some k → lo ≤ k ∧ k < hi) : But lo hi U V :=
  ⟨hg.os, hg.tape, hg.output, hg.size, fun k hk hz => hg.block k hk fun e => by have := hr k e.symm; omega⟩
theorem But.putObj {lo hi : Nat} (U : World) {k : Nat} (h1 : lo ≤ k) (h2 : k < hi) (o : Obj) : But lo hi U (U.putObj k o) := .grown (grownBy_putObj' U k o) fun j e => by cases e; exact ⟨h1, h2⟩
theorem But.setCell {lo hi : Nat} (U : World) {b : Nat} (h1 : lo ≤ b) (h2 : b < hi) (v : Value) : But lo hi U (U.setCell ⟨b, 0, none⟩ v) := .grown (grownBy_setCell' U b v) fun j e => by cases e; exact ⟨h1, h2⟩
theorem Desk.but {D lo hi : Nat} {r : Loop} {U V : World} (h : Desk D r U) (hb : But lo hi U V) (hz : D + 2 ≤ lo ∨ hi ≤ D) : Desk D r V :=
  ⟨(hb.block _ h.lt (by omega)).trans h.rec_, (hb.block _ (by have := h.lt; omega) (by omega)).trans h.marks⟩
theorem Boxed.but {W W' : World} {lo hi b : Nat} {t : TypeId} {v : Value} (h : Boxed W b t v) (hb : But lo hi W W') (hz : b < lo ∨ hi ≤ b) : Boxed W' b t v := (hb.block b h.lt hz).trans h
theorem Ints.but {W W' : World} {lo hi B : Nat} {v : Value} {zs : List Int} (h : Ints W B v zs) (hb : But lo hi W W') (hB : hi ≤ B) : Ints W' B v zs := by
  refine ⟨h.1, ?_⟩
  rcases h.2 with h0 | ⟨g, cap, cur, e, hv, hg, hc, rest⟩
  · exact .inl h0
  · exact .inr ⟨g, cap, cur, e, hv, hg, (hb.block g (Array.getElem?_eq_some_iff.1 hc).1 (by omega)).trans hc, rest⟩
theorem IntsS.but {W W' : World} {lo hi B : Nat} {v : Value} {zss : List (List Int)} (h : IntsS W B v zss) (hb : But lo hi W W') (hB : hi ≤ B) : IntsS W' B v zss := by
  obtain ⟨vs, h1, h2⟩ := h
  refine ⟨vs, ⟨h1.1, ?_⟩, ⟨h2.len, fun i u zs hu hz => (h2.row i u zs hu hz).but hb hB, h2.away⟩⟩
  rcases h1.2 with hn | ⟨g, cap, cur, hv, hg, hc, rest⟩
  · exact .inl hn
  · exact .inr ⟨g, cap, cur, hv, hg, (hb.block g (Array.getElem?_eq_some_iff.1 hc).1 (by omega)).trans hc, rest⟩

/-- The blocks of which P speaks lie as they lay. -/
structure Keep (P : Nat → Prop) (U V : World) : Prop where
  size : U.heap.size ≤ V.heap.size
  block : ∀ k, k < U.heap.size → P k → V.heap[k]? = U.heap[k]?
theorem Keep.refl (P : Nat → Prop) (U : World) : Keep P U U := ⟨Nat.le_refl _, fun _ _ _ => rfl⟩
theorem Keep.trans {P : Nat → Prop} {U V W : World} (h : Keep P U V) (k : Keep P V W) : Keep P U W := ⟨Nat.le_trans h.size k.size, fun i hi hp => (k.block i (Nat.lt_of_lt_of_le hi h.size) hp).trans (h.block i hi hp)⟩
theorem Keep.mono {P Q : Nat → Prop} {U V : World} (h : Keep P U V) (hq : ∀ k, Q k → P k) : Keep Q U V := ⟨h.size, fun k hk hp => h.block k hk (hq k hp)⟩
theorem Keep.of_below {P : Nat → Prop} {U V : World} (h : Below U.heap.size U V) : Keep P U V := ⟨h.size, fun k hk _ => h.block k hk⟩
theorem Keep.of_but {P : Nat → Prop} {lo hi : Nat} {U V : World} (h : But lo hi U V) (hp : ∀ k, P k → k < lo ∨ hi ≤ k) : Keep P U V := ⟨h.size, fun k hk h1 => h.block k hk (hp k h1)⟩
theorem Keep.putObj {P : Nat → Prop} (U : World) {b : Nat} (h : ¬ P b) (o : Obj) : Keep P U (U.putObj b o) := .of_but (.putObj U (Nat.le_refl b) (Nat.lt_succ_self b) o) fun k hk => by
  by_cases e : k = b
  · subst e; exact absurd hk h
  · omega
theorem Keep.setCell {P : Nat → Prop} (U : World) {b : Nat} (h : ¬ P b) (v : Value) : Keep P U (U.setCell ⟨b, 0, none⟩ v) := .of_but (.setCell U (Nat.le_refl b) (Nat.lt_succ_self b) v) fun k hk => by
  by_cases e : k = b
  · subst e; exact absurd hk h
  · omega
theorem Keep.desk {P : Nat → Prop} {D : Nat} {r : Loop} {U V : World} (h : Keep P U V) (hd : Desk D r U) (h1 : P D) (h2 : P (D + 1)) : Desk D r V :=
  ⟨(h.block _ hd.lt h2).trans hd.rec_, (h.block _ (by have := hd.lt; omega) h1).trans hd.marks⟩
theorem Keep.boxed {P : Nat → Prop} {b : Nat} {t : TypeId} {v : Value} {U V : World} (h : Keep P U V) (hd : Boxed U b t v) (h1 : P b) : Boxed V b t v := (h.block b hd.lt h1).trans hd

variable {F : Fence} {n : Nat} {P : Program}
/-- The iterator, whose own blocks are the z ones behind the loop's desk, hands x over in a world V that it has come to from U by new blocks alone; 'Kn U x V' holds; of a round that goes on it asks Kp. -/
def TellsZ {α : Type} (F : Fence) (n : Nat) (P : Program) (gf : Nat) (lb : Array Value) (z : Nat) (en : α → Array Value) (Kn : World → α → World → Prop) (Kp : World → World → Prop) (S Sp : List α → Prop) (N : Nat) (w : World) : Prop :=
  ∀ (l : Nat) (J Jx : List α → World → Prop) (W : World), Below w.heap.size w W → W.heap.size = w.heap.size + 2 →
    (∀ pre U V, J pre U → But (w.heap.size + 2) (w.heap.size + 2 + z) U V → J pre V) → (∀ pre U V, Jx pre U → But (w.heap.size + 2) (w.heap.size + 2 + z) U V → Jx pre V) →
    (∀ pre x U V, J pre U → w.heap.size + 2 + z ≤ U.heap.size → Below U.heap.size U V → Kn U x V → pre.length < N → YieldAt F (n - 1) P l (en x) V fun e V' => (e = .returned (.bool true) ∧ J (pre ++ [x]) V' ∧ Kp V V') ∨ (e = .returned (.bool false) ∧ Jx (pre ++ [x]) V' ∧ Kp V V')) →
    J [] W → CallsIn F n P gf (#[.func (.yield l) #[] #[]] ++ lb) W fun e V => (∃ v, e = .returned v) ∧ ((∃ xs, S xs ∧ J xs V) ∨ ∃ pre, Sp pre ∧ Jx pre V)

/-- The body's word at its ways out. -/
def postZ {α : Type} (D : Nat) (Kp : World → World → Prop) (I : List α → World → Prop) (Ix : Code → List α → World → Prop) (xs : List α) (W : World) : Exit → Act → World → Prop
  | .normal, _, W' => (∀ r, Desk D r W → Desk D r W') ∧ Kp W W' ∧ I xs W'
  | .ret, _, W' => (∀ r, Desk D r W → Desk D r W') ∧ Kp W W' ∧ Ix .ret xs W'
  | .exit id, _, W' => (∀ r, Desk D r W → Desk D r W') ∧ Kp W W' ∧ Ix (.exit id) xs W'
  | .goto t, _, W' => (∀ r, Desk D r W → Desk D r W') ∧ Kp W W' ∧ Ix (.goto t) xs W'
  | .panic _, _, _ => False
  | .outgrown, _, _ => False

set_option maxHeartbeats 1600000 in
theorem range_zone {α : Type} {g : Operand} {ps : Array Tmp} {assign body : Code} {Q : Exit → Act → World → Prop} {a : Act} {w : World}
    (hro : F.round = none) (h1 : 1 ≤ n) {gf : Nat} {lb : Array Value} (hg : a.eval g = .func (.func gf) #[] lb) (hFg : F.fn gf) (eg : ∀ args w, (callFunc gf args).run P w = .ok (.enter gf args) w)
    {z : Nat} {en : α → Array Value} {Kn : World → α → World → Prop} {Kp : World → World → Prop} {S Sp : List α → Prop} {N : Nat} (hseq : TellsZ F (n - 1) P gf lb z en Kn Kp S Sp N w)
    (hKt : ∀ {A B C : World}, Kp A B → Kp B C → Kp A C) (hKb : ∀ (W : World) (r r' : Loop), Desk w.heap.size r W → Kp W (W.putObj (w.heap.size + 1) (.loop r')))
    (hps : ∀ x, (en x).size = ps.size) (hKn : ∀ (U V : World) (x : α) (r r' : Loop), Desk w.heap.size r U → Desk w.heap.size r V → Kn U x V → Kn (U.putObj (w.heap.size + 1) (.loop r')) x (V.putObj (w.heap.size + 1) (.loop r')))
    (I : List α → World → Prop) (Ix : Code → List α → World → Prop) (hI : ∀ pre U V, I pre U → But w.heap.size (w.heap.size + 2 + z) U V → I pre V) (hIx : ∀ c pre U V, Ix c pre U → But w.heap.size (w.heap.size + 2 + z) U V → Ix c pre V) (h0 : I [] w) (a₁ : α → Act)
    (hassign : ∀ (l : Nat) (x : α) (W : World) (K : Act → World → Prop), K (a₁ x) W →
      assign.wpIn (F.inRound l) (n - 1 - 1) P (Exit.then K (fun _ _ _ => False)) { tmps := (ps.zip (en x)).foldl (fun t (p, v) => t.setIfInBounds p v) a.tmps, defers := [] } W)
    (hbody : ∀ (l : Nat) (pre : List α) (x : α) (U W : World), I pre U → w.heap.size + 2 + z ≤ U.heap.size → Below U.heap.size U W → Kn U x W → pre.length < N → body.wpIn (F.inRound l) (n - 1 - 1) P (postZ w.heap.size Kp I Ix (pre ++ [x]) W) (a₁ x) W)
    (hdone : ∀ (xs : List α) (W : World), S xs → I xs W → W.heap[w.heap.size]? = some (.deferred (some [])) → Q .normal { a with defers := { target := .collected w.heap.size, args := #[] } :: a.defers } W)
    (hstop : ∀ (c : Code) (pre : List α) (W : World), Sp pre → Ix c pre W → W.heap[w.heap.size]? = some (.deferred (some [])) → c.wpIn F n P Q { a with defers := { target := .collected w.heap.size, args := #[] } :: a.defers } W) :
    (Code.rangeFunc g ps assign body).wpIn F n P Q a w := by
  refine wpIn_rangeFunc fun fn hfn => ?_
  rw [hro]
  obtain ⟨R, hR⟩ : ∃ R : LoopState → Option Code → Loop, R = fun st pe => { state := st, pending := pe, fn, tmps := a.tmps, params := ps, assign, body, defers := w.heap.size } := ⟨_, rfl⟩
  have hd0 := Desk.new w (R .ready none)
  have hI0 : I [] ((w.alloc (.deferred (some []))).alloc (.loop (R .ready none))) := hI _ _ _ h0 ((But.alloc _ _).trans (But.alloc _ _))
  have hbel : Below w.heap.size w ((w.alloc (.deferred (some []))).alloc (.loop (R .ready none))) := (((Below.refl _ w).alloc (Nat.le_refl _) _).alloc (by simp) _)
  have hrun0 : (Instr.enterLoop fn a.tmps ps assign body none).run P w = .ok (w.heap.size + 1, [{ target := .collected w.heap.size, args := #[] }]) ((w.alloc (.deferred (some []))).alloc (.loop (R .ready none))) := by rw [hR]; exact run_enterLoop_outer _ _ _ _ _
  have hsz1 : ((w.alloc (.deferred (some []))).alloc (.loop (R .ready none))).heap.size = w.heap.size + 2 := by simp
  obtain ⟨W1, hW1⟩ : ∃ W1, W1 = (w.alloc (.deferred (some []))).alloc (.loop (R .ready none)) := ⟨_, rfl⟩
  rw [← hW1] at hd0 hI0 hbel hrun0 hsz1
  clear hW1
  have hturn : ∀ (W : World) (r' : Loop), But w.heap.size (w.heap.size + 2 + z) W (W.putObj (w.heap.size + 1) (.loop r')) := fun W r' => But.putObj W (by omega) (by omega) _
  refine ⟨w.heap.size + 1, [{ target := .collected w.heap.size, args := #[] }], W1, { target := .fn (.func gf) lb, args := #[.func (.yield (w.heap.size + 1)) #[] #[]] }, W1, gf,
    #[.func (.yield (w.heap.size + 1)) #[] #[]] ++ lb, W1, hrun0, ?_, ?_, ?_, fun _ => h1, ?_⟩
  · simp only [resolve, hg]
    simp [go_sem]
  · intro f' hf'
    simp [Target.leads] at hf'
    subst hf'
    exact hFg
  · simp [invoke, go_sem, eg]
  · refine (hseq (w.heap.size + 1) (fun pre W => I pre W ∧ Desk w.heap.size (R .ready none) W) (fun pre W => ∃ c, Ix c pre W ∧ Desk w.heap.size (R .done (some c)) W) W1 hbel hsz1
      (fun pre U V hs hb => ⟨hI _ _ _ hs.1 (hb.mono (by omega) (Nat.le_refl _)), hs.2.but hb (.inl (Nat.le_refl _))⟩)
      (fun pre U V hs hb => by obtain ⟨c, hc, hd⟩ := hs; exact ⟨c, hIx _ _ _ _ hc (hb.mono (by omega) (Nat.le_refl _)), hd.but hb (.inl (Nat.le_refl _))⟩)
      ?_ ⟨hI0, hd0⟩).mono ?_
    · rintro pre x U V ⟨hi, hdU⟩ hzU hbU hkn hlen
      have hd := hdU.later hbU
      have hy := run_yield (P := P) (args := en x) hd.rec_ (by rw [hR]; exact hps x)
      rw [hR] at hy
      refine ⟨fn, _, assign, body, hy, roundIn_of_wpIn hfn (hassign _ x V _ ⟨_, run_beginRound hd.rec_ (by rw [hR]), ?_⟩)⟩
      obtain ⟨r1, hr1⟩ : ∃ r1 : Loop, r1 = { R .ready none with state := .busy } := ⟨_, rfl⟩
      rw [← hr1]
      have hd1 := hd.turn r1
      have hk1 := hKb V _ r1 hd
      have hlt := (hdU.turn r1).lt
      have hszp : (U.putObj (w.heap.size + 1) (.loop r1)).heap.size = U.heap.size := by unfold World.putObj; simp
      refine wpIn_mono (hbody _ pre x _ _ (hI _ _ _ hi (hturn _ _)) (by omega) (below_both hbU hdU.lt _) (hKn _ _ _ _ r1 hdU hd hkn) hlen) ?_
      have fin : ∀ (c : Option Code) (V' : World), (∀ r, Desk w.heap.size r (V.putObj (w.heap.size + 1) (.loop r1)) → Desk w.heap.size r V') → Desk w.heap.size r1 V' ∧
          (Instr.endRound (w.heap.size + 1) c).run P V' = .ok (.bool c.isNone) (V'.putObj (w.heap.size + 1) (.loop (R (if c.isNone then .ready else .done) c))) := fun c V' hk => by
        have hd2 := hk _ hd1
        refine ⟨hd2, ?_⟩
        have := run_endRound (P := P) c hd2.rec_
        rw [hr1] at this
        rw [this, hR]
      rintro e a3 V3 hp
      cases e with
      | normal =>
        obtain ⟨hd3, hrun⟩ := fin none V3 hp.1
        exact ⟨_, _, hrun, .inl ⟨rfl, ⟨hI _ _ _ hp.2.2 (hturn _ _), hd3.turn _⟩, hKt (hKt hk1 hp.2.1) (hKb _ _ _ hd3)⟩⟩
      | ret =>
        obtain ⟨hd3, hrun⟩ := fin (some .ret) V3 hp.1
        exact ⟨_, _, hrun, .inr ⟨rfl, ⟨.ret, hIx _ _ _ _ hp.2.2 (hturn _ _), hd3.turn _⟩, hKt (hKt hk1 hp.2.1) (hKb _ _ _ hd3)⟩⟩
      | exit id =>
        obtain ⟨hd3, hrun⟩ := fin (some (.exit id)) V3 hp.1
        exact ⟨_, _, hrun, .inr ⟨rfl, ⟨.exit id, hIx _ _ _ _ hp.2.2 (hturn _ _), hd3.turn _⟩, hKt (hKt hk1 hp.2.1) (hKb _ _ _ hd3)⟩⟩
      | goto t =>
        obtain ⟨hd3, hrun⟩ := fin (some (.goto t)) V3 hp.1
        exact ⟨_, _, hrun, .inr ⟨rfl, ⟨.goto t, hIx _ _ _ _ hp.2.2 (hturn _ _), hd3.turn _⟩, hKt (hKt hk1 hp.2.1) (hKb _ _ _ hd3)⟩⟩
      | panic _ => exact hp.elim
      | outgrown => exact hp.elim
    · rintro e V ⟨⟨v, rfl⟩, hend⟩
      rcases hend with ⟨xs, hS, hi, hd⟩ | ⟨pre, hSp, c, hi, hd⟩
      · have hrun := run_endLoop (P := P) hd.rec_ (by rw [hR]; simp)
        rw [hR] at hrun
        exact ⟨none, _, hrun, hdone xs _ hS (hI _ _ _ hi (hturn _ _)) (hd.turn _).marks⟩
      · have hrun := run_endLoop (P := P) hd.rec_ (by rw [hR]; simp)
        rw [hR] at hrun
        exact ⟨some c, _, hrun, hstop c pre _ hSp (hIx _ _ _ _ hi (hturn _ _)) (hd.turn _).marks⟩
end Go.Proofs.Ytichenjbkclljaa


/-
  A region that draws its order, in a round of a range over a function; a call of yield at any depth of the wide fence.
-/

namespace Go.Proofs.Ytichenjbkclljaa
set_option maxRecDepth 100000
open Go.RowKit Go.Shelf

/-- No operation defers. -/
def plainOps (ops : Array Oper) : Bool := ops.toList.all fun o => match o.op with | .defer _ => false | _ => true
theorem plainOps_at {ops : Array Oper} (h : plainOps ops = true) {i : Nat} {o : Oper} (ho : ops[i]? = some o) : ∀ c, o.op ≠ .defer c := by
  unfold plainOps at h
  rw [List.all_eq_true] at h
  intro c e
  have h1 := h o (List.mem_of_getElem? (by rw [Array.getElem?_toList]; exact ho))
  rw [e] at h1
  cases h1
theorem operIn_round {F : Fence} {n : Nat} {P : Program} {o : Oper} (l : Nat) (hr : F.round = none) (hd : ∀ c, o.op ≠ .defer c) {a : Act} {w : World} {K : Act → World → Prop} {Q : Exit → Act → World → Prop} (h : o.wpIn F n P a w K Q) : o.wpIn (F.inRound l) n P a w K Q := by
  unfold Oper.wpIn at *
  refine ⟨h.1, ?_⟩
  have h2 := h.2
  rw [hr, Oper.semAt_none] at h2
  rw [Fence.inRound_round, Oper.semAt_eq _ _ _ hd]
  exact h2
theorem opsIn_round {F : Fence} {n : Nat} {P : Program} {ops : Array Oper} {Q : Exit → Act → World → Prop} (l : Nat) (hr : F.round = none) (hd : plainOps ops = true) : ∀ (is : List Nat) (a : Act) (w : World), wpOpsIn F n P ops Q is a w → wpOpsIn (F.inRound l) n P ops Q is a w
  | [], _, _, h => h
  | i :: rest, a, w, h => by
    unfold wpOpsIn at h ⊢
    cases ho : ops[i]? with
    | none => rw [ho] at h; exact opsIn_round l hr hd rest a w h
    | some o =>
      rw [ho] at h
      dsimp only at h ⊢
      split
      · rename_i hw
        rw [if_pos hw] at h
        exact operIn_round l hr (plainOps_at hd ho) (Oper.wpIn_mono (fun a w k => opsIn_round l hr hd rest a w k) h)
      · rename_i hw
        rw [if_neg hw] at h
        exact ⟨h.1, opsIn_round l hr hd rest _ w h.2⟩
/-- A region without a defer statement is walked in a round as outside of one. -/
theorem region_round {F : Fence} {n : Nat} {P : Program} {id : Nat} {ops : Array Oper} {Q : Exit → Act → World → Prop} {a : Act} {w : World} (l : Nat) (hr : F.round = none) (hd : plainOps ops = true) (hm : P.follows .mixedOrders = true)
    (h : wpAnyIn F n P .any ops Q ops.size (Array.replicate ops.size false) a { w with drawn := w.drawn + 1 }) : (Code.region id ops true).wpIn (F.inRound l) n P Q a w :=
  wpIn_region_draw fun t => by
    simp only [Region.schedule, hm, Bool.true_or, if_true]
    exact opsIn_round l hr hd _ a _ (wpAnyIn_sound ops.size t _ a _ h)

theorem round_any {F : Fence} (hd : F.depth = none) {m m' : Nat} {P : Program} {l : Nat} {args : Array Value} {W : World} {R : Ending → World → Prop} (h : YieldAt F m P l args W R) : YieldAt F m' P l args W R := by
  obtain ⟨fn, tmps, assign, body, hy, hR⟩ := h
  exact ⟨fn, tmps, assign, body, hy, hR.1, fun c cs _ => hR.2 c cs (by unfold Fence.room; rw [hd]; intro d h; cases h)⟩
end Go.Proofs.Ytichenjbkclljaa


/-
  PLAIN: the eight symmetries are a group of eight; classes are the same for their elements; their sizes divide eight.
-/

namespace Go.Proofs.Ytichenjbkclljaa
set_option maxRecDepth 100000

def invL (p : List Int) : List Int := invFill p p.length
theorem invL_length (p : List Int) : (invL p).length = p.length := invFill_length p _
theorem invL_isP {p : List Int} (h : isP p = true) : isP (invL p) = true := isP_inv h
theorem invL_at {p : List Int} (h : isP p = true) {i : Nat} {z : Int} (hi : i < p.length) (hz : p[i]? = some z) : (invL p)[z.toNat - 1]? = some ((i : Int) + 1) :=
  invFill_at (isP_true.1 h).2.1 (isP_true.1 h).2.2 p.length i z hi (Nat.le_refl _) hz
/-- What is at a place of the inverse. -/
theorem invL_get {p : List Int} (h : isP p = true) {j : Nat} (hj : j < p.length) : ∃ i, i < p.length ∧ p[i]? = some ((j : Int) + 1) ∧ (invL p)[j]? = some ((i : Int) + 1) := by
  have hin := (nodup_iff_all (isP_true.1 h).2.1).1 (isP_true.1 h).2.2 j hj
  obtain ⟨i, hi, he⟩ := List.getElem_of_mem hin
  have h1 : p[i]? = some ((j : Int) + 1) := by rw [List.getElem?_eq_getElem hi, he]
  refine ⟨i, hi, h1, ?_⟩
  have := invL_at h hi h1
  rwa [show ((j : Int) + 1).toNat - 1 = j by omega] at this
/-- A list is the inverse if it has the inverse's places. -/
theorem invL_of {p q : List Int} (h : isP p = true) (hl : q.length = p.length) (hq : ∀ (i : Nat) (z : Int), p[i]? = some z → q[z.toNat - 1]? = some ((i : Int) + 1)) : invL p = q := by
  refine List.ext_getElem? fun j => ?_
  by_cases hj : j < p.length
  · obtain ⟨i, hi, h1, h2⟩ := invL_get h hj
    have := hq i _ h1
    rw [show ((j : Int) + 1).toNat - 1 = j by omega] at this
    rw [h2, this]
  · rw [List.getElem?_eq_none (by rw [invL_length]; omega), List.getElem?_eq_none (by omega)]
theorem inv_inv {p : List Int} (h : isP p = true) : invL (invL p) = p := by
  refine invL_of (invL_isP h) (invL_length p).symm fun j z hz => ?_
  have hj : j < p.length := by have := (List.getElem?_eq_some_iff.1 hz).1; rwa [invL_length] at this
  obtain ⟨i, hi, h1, h2⟩ := invL_get h hj
  rw [h2] at hz
  obtain rfl := Option.some.inj hz
  rw [show ((i : Int) + 1).toNat - 1 = i by omega, h1]
theorem inv_rev {p : List Int} (h : isP p = true) : invL p.reverse = cplL (invL p) := by
  refine invL_of (isP_rev h) (by rw [cplL_length, invL_length, List.length_reverse]) fun i z hz => ?_
  have hi : i < p.length := by have := (List.getElem?_eq_some_iff.1 hz).1; rwa [List.length_reverse] at this
  rw [List.getElem?_reverse hi] at hz
  have h1 := invL_at h (by omega) hz
  rw [cplL_at h1, invL_length]
  congr 1
  omega
theorem inv_cpl {p : List Int} (h : isP p = true) : invL (cplL p) = (invL p).reverse := by
  refine invL_of (isP_cpl h) (by rw [cplL_length, List.length_reverse, invL_length]) fun i z hz => ?_
  have hi : i < p.length := by have := (List.getElem?_eq_some_iff.1 hz).1; rwa [cplL_length] at this
  have hp := at0_some hi
  rw [cplL_at hp] at hz
  obtain rfl := Option.some.inj hz
  have hr := isP_range h hp
  have h1 := invL_at h hi hp
  rw [List.getElem?_reverse (by rw [invL_length]; omega), invL_length]
  rw [show p.length - 1 - (((p.length : Int) + 1 - at0 p i).toNat - 1) = (at0 p i).toNat - 1 by omega]
  exact h1
theorem cpl_rev (p : List Int) : cplL p.reverse = (cplL p).reverse := by
  unfold cplL
  rw [List.length_reverse, List.map_reverse]

/-- The steps on the numbers of the symmetries. -/
def sI (k : Nat) : Nat := (if 4 ≤ k then 2 else 0) + (if k / 2 % 2 = 1 then 4 else 0) + (if k % 2 = 1 then 0 else 1)
def sR (k : Nat) : Nat := if k / 2 % 2 = 1 then k - 2 else k + 2
def sC (k : Nat) : Nat := if 4 ≤ k then k - 4 else k + 4
def mulS (k j : Nat) : Nat :=
  let a := if j % 2 = 1 then sI k else k
  let b := if j / 2 % 2 = 1 then sR a else a
  if 4 ≤ j then sC b else b
theorem mulS_lt : ∀ k, k < 8 → ∀ j, j < 8 → mulS k j < 8 := by decide
theorem sym_list (p : List Int) : symL p 0 = p ∧ symL p 1 = invL p ∧ symL p 2 = p.reverse ∧ symL p 3 = (invL p).reverse ∧ symL p 4 = cplL p ∧ symL p 5 = cplL (invL p) ∧ symL p 6 = cplL p.reverse ∧ symL p 7 = cplL (invL p).reverse := by
  refine ⟨?_, ?_, ?_, ?_, ?_, ?_, ?_, ?_⟩ <;> simp [symL, sym2, sym1, invL]
theorem inv_sym {p : List Int} (h : isP p = true) : ∀ k, k < 8 → invL (symL p k) = symL p (sI k) := by
  obtain ⟨e0, e1, e2, e3, e4, e5, e6, e7⟩ := sym_list p
  have hi := invL_isP h
  intro k hk
  rcases (show k = 0 ∨ k = 1 ∨ k = 2 ∨ k = 3 ∨ k = 4 ∨ k = 5 ∨ k = 6 ∨ k = 7 by omega) with rfl | rfl | rfl | rfl | rfl | rfl | rfl | rfl
  · rw [e0, show sI 0 = 1 from rfl, e1]
  · rw [e1, show sI 1 = 0 from rfl, e0, inv_inv h]
  · rw [e2, show sI 2 = 5 from rfl, e5, inv_rev h]
  · rw [e3, show sI 3 = 4 from rfl, e4, inv_rev hi, inv_inv h]
  · rw [e4, show sI 4 = 3 from rfl, e3, inv_cpl h]
  · rw [e5, show sI 5 = 2 from rfl, e2, inv_cpl hi, inv_inv h]
  · rw [e6, show sI 6 = 7 from rfl, e7, inv_cpl (isP_rev h), inv_rev h, cpl_rev]
  · rw [e7, show sI 7 = 6 from rfl, e6, inv_cpl (isP_rev hi), inv_rev hi, inv_inv h, cpl_rev]
theorem rev_sym (p : List Int) : ∀ k, k < 8 → (symL p k).reverse = symL p (sR k) := by
  obtain ⟨e0, e1, e2, e3, e4, e5, e6, e7⟩ := sym_list p
  intro k hk
  rcases (show k = 0 ∨ k = 1 ∨ k = 2 ∨ k = 3 ∨ k = 4 ∨ k = 5 ∨ k = 6 ∨ k = 7 by omega) with rfl | rfl | rfl | rfl | rfl | rfl | rfl | rfl
  · rw [e0, show sR 0 = 2 from rfl, e2]
  · rw [e1, show sR 1 = 3 from rfl, e3]
  · rw [e2, show sR 2 = 0 from rfl, e0, List.reverse_reverse]
  · rw [e3, show sR 3 = 1 from rfl, e1, List.reverse_reverse]
  · rw [e4, show sR 4 = 6 from rfl, e6, cpl_rev]
  · rw [e5, show sR 5 = 7 from rfl, e7, cpl_rev]
  · rw [e6, show sR 6 = 4 from rfl, e4, cpl_rev, List.reverse_reverse]
  · rw [e7, show sR 7 = 5 from rfl, e5, cpl_rev, List.reverse_reverse]
theorem cpl_sym (p : List Int) : ∀ k, k < 8 → cplL (symL p k) = symL p (sC k) := by
  obtain ⟨e0, e1, e2, e3, e4, e5, e6, e7⟩ := sym_list p
  intro k hk
  rcases (show k = 0 ∨ k = 1 ∨ k = 2 ∨ k = 3 ∨ k = 4 ∨ k = 5 ∨ k = 6 ∨ k = 7 by omega) with rfl | rfl | rfl | rfl | rfl | rfl | rfl | rfl
  · rw [e0, show sC 0 = 4 from rfl, e4]
  · rw [e1, show sC 1 = 5 from rfl, e5]
  · rw [e2, show sC 2 = 6 from rfl, e6]
  · rw [e3, show sC 3 = 7 from rfl, e7]
  · rw [e4, show sC 4 = 0 from rfl, e0, cpl_cpl]
  · rw [e5, show sC 5 = 1 from rfl, e1, cpl_cpl]
  · rw [e6, show sC 6 = 2 from rfl, e2, cpl_cpl]
  · rw [e7, show sC 7 = 3 from rfl, e3, cpl_cpl]
theorem sI_lt : ∀ k, k < 8 → sI k < 8 := by decide
theorem sR_lt : ∀ k, k < 8 → sR k < 8 := by decide
/-- A symmetry of a symmetry. -/
theorem sym_sym {p : List Int} (h : isP p = true) {k j : Nat} (hk : k < 8) (_hj : j < 8) : symL (symL p k) j = symL p (mulS k j) := by
  have e1 : sym1 (symL p k) j = symL p (if j % 2 = 1 then sI k else k) := by
    unfold sym1
    split
    · exact inv_sym h k hk
    · rfl
  have l1 : (if j % 2 = 1 then sI k else k) < 8 := by
    split
    · exact sI_lt k hk
    · exact hk
  have e2 : sym2 (symL p k) j = symL p (if j / 2 % 2 = 1 then sR (if j % 2 = 1 then sI k else k) else (if j % 2 = 1 then sI k else k)) := by
    unfold sym2
    rw [e1]
    by_cases hb : j / 2 % 2 = 1
    · rw [if_pos hb, if_pos hb]; exact rev_sym p _ l1
    · rw [if_neg hb, if_neg hb]
  have l2 : (if j / 2 % 2 = 1 then sR (if j % 2 = 1 then sI k else k) else (if j % 2 = 1 then sI k else k)) < 8 := by
    by_cases hb : j / 2 % 2 = 1
    · rw [if_pos hb]; exact sR_lt _ l1
    · rw [if_neg hb]; exact l1
  have e3 : symL (symL p k) j = if 4 ≤ j then cplL (sym2 (symL p k) j) else sym2 (symL p k) j := rfl
  rw [e3, e2]
  by_cases hb : 4 ≤ j
  · rw [if_pos hb, cpl_sym p _ l2]
    congr 1
    simp only [mulS]
    rw [if_pos hb]
  · rw [if_neg hb]
    congr 1
    simp only [mulS]
    rw [if_neg hb]
theorem mulS_onto : ∀ k, k < 8 → ∀ i, i < 8 → ∃ j, j < 8 ∧ mulS k j = i := by decide
theorem mem_imgs {p x : List Int} : x ∈ imgs p 8 ↔ ∃ j, j < 8 ∧ symL p j = x := by
  unfold imgs
  simp [List.mem_map, List.mem_range]
theorem mem_cls {p x : List Int} (h : isP p = true) : x ∈ clsR p ↔ ∃ j, j < 8 ∧ symL p j = x := by
  rw [clsR_yes h, ordR_yes (imgs_all h 8), ordL_mem, List.take_length, mem_imgs]
theorem asc_cls {p : List Int} (h : isP p = true) : Asc (clsR p) := by
  rw [clsR_yes h, ordR_yes (imgs_all h 8)]
  exact ordL_asc _ _
theorem cls_sym {p : List Int} (h : isP p = true) {k : Nat} (hk : k < 8) : clsR (symL p k) = clsR p := by
  refine asc_unique (asc_cls (symL_isP h k)) (asc_cls h) fun x => ?_
  rw [mem_cls (symL_isP h k), mem_cls h]
  constructor
  · rintro ⟨j, hj, rfl⟩
    exact ⟨mulS k j, mulS_lt k hk j hj, (sym_sym h hk hj).symm⟩
  · rintro ⟨i, hi, rfl⟩
    obtain ⟨j, hj, e⟩ := mulS_onto k hk i hi
    exact ⟨j, hj, by rw [sym_sym h hk hj, e]⟩
/-- The number of the inverse symmetry. -/
def invS (k : Nat) : Nat := if k = 3 then 5 else if k = 5 then 3 else k
theorem mulS_inv : ∀ k, k < 8 → mulS k (invS k) = 0 := by decide
theorem invS_lt : ∀ k, k < 8 → invS k < 8 := by decide
theorem mulS_back : ∀ k, k < 8 → ∀ j, j < 8 → mulS (mulS j (invS k)) k = j := by decide
theorem mulS_zero : ∀ k, k < 8 → mulS 0 k = k := by decide
/-- Two images are the same exactly if one symmetry leaves the permutation as it is. -/
theorem sym_eq {p : List Int} (h : isP p = true) {i j : Nat} (hi : i < 8) (hj : j < 8) : symL p i = symL p j ↔ symL p (mulS j (invS i)) = p := by
  have hii := invS_lt i hi
  constructor
  · intro e
    rw [← sym_sym h hj hii, ← e, sym_sym h hi hii, mulS_inv i hi]
    exact (sym_list p).1
  · intro e
    have h2 := mulS_lt j hj _ hii
    have h3 := sym_sym h h2 hi
    rw [e, mulS_back i hi j hj] at h3
    exact h3
/-- The numbers of the first images. -/
def firsts (e : Nat → Bool) : List Nat := (List.range 8).filter fun j => (List.range j).all fun i => !e (mulS j (invS i))
def tab (b0 b1 b2 b3 b4 b5 b6 b7 : Bool) (k : Nat) : Bool := [b0, b1, b2, b3, b4, b5, b6, b7].getD k false
theorem div8 : ∀ b1 b2 b3 b4 b5 b6 b7 : Bool, (∀ i, i < 8 → ∀ j, j < 8 → tab true b1 b2 b3 b4 b5 b6 b7 i = true → tab true b1 b2 b3 b4 b5 b6 b7 j = true → tab true b1 b2 b3 b4 b5 b6 b7 (mulS i j) = true) →
    8 % (firsts (tab true b1 b2 b3 b4 b5 b6 b7)).length = 0 := by decide +kernel
theorem cls_div {p : List Int} (h : isP p = true) : 0 < (clsR p).length ∧ 8 % (clsR p).length = 0 := by
  refine ⟨List.length_pos_iff.2 (clsR_ne h), ?_⟩
  obtain ⟨e, he⟩ : ∃ e : Nat → Bool, e = fun k => decide (symL p k = p) := ⟨_, rfl⟩
  have hE : ∀ k, e k = true ↔ symL p k = p := fun k => by rw [he]; simp
  -- the first images are the class
  have hperm : (clsR p).Perm ((firsts e).map fun j => symL p j) := by
    have hn1 : (clsR p).Nodup := by
      rw [List.nodup_iff_pairwise_ne]
      exact (asc_cls h).imp fun hab e => by subst e; rw [befL_irrefl] at hab; cases hab
    have hn2 : ((firsts e).map fun j => symL p j).Nodup := by
      rw [List.nodup_iff_pairwise_ne, List.pairwise_map]
      unfold firsts
      have hlt : ((List.range 8).filter fun j => (List.range j).all fun i => !e (mulS j (invS i))).Pairwise (· < ·) := List.pairwise_lt_range.sublist List.filter_sublist
      refine hlt.imp_of_mem fun {i j} hi hj hij heq => ?_
      have hi8 := List.mem_range.1 (List.mem_filter.1 hi).1
      have hj8 := List.mem_range.1 (List.mem_filter.1 hj).1
      have hall := (List.mem_filter.1 hj).2
      rw [List.all_eq_true] at hall
      have h2 := hall i (List.mem_range.2 hij)
      have h3 := (hE _).2 ((sym_eq h hi8 hj8).1 heq)
      rw [h3] at h2
      cases h2
    refine (List.perm_ext_iff_of_nodup hn1 hn2).2 fun x => ?_
    rw [mem_cls h, List.mem_map]
    constructor
    · rintro ⟨j, hj, rfl⟩
      -- the least number with this image
      have hleast : ∀ n, ∀ j, j ≤ n → j < 8 → ∃ i, i ∈ firsts e ∧ symL p i = symL p j := fun n => by
        induction n with
        | zero =>
          intro j hj _
          obtain rfl : j = 0 := by omega
          exact ⟨0, by simp [firsts, List.mem_filter], rfl⟩
        | succ n ih =>
          intro j hj hj8
          by_cases hf : j ∈ firsts e
          · exact ⟨j, hf, rfl⟩
          · have : ∃ i, i < j ∧ e (mulS j (invS i)) = true := by
              refine Classical.byContradiction fun hc => hf ?_
              refine List.mem_filter.2 ⟨List.mem_range.2 hj8, ?_⟩
              rw [List.all_eq_true]
              intro i hi
              cases hb : e (mulS j (invS i)) with
              | false => rfl
              | true => exact absurd ⟨i, List.mem_range.1 hi, hb⟩ hc
            obtain ⟨i, hij, hb⟩ := this
            obtain ⟨i', h1, h2⟩ := ih i (by omega) (by omega)
            exact ⟨i', h1, h2.trans ((sym_eq h (by omega) hj8).2 ((hE _).1 hb))⟩
      obtain ⟨i, h1, h2⟩ := hleast j j (Nat.le_refl _) hj
      exact ⟨i, h1, h2⟩
    · rintro ⟨i, hi, rfl⟩
      exact ⟨i, List.mem_range.1 (List.mem_filter.1 hi).1, rfl⟩
  rw [hperm.length_eq, List.length_map]
  -- the numbers that leave p as it is are closed
  have hclosed : ∀ i, i < 8 → ∀ j, j < 8 → e i = true → e j = true → e (mulS i j) = true := fun i hi j hj h1 h2 => by
    rw [hE] at h1 h2 ⊢
    rw [← sym_sym h hi hj, h1, h2]
  have htab : ∀ k, k < 8 → tab true (e 1) (e 2) (e 3) (e 4) (e 5) (e 6) (e 7) k = e k := fun k hk => by
    have e0 : e 0 = true := (hE 0).2 (sym_list p).1
    rcases (show k = 0 ∨ k = 1 ∨ k = 2 ∨ k = 3 ∨ k = 4 ∨ k = 5 ∨ k = 6 ∨ k = 7 by omega) with rfl | rfl | rfl | rfl | rfl | rfl | rfl | rfl
    · exact e0.symm
    all_goals rfl
  have hfe : firsts e = firsts (tab true (e 1) (e 2) (e 3) (e 4) (e 5) (e 6) (e 7)) := by
    unfold firsts
    refine List.filter_congr fun j hj => ?_
    have hj8 := List.mem_range.1 hj
    rw [Bool.eq_iff_iff, List.all_eq_true, List.all_eq_true]
    refine forall_congr' fun i => ?_
    constructor
    · intro h1 hi
      rw [htab _ (mulS_lt j hj8 _ (invS_lt i (by have := List.mem_range.1 hi; omega)))]
      exact h1 hi
    · intro h1 hi
      rw [← htab _ (mulS_lt j hj8 _ (invS_lt i (by have := List.mem_range.1 hi; omega)))]
      exact h1 hi
  rw [hfe]
  refine div8 _ _ _ _ _ _ _ fun i hi j hj h1 h2 => ?_
  rw [htab i hi] at h1
  rw [htab j hj] at h2
  rw [htab _ (mulS_lt i hi j hj)]
  exact hclosed i hi j hj h1 h2
end Go.Proofs.Ytichenjbkclljaa


/-
  PLAIN: the places of a part; occurrences in the reverse and in the inverse are as many.
-/

namespace Go.Proofs.Ytichenjbkclljaa
set_option maxRecDepth 100000

/-! lists of lists without repetition -/
theorem asc_nodup {l : List (List Int)} (h : Asc l) : l.Nodup := by
  rw [List.nodup_iff_pairwise_ne]
  exact h.imp fun {a b} h e => by rw [e, befL_irrefl] at h; exact absurd h Bool.false_ne_true
theorem subL_erase {a : List Int} {l m : List (List Int)} (hnd : (a :: l).Nodup) (h : ∀ x ∈ a :: l, x ∈ m) : ∀ x ∈ l, x ∈ m.erase a := fun x hx => by
  have hne : x ≠ a := fun e => by subst e; exact (List.nodup_cons.1 hnd).1 hx
  exact (List.mem_erase_of_ne hne).2 (h x (by simp [hx]))
theorem pigeonL_le : ∀ {l m : List (List Int)}, l.Nodup → (∀ x ∈ l, x ∈ m) → l.length ≤ m.length
  | [], _, _, _ => Nat.zero_le _
  | a :: l, m, hnd, h => by
    have ha := h a (by simp)
    have h1 := pigeonL_le (List.nodup_cons.1 hnd).2 (subL_erase hnd h)
    have h2 := List.length_pos_of_mem ha
    rw [List.length_erase_of_mem ha] at h1
    rw [List.length_cons]; omega
/-- A list that is told apart into another one is not longer. -/
theorem inject_le {l m : List (List Int)} (f : List Int → List Int) (hl : l.Nodup) (h : ∀ x ∈ l, f x ∈ m) (hf : ∀ x ∈ l, ∀ y ∈ l, f x = f y → x = y) : l.length ≤ m.length := by
  have hn : (l.map f).Nodup := by
    rw [List.nodup_iff_pairwise_ne, List.pairwise_map]
    refine List.Pairwise.imp_of_mem (fun {a b} ha hb hne e => hne (hf a ha b hb e)) (List.nodup_iff_pairwise_ne.1 hl)
  have := pigeonL_le hn (m := m) fun x hx => by
    obtain ⟨y, hy, rfl⟩ := List.mem_map.1 hx
    exact h y hy
  rwa [List.length_map] at this

/-! the reverse -/
theorem cnt_rev (l : List Int) (v : Int) : cnt l.reverse v = cnt l v := by unfold cnt; rw [List.filter_reverse, List.length_reverse]
theorem patL_rev (l : List Int) : patL l.reverse = (patL l).reverse := by
  unfold patL
  rw [List.map_reverse]
  congr 1
  exact List.map_congr_left fun x _ => by rw [cnt_rev]
def plRev (n : Nat) (pl : List Int) : List Int := (pl.map fun x => (n : Int) + 1 - x).reverse
theorem plRev_ok {n : Nat} {pl : List Int} (h : PlOK n pl) : PlOK n (plRev n pl) := by
  refine ⟨fun x hx => ?_, ?_⟩
  · unfold plRev at hx
    rw [List.mem_reverse, List.mem_map] at hx
    obtain ⟨y, hy, rfl⟩ := hx
    have := h.1 y hy; omega
  · unfold plRev
    rw [List.pairwise_reverse, List.pairwise_map]
    exact h.2.imp fun h => by omega
theorem plRev_back (n : Nat) (pl : List Int) : plRev n (plRev n pl) = pl := by
  unfold plRev
  rw [List.map_reverse, List.reverse_reverse, List.map_map]
  rw [show ((fun x => (n : Int) + 1 - x) ∘ fun x => (n : Int) + 1 - x) = id by funext x; simp only [Function.comp, id]; omega]
  exact List.map_id pl
theorem at0_rev {l : List Int} {i : Nat} (h : i < l.length) : at0 l.reverse i = at0 l (l.length - 1 - i) := at0_of (by rw [List.getElem?_reverse h]; exact at0_some (by omega))
theorem nums_rev {p pl : List Int} (h : PlOK p.length pl) : nums p.reverse (plRev p.length pl) = (nums p pl).reverse := by
  unfold nums plRev
  rw [List.map_reverse, List.map_map]
  congr 1
  refine List.map_congr_left fun x hx => ?_
  have := h.1 x hx
  simp only [Function.comp]
  rw [at0_rev (by omega)]
  congr 1; omega
theorem occ_rev {p q pl : List Int} (h : pl ∈ occR p q) : plRev p.length pl ∈ occR p.reverse q.reverse := by
  rw [mem_occ, isOcc_iff] at h ⊢
  obtain ⟨h1, h2, h3, h4, h5⟩ := h
  refine ⟨isP_rev h1, isP_rev h2, by rw [plRev, List.length_reverse, List.length_map, List.length_reverse, h3], by rw [List.length_reverse]; exact plRev_ok h4, ?_⟩
  rw [nums_rev h4, patL_rev, h5]
theorem occ_rev_le (p q : List Int) : (occR p q).length ≤ (occR p.reverse q.reverse).length :=
  inject_le (plRev p.length) (asc_nodup (occ_asc p q)) (fun _ h => occ_rev h) fun x _ y _ e => by rw [← plRev_back p.length x, e, plRev_back]
theorem occ_rev_len (p q : List Int) : (occR p.reverse q.reverse).length = (occR p q).length := by
  have h1 := occ_rev_le p q
  have h2 := occ_rev_le p.reverse q.reverse
  rw [List.reverse_reverse, List.reverse_reverse] at h2
  omega

/-! the inverse -/
/-- The places in the inverse: the numbers at the places, in ascending order. -/
def plInv (p q pl : List Int) : List Int := (List.range q.length).map fun j => at0 (nums p pl) ((at0 (invL q) j).toNat - 1)
theorem plInv_length (p q pl : List Int) : (plInv p q pl).length = q.length := by simp [plInv]
theorem plInv_at {p q pl : List Int} {j : Nat} (h : j < q.length) : at0 (plInv p q pl) j = at0 (nums p pl) ((at0 (invL q) j).toNat - 1) := at0_of (by unfold plInv; rw [List.getElem?_map, List.getElem?_range h]; rfl)
/-- A place of the inverse: where the number stands. -/
theorem inv_at {q : List Int} (hq : isP q = true) {j : Nat} (hj : j < q.length) : ∃ i, i < q.length ∧ at0 q i = (j : Int) + 1 ∧ at0 (invL q) j = (i : Int) + 1 := by
  obtain ⟨i, hi, h1, h2⟩ := invL_get hq hj
  exact ⟨i, hi, at0_of h1, at0_of h2⟩
theorem inv_val {p : List Int} (hp : isP p = true) {i : Nat} (hi : i < p.length) : at0 (invL p) ((at0 p i).toNat - 1) = (i : Int) + 1 := at0_of (invL_at hp hi (at0_some hi))
theorem rng_at {p : List Int} (hp : isP p = true) {i : Nat} (hi : i < p.length) : 1 ≤ at0 p i ∧ at0 p i ≤ (p.length : Int) := isP_range hp (at0_some hi)
theorem plOK_of {n : Nat} {l : List Int} (h1 : ∀ i, i < l.length → 1 ≤ at0 l i ∧ at0 l i ≤ (n : Int)) (h2 : ∀ i j, i < j → j < l.length → at0 l i < at0 l j) : PlOK n l := by
  refine ⟨fun x hx => ?_, List.pairwise_iff_getElem.2 fun i j hi hj hij => ?_⟩
  · obtain ⟨i, hi, rfl⟩ := List.getElem_of_mem hx
    have := h1 i hi
    rwa [at0_of (List.getElem?_eq_getElem hi)] at this
  · have := h2 i j hij hj
    rwa [at0_of (List.getElem?_eq_getElem hi), at0_of (List.getElem?_eq_getElem hj)] at this
theorem occ_inv {p q pl : List Int} (h : pl ∈ occR p q) : plInv p q pl ∈ occR (invL p) (invL q) ∧ ∀ i, i < pl.length → at0 (nums (invL p) (plInv p q pl)) ((at0 q i).toNat - 1) = at0 pl i := by
  rw [mem_occ, isOcc_iff] at h
  obtain ⟨h1, h2, h3, h4, h5⟩ := h
  have ha := (pat_eq_iff h2).1 h5
  have hnl := nums_length p pl
  have hv : ∀ i, i < pl.length → 1 ≤ at0 (nums p pl) i ∧ at0 (nums p pl) i ≤ (p.length : Int) := fun i hi => by
    have := h4.rng hi
    rw [nums_at0 hi]
    exact rng_at h1 (by omega)
  have hok : PlOK (invL p).length (plInv p q pl) := by
    rw [invL_length]
    refine plOK_of (fun i hi => ?_) fun i j hij hj => ?_
    · rw [plInv_length] at hi
      rw [plInv_at hi]
      obtain ⟨k, hk, _, e⟩ := inv_at h2 hi
      rw [e]
      have := hv k (by omega)
      rwa [show ((k : Int) + 1).toNat - 1 = k by omega]
    · rw [plInv_length] at hj
      rw [plInv_at (show i < q.length by omega), plInv_at hj]
      obtain ⟨k, hk, e1, e⟩ := inv_at h2 (show i < q.length by omega)
      obtain ⟨k', hk', e1', e'⟩ := inv_at h2 hj
      rw [e, e', show ((k : Int) + 1).toNat - 1 = k by omega, show ((k' : Int) + 1).toNat - 1 = k' by omega]
      rw [ha.2 k k' (by omega) (by omega), e1, e1']
      omega
  have hback : ∀ j, j < q.length → at0 (nums (invL p) (plInv p q pl)) j = at0 pl ((at0 (invL q) j).toNat - 1) := fun j hj => by
    rw [nums_at0 (by rw [plInv_length]; exact hj), plInv_at hj]
    obtain ⟨k, hk, _, e⟩ := inv_at h2 hj
    rw [e, show ((k : Int) + 1).toNat - 1 = k by omega, nums_at0 (by omega)]
    have := h4.rng (i := k) (by omega)
    rw [inv_val h1 (by omega)]
    omega
  refine ⟨?_, fun i hi => ?_⟩
  · rw [mem_occ, isOcc_iff]
    refine ⟨invL_isP h1, invL_isP h2, by rw [plInv_length, invL_length], hok, ?_⟩
    rw [pat_eq_iff (invL_isP h2)]
    refine ⟨by rw [nums_length, plInv_length, invL_length], fun i j hi hj => ?_⟩
    rw [nums_length, plInv_length] at hi hj
    rw [hback i hi, hback j hj]
    obtain ⟨k, hk, _, e⟩ := inv_at h2 hi
    obtain ⟨k', hk', _, e'⟩ := inv_at h2 hj
    rw [e, e', show ((k : Int) + 1).toNat - 1 = k by omega, show ((k' : Int) + 1).toNat - 1 = k' by omega]
    rcases Nat.lt_trichotomy k k' with hh | hh | hh
    · have := h4.mono hh (by omega); omega
    · subst hh; omega
    · have := h4.mono hh (by omega); omega
  · have hr := rng_at h2 (show i < q.length by omega)
    rw [hback _ (by omega), inv_val h2 (by omega), show ((i : Int) + 1).toNat - 1 = i by omega]
theorem occ_inv_le (p q : List Int) : (occR p q).length ≤ (occR (invL p) (invL q)).length :=
  inject_le (plInv p q) (asc_nodup (occ_asc p q)) (fun _ h => (occ_inv h).1) fun x hx y hy e => by
    have h1 := (isOcc_iff.1 (mem_occ.1 hx)).2.2.1
    have h2 := (isOcc_iff.1 (mem_occ.1 hy)).2.2.1
    refine ext_at0 (by omega) fun i hi => ?_
    rw [← (occ_inv hx).2 i hi, e, (occ_inv hy).2 i (by omega)]
theorem occ_inv_len {p q : List Int} (hp : isP p = true) (hq : isP q = true) : (occR (invL p) (invL q)).length = (occR p q).length := by
  have h1 := occ_inv_le p q
  have h2 := occ_inv_le (invL p) (invL q)
  rw [inv_inv hp, inv_inv hq] at h2
  omega

/-! a part of a permutation -/
theorem nums_up (a : Int) (l pl : List Int) (h : ∀ x ∈ pl, 1 ≤ x) : nums (a :: l) (pl.map fun x => x + 1) = nums l pl := by
  unfold nums
  rw [List.map_map]
  refine List.map_congr_left fun x hx => ?_
  have := h x hx
  simp only [Function.comp]
  rw [show (x + 1).toNat - 1 = x.toNat - 1 + 1 by omega, at0_succ]
theorem plOK_up {n : Nat} {pl : List Int} (h : PlOK n pl) : PlOK (n + 1) (pl.map fun x => x + 1) := by
  refine ⟨fun x hx => ?_, ?_⟩
  · obtain ⟨y, hy, rfl⟩ := List.mem_map.1 hx
    have := h.1 y hy; omega
  · rw [List.pairwise_map]
    exact h.2.imp fun h => by omega
theorem places_of {s l : List Int} (h : s.Sublist l) : ∃ pl, PlOK l.length pl ∧ nums l pl = s := by
  induction h with
  | slnil => exact ⟨[], PlOK.nil _, rfl⟩
  | cons a _ ih =>
    obtain ⟨pl, h1, h2⟩ := ih
    exact ⟨_, by rw [List.length_cons]; exact plOK_up h1, by rw [nums_up a _ pl fun x hx => (h1.1 x hx).1, h2]⟩
  | cons_cons a _ ih =>
    obtain ⟨pl, h1, h2⟩ := ih
    refine ⟨1 :: pl.map fun x => x + 1, ?_, ?_⟩
    · rw [List.length_cons]
      have h3 := plOK_up h1
      refine ⟨fun x hx => ?_, List.pairwise_cons.2 ⟨fun x hx => ?_, h3.2⟩⟩
      · rcases List.mem_cons.1 hx with rfl | hx
        · omega
        · exact h3.1 x hx
      · obtain ⟨y, hy, rfl⟩ := List.mem_map.1 hx
        have := h1.1 y hy; omega
    · have h3 := (nums_up a _ pl fun x hx => (h1.1 x hx).1).trans h2
      unfold nums at h3 ⊢
      rw [List.map_cons, h3]; rfl
theorem occ_sub {p s : List Int} (hp : isP p = true) (h : s.Sublist p) (hs : isP (patL s) = true) : 0 < (occR p (patL s)).length := by
  obtain ⟨pl, h1, h2⟩ := places_of h
  refine List.length_pos_of_mem (a := pl) ?_
  rw [mem_occ, isOcc_iff]
  exact ⟨hp, hs, by rw [patL_length, ← h2, nums_length], h1, by rw [h2]⟩
end Go.Proofs.Ytichenjbkclljaa


/-
  spec.l7Without, spec.WithoutPlace, spec.LowersOf, by their contracts.
-/

namespace Go.Proofs.Ytichenjbkclljaa
set_option maxRecDepth 100000
open Go.RowKit

theorem place_nat' {n : Nat} {x : Int} (h : 1 ≤ x ∧ x ≤ (n : Int)) : ∃ X : Nat, x = ((X + 1 : Nat) : Int) ∧ X < n := ⟨x.toNat - 1, by omega, by omega⟩
/-- A list without the number at index k. -/
def cutAt (p : List Int) (k : Nat) : List Int := p.take k ++ p.drop (k + 1)
theorem cutAt_len {p : List Int} {k : Nat} (h : k < p.length) : (cutAt p k).length + 1 = p.length := by
  unfold cutAt
  rw [List.length_append, List.length_take, List.length_drop]; omega
theorem cutAt_sub (p : List Int) (k : Nat) : (cutAt p k).Sublist p := by
  have h : (p.take k ++ p.drop (k + 1)).Sublist (p.take k ++ p.drop k) := (List.Sublist.refl _).append (by
    rw [← List.drop_drop]; exact List.drop_sublist _ _)
  rwa [List.take_append_drop] at h
theorem cutAt_isP {p : List Int} (hp : isP p = true) (k : Nat) : isP (patL (cutAt p k)) = true := by
  rw [isP_pat]
  have h := isP_true.1 hp
  exact patOK_yes (Nat.le_trans (cutAt_sub p k).length_le (isP_le hp)) (h.2.2.sublist (cutAt_sub p k))

set_option maxHeartbeats 1600000 in
theorem l7without_any (A : Option Addr) (n c B : Nat) (zs : List Int) (k : Nat) (w : World) (h : Arg w B A n c zs) (hn8 : n ≤ 8) (hk : k < n) :
    Calls Try.prog 64 #[.slice A n c, .int .i64 k] w (GivesI w (patL (cutAt zs k))) := by
  have hl := h.len
  have hcap := h.cap
  obtain ⟨ad, rfl⟩ : ∃ ad, A = some ad := by
    obtain ⟨ad, u, hA, _⟩ := h.reads.at_ hk
    exact ⟨ad, hA⟩
  have hA1 := h.cut (f := 0) (m := k) (by omega)
  rw [show ad.add 0 = ad by unfold Addr.add; split <;> simp_all, Nat.sub_zero, List.drop_zero] at hA1
  have hbd0 : (0 : Int) ≤ (k : Int) + 1 := by omega
  have hbd1 : (k : Int) + 1 ≤ (n : Int) := by omega
  have hbd2 : (k : Int) ≤ (c : Int) := by omega
  have hbd3 : (k : Int) + 1 ≤ (c : Int) := by omega
  have hw1 : IntKind.i64.wrap ((k : Int) + 1) = (k : Int) + 1 := by rw [IntKind.wrap_i64]; omega
  have hbd4 : (n : Int) ≤ (c : Int) := by omega
  have hbd5 : (0 : Int) ≤ (k : Int) := by omega
  have hsm := h.small
  have hst := own0 w w.heap.size (Nat.le_refl _)
  have hbel := (Below.refl w.heap.size w).alloc (Nat.le_refl _) (.cells #[] 3)
  have hs0 := hbel.size
  have HSM := hide (show Small (cutAt zs k) from fun z hz => hsm z ((cutAt_sub zs k).mem hz))
  have HCL := hide (cutAt_len (p := zs) (show k < zs.length by omega))
  have HL := hide hl
  by_cases hc : c = k + 1
  · obtain rfl := hc
    obtain rfl : n = k + 1 := by omega
    have hb6 : (k : Int) ≤ ((k + 1 : Nat) : Int) := by omega
    have hb7 : (k : Int) ≤ (k : Int) + 1 := by omega
    have hb8 : (k : Int) + 1 ≤ ((k + 1 : Nat) : Int) := by omega
    clear hbd1 hbd2 hbd3 hbd4 hcap
    have hd : zs.drop (k + 1) = [] := List.drop_of_length_le (by omega)
    have hA2 : Arg w B (some ad) 0 0 ([] : List Int) := ⟨⟨rfl, fun h => by omega⟩, h.under, by omega, Nat.le_refl _, fun z hz => by simp at hz, fun h => by cases h⟩
    have HDD := hide hd
    clear hd
    have hA1d := (hA1.below hbel).drew
    clear hA1 hl hsm h
    go_enter Try.func64, Try.ntmps64
    go_wp2
    go_region_held3 (fun _ => True) (trivial)
      (first
        | ((refine step_append_arg (by rfl) (.tmp 5) (.tmp 8) (by rfl) w.heap.size B 0 k (k + 1) w _ (some ad) [] (zs.take k) (by rfl) (by rfl) hst hA1d (by omega) hbel.drew hs0 ?_); intro v1 w1 hown1 hb1 hg1; rw [Nat.zero_add, List.nil_append] at hown1; clear hg1 hA1d hst hbel hs0; have hA3 := hA2.below hb1; have hs1 := hb1.size; clear hA2)
        | ((refine step_append_arg (by rfl) (.tmp 9) (.tmp 13) (by rfl) w.heap.size B k 0 0 w _ (some ad) (zs.take k) [] (by rfl) (by rfl) hown1 hA3 (by omega) hb1 hs1 ?_); intro v2 w2 hown2 hb2 hg2; clear hg2 hown1 hb1 hs1 hA3; have hI2 : Ints w2 w.heap.size v2 (cutAt zs k) := (by unfold cutAt; rw [unhide HDD]; exact Ints.of_own hown2); obtain ⟨A2, c2, rfl⟩ := hI2.slice; have hcl := unhide HCL; rw [unhide HL] at hcl; have H3 := hide (l2pat_any A2 _ c2 _ (cutAt zs k) w2 (hI2.arg (by omega) hI2.cap (unhide HSM)) (by omega)); clear hown2 hI2 hcl)
        | (go_simp; go_at_call 70; refine (unhide H3).mono ?_; rintro e w3 ⟨A3, c3, rfl, o3, hb3⟩; clear H3))
    have hI := o3.low hb2.size
    have hb4 := hb2.trans (hb3.mono hb2.size)
    clear o3 hb2 hb3
    go_wp2
    go_ret
    exact GivesI.mk hI hb4
  · have hA2 := h.cut (f := k + 1) (m := n - (k + 1)) (by omega)
    rw [List.take_of_length_le (by rw [List.length_drop]; omega)] at hA2
    rw [show ad.add (k + 1) = ⟨ad.block, ad.off + (k + 1), none⟩ by unfold Addr.add; rw [if_neg (by omega)]] at hA2
    have hA1d := (hA1.below hbel).drew
    clear hA1 hl hsm h
    go_enter Try.func64, Try.ntmps64
    go_wp2
    go_region_held3 (fun _ => True) (trivial)
      (first
        | ((refine step_append_arg (by rfl) (.tmp 5) (.tmp 8) (by rfl) w.heap.size B 0 k c w _ (some ad) [] (zs.take k) (by rfl) (by rfl) hst hA1d (by omega) hbel.drew hs0 ?_); intro v1 w1 hown1 hb1 hg1; rw [Nat.zero_add, List.nil_append] at hown1; clear hg1 hA1d hst hbel hs0; have hA3 := hA2.below hb1; have hs1 := hb1.size; clear hA2)
        | ((refine step_append_arg (by rfl) (.tmp 9) (.tmp 13) (by rfl) w.heap.size B k (n - (k + 1)) (c - (k + 1)) w _ (some ⟨ad.block, ad.off + (k + 1), none⟩) (zs.take k) (zs.drop (k + 1)) (by rfl) (by rfl) hown1 hA3 (by omega) hb1 hs1 ?_); intro v2 w2 hown2 hb2 hg2; clear hg2 hown1 hb1 hs1 hA3; have hI2 : Ints w2 w.heap.size v2 (cutAt zs k) := Ints.of_own hown2; obtain ⟨A2, c2, rfl⟩ := hI2.slice; have hcl := unhide HCL; rw [unhide HL] at hcl; have H3 := hide (l2pat_any A2 _ c2 _ (cutAt zs k) w2 (hI2.arg (by omega) hI2.cap (unhide HSM)) (by omega)); clear hown2 hI2 hcl)
        | (go_simp; go_at_call 70; refine (unhide H3).mono ?_; rintro e w3 ⟨A3, c3, rfl, o3, hb3⟩; clear H3))
    have hI := o3.low hb2.size
    have hb4 := hb2.trans (hb3.mono hb2.size)
    clear o3 hb2 hb3
    go_wp2
    go_ret
    exact GivesI.mk hI hb4
def wplOK (p : List Int) (x : Int) : Bool := isP p && decide (1 ≤ x ∧ x ≤ (p.length : Int))
def wplR (p : List Int) (x : Int) : List Int := if wplOK p x then patL (cutAt p (x.toNat - 1)) else []
theorem wplR_yes {p : List Int} {x : Int} (h : wplOK p x = true) : wplR p x = patL (cutAt p (x.toNat - 1)) := by unfold wplR; rw [if_pos h]
theorem wplR_no {p : List Int} {x : Int} (h : wplOK p x = false) : wplR p x = [] := by unfold wplR; rw [if_neg (by simp [h])]
theorem wplR_le (p : List Int) (x : Int) : (wplR p x).length ≤ 8 := by
  cases h : wplOK p x with
  | false => rw [wplR_no h]; exact Nat.zero_le _
  | true =>
    have hp : isP p = true := by unfold wplOK at h; simp at h; exact h.1
    rw [wplR_yes h]
    exact isP_le (cutAt_isP hp _)
set_option maxHeartbeats 800000 in
theorem swpl_any (A : Option Addr) (n c B : Nat) (zs : List Int) (x : Int) (w : World) (h : Arg w B A n c zs) (hx : -9223372036854775808 ≤ x ∧ x ≤ 9223372036854775807) :
    Calls Try.prog 19 #[.slice A n c, .int .i64 x] w (GivesIB w (wplR zs x) (wplOK zs x)) := by
  have hl := h.len
  obtain ⟨b, hb⟩ : ∃ b, isP zs = b := ⟨_, rfl⟩
  have H0 := hide (sisperm_any A n c B zs b hb w h.reads h.le h.cap)
  cases b with
  | false =>
    have ho : wplOK zs x = false := by unfold wplOK; rw [hb]; rfl
    rw [wplR_no ho, ho]
    clear h hb ho hl
    go_enter Try.func19, Try.ntmps19
    go_wp2_with fail
    refine (unhide H0).mono ?_
    rintro e w1 ⟨rfl, hd⟩
    have hb1 := hd.below w.heap.size
    have hm := Ints.made0 w1 w.heap.size hb1.size
    clear hd H0
    go_wp2
    go_ret2
    exact GivesIB.mk _ hm (hb1.alloc hb1.size _)
  | true =>
    have h8 := isP_le hb
    obtain ⟨b2, hb2⟩ : ∃ b2, decide ((1 : Int) ≤ x ∧ x ≤ (n : Int)) = b2 := ⟨_, rfl⟩
    have ho : wplOK zs x = b2 := by unfold wplOK; rw [hb, hl, hb2]; rfl
    have HB2 := hide hb2
    cases b2 with
    | false =>
      rw [wplR_no ho, ho]
      clear h hb ho hl hb2 h8
      go_enter Try.func19, Try.ntmps19
      go_wp2_with fail
      refine (unhide H0).mono ?_
      rintro e w1 ⟨rfl, hd⟩
      have hb1 := hd.below w.heap.size
      have hm := Ints.made0 w1 w.heap.size hb1.size
      clear hd H0
      go_wp2_with fail
      refine (l1in_any x 1 n false (unhide HB2) _).mono ?_
      rintro e w2 ⟨rfl, rfl⟩
      go_wp2
      go_ret2
      exact GivesIB.mk _ hm (hb1.alloc hb1.size _)
    | true =>
      rw [wplR_yes ho, ho]
      have hr := of_decide_eq_true hb2
      obtain ⟨X, rfl, hX⟩ := place_nat' hr
      have hki : ((X + 1 : Nat) : Int) - 1 = (X : Int) := by omega
      rw [show ((X + 1 : Nat) : Int).toNat - 1 = X by omega]
      have hn8 : n ≤ 8 := by omega
      have H1 := hide (fun w' (hb' : Below w.heap.size w w') => l7without_any A n c B zs X w' (h.below hb') (by omega) hX)
      clear h hb ho hl hb2 h8 hr
      go_enter Try.func19, Try.ntmps19
      go_wp2_with fail
      refine (unhide H0).mono ?_
      rintro e w1 ⟨rfl, hd⟩
      have hb1 := hd.below w.heap.size
      have H2 := hide (unhide H1 w1 hb1)
      clear hd H0 H1
      go_wp2_with fail
      refine (l1in_any _ 1 n true (unhide HB2) _).mono ?_
      rintro e w2 ⟨rfl, rfl⟩
      go_wp2_with fail
      refine (unhide H2).mono ?_
      rintro e w3 ⟨A3, c3, rfl, o3, hb3⟩
      have hI := o3.low hb1.size
      have hb4 := below_after hb1 hb3
      clear H2 o3 hb3
      go_wp2
      go_ret2
      exact GivesIB.mk _ hI hb4
/-- The patterns without one of the first k indices, in order. -/
def lowK (p : List Int) (k : Nat) : List (List Int) := ((List.range k).map fun i => patL (cutAt p i)).foldl putL []
theorem lowK_step (p : List Int) (k : Nat) : lowK p (k + 1) = putL (lowK p k) (patL (cutAt p k)) := by
  unfold lowK
  rw [List.range_succ, List.map_append, List.foldl_append]; rfl
theorem lowK_all {p : List Int} (hp : isP p = true) : ∀ k, ∀ z ∈ lowK p k, isP z = true
  | 0, z, hz => by simp [lowK] at hz
  | k + 1, z, hz => by
    rw [lowK_step, mem_putL] at hz
    rcases hz with hz | rfl
    · exact lowK_all hp k z hz
    · exact cutAt_isP hp k
theorem lowK_len (p : List Int) : ∀ k, (lowK p k).length ≤ k
  | 0 => by simp [lowK]
  | k + 1 => by
    have h1 := lowK_len p k
    have h2 := (putL_len (lowK p k) (patL (cutAt p k))).2
    rw [lowK_step]; omega
def lowR (p : List Int) : List (List Int) := if isP p then lowK p p.length else []
theorem lowR_yes {p : List Int} (h : isP p = true) : lowR p = lowK p p.length := by unfold lowR; rw [if_pos h]
theorem lowR_no {p : List Int} (h : isP p = false) : lowR p = [] := by unfold lowR; rw [if_neg (by simp [h])]
theorem lput_start (w : World) : PutS (w.alloc (.cells #[] 24)) w.heap.size (.slice (some ⟨w.heap.size, 0, none⟩) 0 0) [] := ⟨IntsS.made0 w w.heap.size (Nat.le_refl _), _, _, rfl⟩
theorem lput_below {w w' : World} {B : Nat} {v : Value} {zss : List (List Int)} (h : PutS w B v zss) (hb : Below w.heap.size w w') : PutS w' B v zss := ⟨h.1.below hb, h.2⟩
set_option maxHeartbeats 800000 in
theorem slow_any (A : Option Addr) (n c B : Nat) (zs : List Int) (w : World) (h : Arg w B A n c zs) :
    Calls Try.prog 31 #[.slice A n c] w (GivesSS w (lowR zs)) := by
  have hl := h.len
  obtain ⟨b, hb⟩ : ∃ b, isP zs = b := ⟨_, rfl⟩
  have H0 := hide (fun w' (hb' : Below w.heap.size w w') => sisperm_any A n c B zs b hb w' (h.below hb').reads h.le h.cap)
  have hst := lput_start w
  have hbel := (Below.refl w.heap.size w).alloc (Nat.le_refl _) (.cells #[] 24)
  cases b with
  | false =>
    rw [lowR_no hb]
    by_cases hn : 0 < n
    · have hn0 : (0 : Int) < (n : Int) := by omega
      have H1 := hide (unhide H0 _ hbel)
      clear h hb hl H0
      go_enter Try.func31, Try.ntmps31
      go_wp2
      go_loopw [3, 4] (fun v i wr => v = .slice (some ⟨w.heap.size, 0, none⟩) 0 0 ∧ i = .int .i64 0 ∧ wr = w.alloc (.cells #[] 24)) (fun _ _ _ => 0)
      case atStart => exact ⟨rfl, rfl, rfl⟩
      case round =>
        obtain ⟨rfl, rfl, rfl⟩ := hrel
        go_wp2_with fail
        refine (unhide H1).mono ?_
        rintro e w2 ⟨rfl, hd⟩
        have hst2 := lput_below hst (hd.below _)
        have hb2 := below_after hbel (hd.below _)
        clear H1 hst hbel hd
        go_wp2
        go_ret
        exact GivesSS.mk hst2.1 hb2
    · exfalso
      have : zs = [] := List.eq_nil_of_length_eq_zero (by omega)
      subst this
      cases hb
  | true =>
    have h8 := isP_le hb
    have hn8 : n ≤ 8 := by omega
    rw [lowR_yes hb, hl]
    have HA := hide (fun k => lowK_all hb k)
    have HB := hide (fun k => cutAt_isP hb k)
    have HL := hide hl
    clear hb hl h8
    go_enter Try.func31, Try.ntmps31
    go_wp2
    go_loopw [3, 4] (fun v i wr => ∃ k : Nat, k ≤ n ∧ i = .int .i64 k ∧ Below w.heap.size w wr ∧ PutS wr w.heap.size v (lowK zs k)) (fun _ i _ => n - (intOf i).toNat)
    case atStart => exact ⟨0, Nat.zero_le _, rfl, hbel, hst⟩
    case round =>
      obtain ⟨k, hk, rfl, hbw, hP⟩ := hrel
      clear hst hbel
      obtain ⟨g, cap, rfl⟩ := hP.2
      by_cases hlt : k < n
      · have H1 := hide (unhide H0 wr hbw)
        go_wp2_with fail
        refine (unhide H1).mono ?_
        rintro e w2 ⟨rfl, hd⟩
        have hP2 := lput_below hP (hd.below _)
        have hb2 := hbw.trans (hd.below _)
        have H2 := hide (l7without_any A n c B zs k w2 (h.below hb2) hn8 hlt)
        clear H1 hd hP hbw
        go_wp2_with fail
        refine (unhide H2).mono ?_
        rintro e w3 ⟨A3, c3, rfl, o3, hb3⟩
        have hP3 := lput_below hP2 hb3
        have hb4 := below_after hb2 hb3
        have hlen : (lowK zs k).length ≤ 1048576 := by have := lowK_len zs k; omega
        have H3 := hide (l3put_any w.heap.size (lowK zs k) g (lowK zs k).length cap A3 (patL (cutAt zs k)).length c3 w3.heap.size (patL (cutAt zs k)) w3 hP3.1 (o3.argP (unhide HB k)) hb4.size (unhide HA k) hlen)
        rw [← lowK_step] at H3
        clear H2 hP2 o3 hb3 hP3 hlen hb2
        go_wp2_with fail
        refine (unhide H3).mono ?_
        rintro e w4 ⟨v4, rfl, hS4, hb5, _⟩
        have hb6 := hb4.trans hb5
        clear H3 hb5 hb4
        go_wp2
        go_roundw
        case rel => exact ⟨k + 1, by omega, by go_num, hb6, hS4⟩
        case measure => simp [intOf]; omega
      · obtain rfl : n = k := by omega
        go_wp2
        go_ret
        exact GivesSS.mk hP.1 hbw
end Go.Proofs.Ytichenjbkclljaa
