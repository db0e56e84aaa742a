/-
  Words and contracts that the laws lean on, bundled: Rev, Turn, Ident, Layer, End, Strs.
-/
import Derived.Test.YtoiipedomgefaaaB2
import Derived.Test.YtoiipedomgefaaaB1
import Derived.Lib.SliceRun
import Derived.Test.YtoiipedomgefaaaShelfR
import Derived.Sort.OwnSortedInts
import Derived.Test.YtoiipedomgefaaaProg
import Derived.Test.YtoiipedomgefaaaB3
import Derived.Deep.RegionHeld3
import Derived.Test.YtoiipedomgefaaaRows
import Derived.ProofKit
import Derived.OpenShut
import Derived.Carry
import Derived.SliceStrings
import Derived.WalkKit
import Derived.Deep.QuietTactic
import Derived.BigQuiet

/-
  spec.l3Reverse, spec.l3Complement, spec.ReversePerm, spec.ComplementPerm; slices.Clone, impl.ComplementPerm, by their contracts.
-/

namespace Go.Proofs.Ytoiipedomgefaaa
set_option maxRecDepth 100000
open Go.RowKit

theorem rev_step {zs : List Int} {k : Nat} {z : Int} (h : zs[k]? = some z) : (zs.drop k).reverse = (zs.drop (k + 1)).reverse ++ [z] := by
  have hk : k < zs.length := (List.getElem?_eq_some_iff.1 h).1
  rw [List.drop_eq_getElem_cons hk, List.reverse_cons]
  rw [List.getElem?_eq_getElem hk] at h
  rw [Option.some.inj h]
theorem i64_snoc (xs : List Int) (z : Int) : i64s xs ++ [Value.int .i64 z] = i64s (xs ++ [z]) := by unfold i64s; simp
set_option maxHeartbeats 400000 in
theorem l3rev_any (A : Option Addr) (n c B : Nat) (zs : List Int) (w : World) (h : Arg w B A n c zs) :
    Calls Try.prog 38 #[.slice A n c] w (GivesI w zs.reverse) := by
  obtain ⟨i0, hi, hz0, hz1, hz2⟩ := info_parts intInfo
  have hl := h.len
  have hr := h.reads
  have hB := h.under
  have hn := h.le
  have HL := hide hl
  have hst := own0 w w.heap.size (Nat.le_refl _)
  have hbel := (Below.refl w.heap.size w).alloc (Nat.le_refl _) (.cells #[] 3)
  clear h hl
  go_enter Try.func38, Try.ntmps38
  go_wp2
  go_loopw [3, 4] (fun v i wr => ∃ k : Nat, k ≤ n ∧ i = .int .i64 ((k : Int) - 1) ∧ Below w.heap.size w wr ∧ wr.ownsRow w.heap.size 3 1 v (n - k) (i64s (zs.drop k).reverse)) (fun _ i _ => (intOf i + 1).toNat)
  case atStart =>
    refine ⟨n, Nat.le_refl _, rfl, hbel, ?_⟩
    rw [Nat.sub_self, List.drop_of_length_le (by rw [unhide HL]; exact Nat.le_refl _)]
    exact hst
  case round =>
    obtain ⟨k, hk, rfl, hbw, hown⟩ := hrel
    clear hst hbel
    cases k with
    | succ k =>
      obtain ⟨ad, u, rfl, had, hu, hc⟩ := ((hr.more hB).below hbw).at_ (show k < n by omega)
      obtain ⟨z, hz, rfl⟩ := i64_at hu
      have hstep := hide (rev_step hz)
      have hi1 : (((k + 1 : Nat) : Int) - 1) = (k : Int) := by omega
      have hnk : n - (k + 1) + 1 = n - k := by omega
      rw [hi1]
      clear hu hz hi1
      go_wp2_with (first
        | (at_builtin; refine wpList_append_one rfl (.tmp 13) (.tmp 18) 24 rfl w.heap.size 3 i0 (.int .i64 0) 8 Try.underlying24 hi hz0 hz1 hz2 rfl w wr _ _ _ rfl hown (.int .i64 z) rfl rfl rfl (by omega) (by simp only [maxLen]; omega) hbw hbw.size ?_; intro v2 w2 hown2 hb2 hg2; clear hg2))
      rw [i64_snoc, ← unhide hstep, hnk] at hown2
      clear hown hbw hstep
      go_roundw
      case rel => exact ⟨k, by omega, by go_num, hb2, hown2⟩
      case measure => simp [intOf]
    | zero =>
      have hI : Ints wr w.heap.size u3 zs.reverse := by
        have h := hown
        rw [Nat.sub_zero, List.drop_zero, ← unhide HL] at h
        rw [← List.length_reverse] at h
        exact Ints.of_own h
      clear hown
      go_wp2
      go_ret
      exact GivesI.mk hI hbw
set_option maxHeartbeats 400000 in
theorem l3cpl_any (A : Option Addr) (n c B : Nat) (zs : List Int) (w : World) (h : Arg w B A n c zs) (hp : isP zs = true) :
    Calls Try.prog 44 #[.slice A n c] w (GivesI w (cplL zs)) := by
  obtain ⟨i0, hi, hz0, hz1, hz2⟩ := info_parts intInfo
  have hl := h.len
  have hr := h.reads
  have hB := h.under
  have hn8 : n ≤ 8 := by have := isP_le hp; omega
  have HP := hide (fun k z hz => isP_range hp (k := k) (z := z) hz)
  have HL := hide hl
  have hst := own0 w w.heap.size (Nat.le_refl _)
  have hbel := (Below.refl w.heap.size w).alloc (Nat.le_refl _) (.cells #[] 3)
  clear h hl hp
  go_enter Try.func44, Try.ntmps44
  go_wp2
  go_loopw [3, 4] (fun v i wr => ∃ k : Nat, k ≤ n ∧ i = .int .i64 k ∧ Below w.heap.size w wr ∧ wr.ownsRow w.heap.size 3 1 v k (i64s ((cplL zs).take k))) (fun _ i _ => n - (intOf i).toNat)
  case atStart => exact ⟨0, Nat.zero_le _, rfl, hbel, hst⟩
  case round =>
    obtain ⟨k, hk, rfl, hbw, hown⟩ := hrel
    clear hst hbel
    by_cases hlt : k < n
    · obtain ⟨ad, u, rfl, had, hu, hc⟩ := ((hr.more hB).below hbw).at_ hlt
      obtain ⟨z, hz, rfl⟩ := i64_at hu
      obtain ⟨hz1', hz2'⟩ := unhide HP k z hz
      have hst := cplL_at hz
      rw [unhide HL] at hz2' hst
      have hstep := hide (take_snoc_i hst)
      clear hu hz hst
      go_wp2_with (first
        | (at_builtin; refine wpList_append_one rfl (.tmp 12) (.tmp 21) 24 rfl w.heap.size 3 i0 (.int .i64 0) 8 Try.underlying24 hi hz0 hz1 hz2 rfl w wr _ _ _ rfl hown (.int .i64 ((n : Int) + 1 - z)) rfl rfl rfl (by omega) (by simp only [maxLen]; omega) hbw hbw.size ?_; intro v2 w2 hown2 hb2 hg2; clear hg2))
      rw [i64_snoc, ← unhide hstep] at hown2
      clear hown hbw hstep
      go_roundw
      case rel => exact ⟨k + 1, by omega, by go_num, hb2, hown2⟩
      case measure => simp [intOf]; omega
    · obtain rfl : n = k := by omega
      have hI : Ints wr w.heap.size u3 (cplL zs) := by
        have h := hown
        rw [List.take_of_length_le (by rw [cplL_length, unhide HL]; exact Nat.le_refl _), ← unhide HL, ← cplL_length zs] at h
        exact Ints.of_own h
      clear hown
      go_wp2
      go_ret
      exact GivesI.mk hI hbw
set_option maxHeartbeats 400000 in
theorem clone_any (A : Option Addr) (n c B : Nat) (zs : List Int) (w : World) (h : Arg w B A n c zs) :
    Calls Try.prog 60 #[.slice A n c] w (GivesI w zs) := by
  obtain ⟨i0, hi, hz0, hz1, hz2⟩ := info_parts intInfo
  have hl := h.len
  have hn := h.le
  have hr := h.reads
  have q22 : ∀ (w : World) (a : Option Addr) (n c n' c' : Nat), (binOp .eql 24 (.slice a n c) (.slice none n' c')).run Try.prog w = .ok (.bool a.isNone) w := fun w a n c n' c' => Lib.run_eql_slice_nil w _ _ a n c n' c' Try.underlying24
  cases A with
  | none =>
    obtain rfl : n = 0 := by
      by_cases h0 : 0 < n
      · obtain ⟨ad, he, _⟩ := hr.2 h0
        cases he
      · omega
    obtain rfl := List.eq_nil_of_length_eq_zero hl
    clear h hr hl
    go_enter Try.func60, Try.ntmps60
    go_wp2
    go_ret
    exact GivesI.mk (Ints.nil _ _) (Below.refl _ _)
  | some ad =>
    have hcl : ∀ j u, (i64s zs)[j]? = some u → w.cell? (ad.add j) = some u := fun j u hu => by
      have hj : j < n := by have := (List.getElem?_eq_some_iff.1 hu).1; rw [i64_length, hl] at this; exact this
      obtain ⟨ad', he, _, hc⟩ := hr.2 (by omega)
      injection he with he
      subst he
      exact hc j u hu
    have hbl : 0 < n → ad.block < w.heap.size := fun h0 => by
      obtain ⟨ad', he, hb', _⟩ := hr.2 h0
      injection he with he
      subst he
      exact Nat.lt_of_lt_of_le hb' h.under
    have hcl2 : ∀ j u, (i64s zs)[j]? = some u → (w.alloc (.cells #[] 3)).cell? (ad.add j) = some u := fun j u hu => by
      have hj : j < n := by have := (List.getElem?_eq_some_iff.1 hu).1; rw [i64_length, hl] at this; exact this
      rw [World.cell?_alloc_lt]
      · exact hcl j u hu
      · rw [block_of_add]; exact hbl (by omega)
    have hone : ∀ u ∈ i64s zs, u.oneCell' = true := fun u hu => by
      unfold i64s at hu
      obtain ⟨z, _, rfl⟩ := List.mem_map.1 hu
      rfl
    have hln : (i64s zs).length = n * 1 := by rw [i64_length, hl]; omega
    have HCL := hide hcl2
    have HONE := hide hone
    have HLN := hide hln
    have HL := hide hl
    have hst := own0 w w.heap.size (Nat.le_refl _)
    have hbel := (Below.refl w.heap.size w).alloc (Nat.le_refl _) (.cells #[] 3)
    clear h hr hl hcl hcl2 hbl hone hln
    go_enter Try.func60, Try.ntmps60
    go_wp2_with (at_builtin; refine wpList_append_own _ rfl (.tmp 5) (.tmp 6) 24 rfl w.heap.size 3 i0 (.int .i64 0) 1 8 Try.underlying24 hi hz0 hz1 hz2 rfl (by decide) _ _ _ rfl hst ad n c (i64s zs) rfl ?_ ?_ ?_ ?_ ?_ ?_ ?_)
    · exact unhide HLN
    · exact unhide HCL
    · exact unhide HONE
    · unfold maxLen; omega
    · omega
    · simp
    intro v1 w1 hown1 hg1 _
    have hb1 : Below w.heap.size w w1 := hbel.grown hg1 (by simp) (fun q hq => by simp [Value.ownBlock] at hq; omega)
    have hI : Ints w1 w.heap.size v1 zs := by
      have h := hown1
      rw [← unhide HL] at h
      exact Ints.of_own h
    clear hg1 hown1
    go_wp2
    go_ret
    exact GivesI.mk hI hb1
set_option maxHeartbeats 400000 in
theorem icpl_any (A : Option Addr) (n c B : Nat) (zs : List Int) (w : World) (h : Arg w B A n c zs) :
    Calls Try.prog 31 #[.slice A n c] w (GivesI w (cplR zs)) := by
  obtain ⟨b, hb⟩ : ∃ b, isP zs = b := ⟨_, rfl⟩
  have H1 := hide (iisperm_any A n c B zs b hb w h.reads h.under h.le h.small)
  cases b with
  | false =>
    rw [cplR_no hb]
    clear hb h
    go_enter Try.func31, Try.ntmps31
    go_wp2_with fail
    refine (unhide H1).mono ?_
    rintro e w1 ⟨rfl, hb⟩
    clear H1
    go_wp2
    go_ret
    exact GivesI.mk (v := .slice none 0 0) (Ints.nil _ _) hb
  | true =>
    rw [cplR_yes hb]
    obtain ⟨i0, hi, hz0, hz1, hz2⟩ := info_parts intInfo
    have hl := h.len
    have hr := h.reads
    have hB := h.under
    have hn8 : n ≤ 8 := by have := isP_le hb; omega
    have HL := hide hl
    have HP := hide (fun k z hz => isP_range hb (k := k) (z := z) hz)
    clear hl h hb
    go_enter Try.func31, Try.ntmps31
    go_wp2_with fail
    refine (unhide H1).mono ?_
    rintro e w0 ⟨rfl, hb0⟩
    have hs0 := hb0.size
    clear H1
    go_wp2_with (first
      | (at_make; refine wpList_make_full _ rfl (.tmp 10) (.tmp 10) 24 rfl w.heap.size 3 i0 (.int .i64 0) 1 Try.underlying24 hi hz0 hz1 _ _ _ _ n rfl rfl (by first | rfl | omega) (by first | rfl | omega) (by rw [hz2]; omega) (by unfold maxLen; omega) hs0 ?_; intro w1 hown hg))
    have hb1 := hb0.grown hg hs0 (by simp)
    clear hg hb0
    obtain ⟨g, hg⟩ : ∃ g, g = w0.heap.size := ⟨_, rfl⟩
    rw [← hg] at hown ⊢
    clear hg hs0
    go_loopw [4, 5, 14] (fun _ _ i wr => ∃ (k : Nat) (xs : List Value), k ≤ n ∧ i = .int .i64 k ∧ Below w.heap.size w wr ∧ wr.ownsRow w.heap.size 3 1 (.slice (some ⟨g, 0, none⟩) n n) n xs ∧ Hid (xs.take k = (i64s (cplL zs)).take k)) (fun _ _ i _ => n - (intOf i).toNat)
    case atStart => exact ⟨0, _, Nat.zero_le _, rfl, hb1, hown, by exact rfl⟩
    case round =>
      obtain ⟨k, xs, hk, rfl, hb, hown', hx⟩ := hrel
      clear hown hb1
      have hlx : xs.length = n := by simpa using hown'.1
      by_cases hlt : k < n
      · obtain ⟨ad, u, rfl, had, hu, hc⟩ := ((hr.more hB).below hb).at_ hlt
        obtain ⟨z, hz, rfl⟩ := i64_at hu
        obtain ⟨hz1', hz2'⟩ := unhide HP k z hz
        have hst := cplL_at hz
        rw [unhide HL] at hz2' hst
        obtain ⟨old, hold⟩ : ∃ old, wr.cell? ⟨g, k, none⟩ = some old := ⟨_, by rw [hown'.cellAt k (by omega)]; exact List.getElem?_eq_getElem (by omega)⟩
        have hfz := hown'.frozenAt k
        have ho2 := (hown'.stored k (.int .i64 ((n : Int) + 1 - z))).1
        have hb2 := below_set_i hb hown' k (.int .i64 ((n : Int) + 1 - z))
        have hnext := hide (take_set_i (unhide hx) (i64_get hst) (by omega))
        clear hu hz hst hx hown' hb hlx
        go_wp2
        go_roundw
        case rel => exact ⟨k + 1, _, by omega, by go_num, hb2, ho2, hnext⟩
        case measure => simp [intOf]; omega
      · obtain rfl : n = k := by omega
        have hE : xs = i64s (cplL zs) := by
          have h := unhide hx
          rwa [List.take_of_length_le (by omega), List.take_of_length_le (by rw [i64_length, cplL_length, unhide HL]; exact Nat.le_refl _)] at h
        subst hE
        have hI : Ints wr w.heap.size (.slice (some ⟨g, 0, none⟩) n n) (cplL zs) := by
          have h := hown'
          rw [← unhide HL, ← cplL_length zs] at h ⊢
          exact Ints.of_own h
        clear hown' hx hlx
        go_wp2
        go_ret
        exact GivesI.mk hI hb
end Go.Proofs.Ytoiipedomgefaaa


/-
  impl.ReversePerm, by its contract.
-/

namespace Go.Proofs.Ytoiipedomgefaaa
set_option maxRecDepth 100000
open Go.RowKit

/-- A row on which other numbers have been laid. -/
theorem Ints.laid {w : World} {B g n cap : Nat} {zs : List Int} (h : Ints w B (.slice (some ⟨g, 0, none⟩) n cap) zs) (ts : List Int) (hl : ts.length = zs.length) (k : Nat) :
    Ints (Sort.putRow (Value.int .i64) (Sort.ahead w k) g 0 ts.toArray) B (.slice (some ⟨g, 0, none⟩) n cap) ts ∧ w.grownBy (Sort.putRow (Value.int .i64) (Sort.ahead w k) g 0 ts.toArray) (some g) := by
  have hg := grownBy_sortedI (w := w) (g := g) (n := k) (os := #[]) ts.toArray
  rw [Sort.grow_empty] at hg
  refine ⟨?_, hg⟩
  have hn := h.len
  rcases h.2 with ⟨hv, _⟩ | ⟨g', cap', cur, e, hv, hb, hgg, hs, ht, he⟩
  · cases hv
  · injection hv with h1 h2 h3
    injection h1 with h1
    injection h1 with h1
    subst h1; subst h3
    have hh := heap_sortedI (w := w) (g := g) (n := k) (os := #[]) ts.toArray hgg
    rw [Sort.grow_empty] at hh
    refine ⟨by rw [i64_length], .inr ⟨g, cap, _, e, by rw [hl, ← hn], hb, hh, ⟨by omega, by unfold Sort.putCells; rw [Array.size_mapIdx]; omega⟩, ?_, he⟩⟩
    exact take_putCellsI cur ts (by omega)
theorem Ints.holds {w : World} {B g n cap : Nat} {zs : List Int} (h : Ints w B (.slice (some ⟨g, 0, none⟩) n cap) zs) : Sort.Holds (Value.int .i64) w g 0 zs.toArray := by
  rcases h.2 with ⟨hv, _⟩ | ⟨g', cap', cur, e, hv, hb, hgg, hs, ht, he⟩
  · cases hv
  · injection hv with h1 h2 h3
    injection h1 with h1
    injection h1 with h1
    subst h1
    exact holds_of_blockI hgg ht
set_option maxHeartbeats 400000 in
theorem irev_any (A : Option Addr) (n c B : Nat) (zs : List Int) (w : World) (h : Arg w B A n c zs) :
    Calls Try.prog 57 #[.slice A n c] w (GivesI w (revR zs)) := by
  obtain ⟨b, hb⟩ : ∃ b, isP zs = b := ⟨_, rfl⟩
  have H1 := hide (iisperm_any A n c B zs b hb w h.reads h.under h.le h.small)
  cases b with
  | false =>
    rw [revR_no hb]
    clear hb h
    go_enter Try.func57, Try.ntmps57
    go_wp2_with fail
    refine (unhide H1).mono ?_
    rintro e w1 ⟨rfl, hb⟩
    clear H1
    go_wp2
    go_ret
    exact GivesI.mk (v := .slice none 0 0) (Ints.nil _ _) hb
  | true =>
    rw [revR_yes hb]
    have h8 := isP_le hb
    have H2 := hide (fun w' (hb' : Below w.heap.size w w') => clone_any A n c B zs w' (h.below hb'))
    clear hb h
    go_enter Try.func57, Try.ntmps57
    go_wp2_with fail
    refine (unhide H1).mono ?_
    rintro e w1 ⟨rfl, hb⟩
    have H3 := hide (unhide H2 w1 hb)
    clear H1 H2
    go_wp2_with fail
    refine (unhide H3).mono ?_
    rintro e w2 ⟨A2, c2, rfl, own2, hb2⟩
    have hs := hb.size
    have hb3 := below_after hb hb2
    clear H3 hb hb2
    have own2 := own2.low hs
    rcases own2.2 with ⟨hv, h0⟩ | ⟨g, cap, cur, e, hv, hg, _⟩
    · injection hv with e1 e2 e3
      subst e1; subst e3
      obtain rfl := List.eq_nil_of_length_eq_zero h0
      have H4 := hide (Try.slices_Reverse_int_empty none 0 w2)
      clear h0 own2
      go_wp2_with fail
      refine (unhide H4).mono ?_
      rintro e w3 ⟨rfl, hw3⟩
      rw [hw3]
      clear hw3 H4
      go_wp2
      go_ret
      exact GivesI.mk (v := .slice none 0 0) (Ints.nil _ _) hb3
    · injection hv with e1 e2 e3
      subst e1; subst e3
      have H4 := hide (Try.slices_Reverse_int g 0 c2 zs w2 own2.holds (by omega))
      have L := hide (fun k => own2.laid zs.reverse (by rw [List.length_reverse]) k)
      have hB := hb3.size
      have hgs := own2.since
      clear own2
      go_wp2_with fail
      refine (unhide H4).mono ?_
      rintro e w3 ⟨rfl, k, hw3⟩
      obtain ⟨l1, l2⟩ := unhide L k
      rw [← hw3] at l1 l2
      have hb4 := hb3.grown l2 hB (fun q hq => hgs q (by rw [← hq]; rfl))
      clear hw3 H4 L hb3
      go_wp2
      go_ret
      exact GivesI.mk l1 hb4
end Go.Proofs.Ytoiipedomgefaaa


/-
  spec.IdentityPerm and impl.IdentityPerm, by their contracts.
-/

namespace Go.Proofs.Ytoiipedomgefaaa
set_option maxRecDepth 100000
open Go.RowKit

theorem Ints.of_whole {w : World} {g B n c : Nat} {t : TypeId} (ht : t ≠ 24) {l : List Int} (hg : Whole w g t (arr l)) (hB : B ≤ g) (hn : n ≤ l.length) (hnc : n ≤ c) : Ints w B (.slice (some ⟨g, 0, none⟩) n c) (l.take n) := by
  have hl : (l.take n).length = n := by rw [List.length_take]; omega
  unfold Ints
  rw [hl]
  refine ⟨by rw [i64_length, hl], .inr ⟨g, c, arr l, t, rfl, hB, hg, ⟨hnc, by rw [arr_size]; exact hn⟩, ?_, ht⟩⟩
  unfold arr i64s
  rw [List.map_take]

set_option maxRecDepth 100000 in
set_option maxHeartbeats 400000 in
theorem sid_any (m : Int) (hm : -9223372036854775808 ≤ m ∧ m ≤ 9223372036854775807) (w : World) :
    Calls Try.prog 39 #[.int .i64 m] w (GivesI w (idR m)) := by
  obtain ⟨i0, hi, hz0, hz1, hz2⟩ := info_parts intInfo
  obtain ⟨hm1, hm2⟩ := hm
  have hst := own0 w w.heap.size (Nat.le_refl _)
  have hbel := (Below.refl w.heap.size w).alloc (Nat.le_refl _) (.cells #[] 3)
  by_cases hin : 1 ≤ m ∧ m ≤ 8
  · rw [idR_yes hin.1 hin.2]
    obtain ⟨n, rfl⟩ : ∃ n : Nat, m = (n : Int) := ⟨m.toNat, by omega⟩
    have hn8 : n ≤ 8 := by omega
    clear hin hm1 hm2
    rw [Int.toNat_natCast]
    have h8b : decide ((n : Int) ≤ 8) = true := by simp; omega
    go_enter Try.func39, Try.ntmps39
    go_wp2
    go_loopw [3, 4] (fun v i wr => ∃ k : Nat, k ≤ n ∧ i = .int .i64 ((k : Int) + 1) ∧ Below w.heap.size w wr ∧ wr.ownsRow w.heap.size 3 1 v k (i64s (upTo k))) (fun _ i _ => n + 1 - (intOf i).toNat)
    case atStart => exact ⟨0, Nat.zero_le _, rfl, hbel, hst⟩
    case round =>
      obtain ⟨k, hk, rfl, hbw, hown⟩ := hrel
      clear hst hbel
      by_cases hlt : k < n
      · have hlt' : (k : Int) + 1 ≤ (n : Int) := by omega
        have e : i64s (upTo k) ++ [.int .i64 ((k : Int) + 1)] = i64s (upTo (k + 1)) := by rw [upTo_step]; unfold i64s; simp
        have HE := hide e
        clear e
        go_wp2_with (first
          | (at_builtin; refine wpList_append_one rfl (.tmp 15) (.tmp 17) 24 rfl w.heap.size 3 i0 (.int .i64 0) 8 Try.underlying24 hi hz0 hz1 hz2 rfl w wr _ _ _ rfl hown (.int .i64 ((k : Int) + 1)) rfl rfl rfl (by omega) (by simp only [maxLen]; omega) hbw hbw.size ?_; intro v2 w2 hown2 hb2 hg2; clear hg2))
        rw [unhide HE] at hown2
        clear hown hbw HE
        go_roundw
        case rel => exact ⟨k + 1, by omega, by go_num, hb2, hown2⟩
        case measure => simp [intOf]; omega
      · obtain rfl : n = k := by omega
        have hlt' : ¬ ((n : Int) + 1 ≤ (n : Int)) := by omega
        have hI : Ints wr w.heap.size u3 (upTo n) := Ints.of_own hown
        clear hown
        go_wp2
        go_ret
        exact GivesI.mk hI hbw
  · rw [idR_no hin]
    have hI := Ints.made0 w w.heap.size (Nat.le_refl _)
    by_cases h1 : 1 ≤ m
    · have h8 : 8 < m := by omega
      have h8b : decide (m ≤ 8) = false := by simp; omega
      clear hin hst
      go_enter Try.func39, Try.ntmps39
      go_wp2
      go_loopw [3, 4] (fun v i wr => i = .int .i64 1 ∧ v = .slice (some ⟨w.heap.size, 0, none⟩) 0 0 ∧ wr = w.alloc (.cells #[] 3)) (fun _ _ _ => 0)
      case atStart => exact ⟨rfl, rfl, rfl⟩
      case round =>
        obtain ⟨rfl, rfl, rfl⟩ := hrel
        go_wp2
        go_ret
        exact GivesI.mk hI hbel
    · have h1' : m < 1 := by omega
      clear hin hst
      go_enter Try.func39, Try.ntmps39
      go_wp2
      go_loopw [3, 4] (fun v i wr => i = .int .i64 1 ∧ v = .slice (some ⟨w.heap.size, 0, none⟩) 0 0 ∧ wr = w.alloc (.cells #[] 3)) (fun _ _ _ => 0)
      case atStart => exact ⟨rfl, rfl, rfl⟩
      case round =>
        obtain ⟨rfl, rfl, rfl⟩ := hrel
        go_wp2
        go_ret
        exact GivesI.mk hI hbel

end Go.Proofs.Ytoiipedomgefaaa


/-
  cmp.isNaN, cmp.Less, slices.IsSorted; spec.IsLayered, impl.IsLayered, by their contracts.
-/

namespace Go.Proofs.Ytoiipedomgefaaa
set_option maxRecDepth 100000
open Go.RowKit

theorem isP_upTo {n : Nat} (h : n ≤ 8) : isP (upTo n) = true := isP_true.2 ⟨by rw [upTo_length]; exact h, fun x hx => by rw [upTo_length]; exact mem_upTo.1 hx, upTo_nodup n⟩
theorem idR_nat {n : Nat} (h : n ≤ 8) : idR (n : Int) = upTo n := by
  by_cases h1 : 1 ≤ n
  · rw [idR_yes (by omega) (by omega)]; congr 1
  · obtain rfl : n = 0 := by omega
    rfl
theorem nan_any (a : Int) (w : World) : Calls Try.prog 62 #[.int .i64 a] w fun e w' => e = .returned (.bool false) ∧ w' = w := by
  go_enter Try.func62, Try.ntmps62
  go_wp2
  go_ret
  exact ⟨rfl, rfl⟩
theorem less2_any (a b : Int) (w : World) : Calls Try.prog 59 #[.int .i64 a, .int .i64 b] w fun e w' => e = .returned (.bool (decide (a < b))) ∧ w' = w := by
  go_enter Try.func59, Try.ntmps59
  go_wp2_with fail
  refine (nan_any _ _).mono ?_
  rintro e w1 ⟨rfl, rfl⟩
  go_wp2
  go_ret
  exact ⟨rfl, rfl⟩
/-- The places that slices.IsSorted looks at, from the end down to k. -/
def ascFrom (l : List Int) (k : Nat) : Prop := ∀ i, k ≤ i → i + 1 < l.length → at0 l i ≤ at0 l (i + 1)
def ascB (l : List Int) : Bool := decide (∀ i, i < l.length → i + 1 < l.length → at0 l i ≤ at0 l (i + 1))
theorem ascB_yes {l : List Int} (h : ascFrom l 0) : ascB l = true := by unfold ascB; rw [decide_eq_true_iff]; exact fun i _ h2 => h i (Nat.zero_le _) h2
theorem ascB_no {l : List Int} {i : Nat} (h : i + 1 < l.length) (h2 : at0 l (i + 1) < at0 l i) : ascB l = false := by
  unfold ascB; rw [decide_eq_false_iff_not]
  intro h3
  have := h3 i (by omega) h
  omega
theorem ascB_upTo {l : List Int} (h : isP l = true) : ascB l = decide (l = upTo l.length) := by
  by_cases e : l = upTo l.length
  · rw [decide_eq_true e]
    refine ascB_yes fun i _ hi => ?_
    have h1 : ∀ j, j < l.length → at0 l j = (j : Int) + 1 := fun j hj => by
      refine at0_of ?_
      rw [e]
      unfold upTo
      rw [List.getElem?_map, List.getElem?_range hj]
      rfl
    rw [h1 i (by omega), h1 (i + 1) hi]
    omega
  · rw [decide_eq_false e]
    unfold ascB; rw [decide_eq_false_iff_not]
    exact fun h3 => e (asc_upTo h fun i hi => h3 i (by omega) hi)

set_option maxHeartbeats 400000 in
theorem sorted_any (A : Option Addr) (n c B : Nat) (zs : List Int) (w : World) (h : Arg w B A n c zs) :
    Calls Try.prog 56 #[.slice A n c] w fun e w' => e = .returned (.bool (ascB zs)) ∧ Drew w w' := by
  have hl := h.len
  have hr := h.reads
  have hn := h.le
  have HL := hide hl
  clear h hl
  go_enter Try.func56, Try.ntmps56
  go_wp2
  go_loopw [3] (fun i wr => ∃ k : Nat, (k ≤ n) ∧ i = .int .i64 ((k : Int) - 1) ∧ Drew w wr ∧ Hid (ascFrom zs (k - 1))) (fun i _ => (intOf i).toNat)
  case atStart => exact ⟨n, Nat.le_refl _, rfl, Drew.refl _, fun i h1 h2 => by have := unhide HL; omega⟩
  case round =>
    obtain ⟨k, hk, rfl, hd, hs⟩ := hrel
    by_cases hk1 : 1 < k
    · obtain ⟨k, rfl⟩ : ∃ k', k = k' + 2 := ⟨k - 2, by omega⟩
      obtain ⟨ad, u, rfl, _, hu, hc⟩ := (hr.ofDrew hd).at_ (show k + 1 < n by omega)
      obtain ⟨x, hx, rfl⟩ := i64_at hu
      obtain ⟨ad2, u2, he, _, hu2, hc2⟩ := (hr.ofDrew hd).at_ (show k < n by omega)
      injection he with he
      subst he
      obtain ⟨y, hy, rfl⟩ := i64_at hu2
      have hax := at0_of hx
      have hay := at0_of hy
      clear hu hu2 hx hy
      have hi1 : (((k + 2 : Nat) : Int) - 1) = (k : Int) + 1 := by omega
      have q1 : IntKind.i64.wrap ((k : Int) + 1 - 1) = (k : Int) := by rw [IntKind.wrap_i64]; omega
      have q2 : IntKind.i64.wrap (k : Int) = (k : Int) := by rw [IntKind.wrap_i64]; omega
      have hbd0 : (0 : Int) ≤ (k : Int) + 1 := by omega
      have hbd1 : (k : Int) + 1 < (n : Int) := by omega
      have hbd2 : (k : Int) < (n : Int) := by omega
      have hadd : ad.add (k + 1) = ⟨ad.block, ad.off + (k + 1), none⟩ := by unfold Addr.add; rw [if_neg (by omega)]
      rw [hadd] at hc
      clear hadd
      rw [hi1]
      have HD := hide hd
      have HS := hide hs
      clear hi1 hd hs hr
      by_cases hlt : x < y
      · have hno := hide (ascB_no (l := zs) (i := k) (by rw [unhide HL]; omega) (by rw [hax, hay]; exact hlt))
        clear hax hay
        go_wp2
        go_quiet ((go_at_call 59; exact Calls.quiet_of_same (less2_any _ _ _)))
        go_wp2
        go_ret
        rw [unhide hno]
        exact ⟨rfl, (unhide HD).more _⟩
      · have hnext : Hid (ascFrom zs (k + 1 - 1)) := hide (fun i h1 h2 => by
          by_cases hik : i = k
          · subst hik; rw [hax, hay]; omega
          · exact unhide HS i (by omega) h2)
        clear hax hay
        go_wp2
        go_quiet ((go_at_call 59; exact Calls.quiet_of_same (less2_any _ _ _)))
        go_wp2
        go_roundw
        case rel => exact ⟨k + 1, by omega, by go_num, (unhide HD).more _, hnext⟩
        case measure => simp [intOf]
    · have hyes := hide (ascB_yes (l := zs) (fun i _ h2 => unhide hs i (by omega) h2))
      go_wp2
      go_ret
      rw [unhide hyes]
      exact ⟨rfl, hd⟩

set_option maxHeartbeats 800000 in
theorem idesc_any (A : Option Addr) (n c B : Nat) (z : List Int) (w : World) (h : Arg w B A n c z) (hz : isP z = true) :
    Calls Try.prog 45 #[.slice A n c] w (GivesB w (decide (z.reverse = upTo z.length))) := by
  have hrP := isP_rev hz
  have H4 := hide (irev_any A n c B z w h)
  rw [revR_yes hz] at H4
  have H5 := hide (fun (A : Option Addr) (c B : Nat) (w' : World) (h : Arg w' B A z.reverse.length c z.reverse) => sorted_any A z.reverse.length c B z.reverse w' h)
  rw [ascB_upTo hrP, List.length_reverse] at H5
  have HRP := hide hrP
  obtain ⟨b, hb⟩ : ∃ b, decide (z.reverse = upTo z.length) = b := ⟨_, rfl⟩
  rw [hb] at H5 ⊢
  clear h hz hrP hb
  go_enter Try.func45, Try.ntmps45
  go_wp2_with fail
  refine (unhide H4).mono ?_
  rintro e w3 ⟨A3, c3, rfl, own3, hb3⟩
  rw [List.length_reverse] at own3 ⊢
  have H6 := hide (unhide H5 _ _ _ _ (own3.argP (unhide HRP)))
  clear H4 H5
  go_wp2_with fail
  refine (unhide H6).mono ?_
  rintro e w4 ⟨rfl, hd⟩
  have hb4 := below_after hb3 (hd.below _)
  clear H6 own3 hb3 hd
  go_wp2
  go_ret
  exact ⟨rfl, hb4⟩
set_option maxHeartbeats 800000 in
theorem ilayer_any (A : Option Addr) (n c B : Nat) (zs : List Int) (w : World) (h : Arg w B A n c zs) :
    Calls Try.prog 22 #[.slice A n c] w (GivesB w (layer zs)) := by
  obtain ⟨b, hb⟩ : ∃ b, isP zs = b := ⟨_, rfl⟩
  have H0 := hide (iisperm_any A n c B zs b hb w h.reads h.under h.le h.small)
  cases b with
  | false =>
    rw [layer_no hb]
    clear hb h
    go_enter Try.func22, Try.ntmps22
    go_wp2_with fail
    refine (unhide H0).mono ?_
    rintro e w1 ⟨rfl, hb⟩
    clear H0
    go_wp2
    go_ret
    exact ⟨rfl, hb⟩
  | true =>
    have H1 := hide (fun w' (hb' : Below w.heap.size w w') => iparts_any A n c B zs w' (h.below hb'))
    have hsm := (partsR_small zs).1
    have HA := hide (fun h2 => layer_yes hb h2)
    have HN := hide (fun z (hz : z ∈ partsR zs) h2 => layer_at hz h2)
    obtain ⟨ps, hps⟩ : ∃ ps, ps = partsR zs := ⟨_, rfl⟩
    have hpP : ∀ z ∈ ps, isP z = true := fun z hz => partsR_isP (by rw [← hps]; exact hz)
    rw [← hps] at hsm HA HN
    have HPS := hide hps
    have HPP := hide hpP
    clear hb h hps hpP
    go_enter Try.func22, Try.ntmps22
    go_wp2_with fail
    refine (unhide H0).mono ?_
    rintro e w1 ⟨rfl, hb1⟩
    have H2 := hide (unhide H1 w1 hb1)
    clear H0 H1
    go_wp2_with fail
    refine (unhide H2).mono ?_
    rintro e w2 ⟨A2, c2, rfl, own2, hb2⟩
    clear H2
    have hb3 := below_after hb1 hb2
    have own3 := own2.low hb1.size
    rw [← unhide HPS] at own3 ⊢
    clear own2 hb2 hb1
    go_wp2
    go_loopw [4, 11] (fun _ i wr => ∃ k : Nat, k ≤ ps.length ∧ i = .int .i64 k ∧ Below w.heap.size w wr ∧ IntsS wr w.heap.size (.slice A2 ps.length c2) ps ∧ Hid (∀ z ∈ ps.take k, z.reverse = upTo z.length)) (fun _ i _ => ps.length - (intOf i).toNat)
    case atStart => exact ⟨0, Nat.zero_le _, rfl, hb3, own3, fun z hz => by simp at hz⟩
    case round =>
      obtain ⟨k, hk, rfl, hbw, hL, hP⟩ := hrel
      clear own3 hb3
      by_cases hlt : k < ps.length
      · obtain ⟨ad, A1, c1, z, rfl, hz, hcell, hIz⟩ := hL.at_ hlt
        have hzP := unhide HPP z (List.mem_of_getElem? hz)
        have H4 := hide (idesc_any A1 z.length c1 _ z wr (hIz.argP hzP) hzP)
        have hne := unhide HN z (List.mem_of_getElem? hz)
        by_cases hup : z.reverse = upTo z.length
        · rw [decide_eq_true hup] at H4
          have hnext : Hid (∀ z ∈ ps.take (k + 1), z.reverse = upTo z.length) := hide (fun y hy => by
            rw [take_snoc_r hz] at hy
            rcases List.mem_append.1 hy with h | h
            · exact unhide hP y h
            · rw [List.mem_singleton] at h
              subst h
              exact hup)
          clear hz hIz hzP hne hup hP
          go_wp2_with fail
          refine (unhide H4).mono ?_
          rintro e w4 ⟨rfl, hd⟩
          clear H4
          have hb4 := below_after hbw hd
          have hL4 := hL.below hd
          clear hbw hL hd
          go_wp2
          go_roundw
          case rel => exact ⟨k + 1, by omega, by go_num, hb4, hL4, hnext⟩
          case measure => simp [intOf]; omega
        · rw [decide_eq_false hup] at H4
          have hno := hide (hne hup)
          clear hz hIz hzP hne hup hP
          go_wp2_with fail
          refine (unhide H4).mono ?_
          rintro e w4 ⟨rfl, hd⟩
          clear H4
          have hb4 := below_after hbw hd
          clear hbw hL hd
          go_wp2
          go_ret
          rw [unhide hno]
          exact ⟨rfl, hb4⟩
      · obtain rfl : ps.length = k := by omega
        have hyes := hide (unhide HA (fun z hz => unhide hP z (by rw [List.take_length]; exact hz)))
        clear hL
        go_wp2
        go_ret
        rw [unhide hyes]
        exact ⟨rfl, hbw⟩

theorem Ints.argP' {w : World} {B n c : Nat} {A : Option Addr} {zs : List Int} (h : Ints w B (.slice A n c) zs) (hp : isP zs = true) (_hn : zs.length = n) : Arg w w.heap.size A n c zs := h.argP hp
theorem layer_all {p : List Int} (h : ∀ z ∈ partsR p, z.reverse = upTo z.length) : layer p = isP p := by
  cases hb : isP p with
  | true => exact layer_yes hb h
  | false => exact layer_no hb

set_option maxHeartbeats 1600000 in
theorem slayer_any (A : Option Addr) (n c B : Nat) (zs : List Int) (w : World) (h : Arg w B A n c zs) :
    Calls Try.prog 23 #[.slice A n c] w (GivesB w (layer zs)) := by
  have H0 := hide (sparts_any A n c B zs w h)
  have H9 := hide (fun w' (hb' : Below w.heap.size w w') => sisperm_any A n c B zs _ rfl w' (h.below hb').reads h.le h.cap)
  have hsm := partsR_small zs
  have HA := hide (fun h2 => layer_all (p := zs) h2)
  have HN := hide (fun z (hz : z ∈ partsR zs) h2 => layer_at hz h2)
  obtain ⟨ps, hps⟩ : ∃ ps, ps = partsR zs := ⟨_, rfl⟩
  have hpP : ∀ z ∈ ps, isP z = true := fun z hz => partsR_isP (by rw [← hps]; exact hz)
  rw [← hps] at hsm HA HN
  have HPS := hide hps
  have HPP := hide hpP
  obtain ⟨hsm, _⟩ := hsm
  clear h hps hpP
  go_enter Try.func23, Try.ntmps23
  go_wp2_with fail
  refine (unhide H0).mono ?_
  rintro e w2 ⟨A2, c2, rfl, own3, hb3⟩
  rw [← unhide HPS] at own3 ⊢
  clear H0
  go_wp2
  go_loopw [4] (fun i wr => ∃ k : Nat, k ≤ ps.length ∧ i = .int .i64 k ∧ Below w.heap.size w wr ∧ IntsS wr w.heap.size (.slice A2 ps.length c2) ps ∧ Hid (∀ z ∈ ps.take k, z.reverse = upTo z.length)) (fun i _ => ps.length - (intOf i).toNat)
  case atStart => exact ⟨0, Nat.zero_le _, rfl, hb3, own3, fun z hz => by simp at hz⟩
  case round =>
    obtain ⟨k, hk, rfl, hbw, hL, hP⟩ := hrel
    clear own3 hb3
    by_cases hlt : k < ps.length
    · obtain ⟨ad, A1, c1, z, rfl, hz, hcell, hIz⟩ := hL.at_ hlt
      obtain ⟨g, hg⟩ := hL.shape (by omega)
      have hblk : (ad.add k).block < wr.heap.size := by
        rw [block_of_add]
        injection hg with hg
        subst hg
        obtain ⟨ys, ho, _⟩ := hL
        exact (ho.lt _ rfl).2
      have hzP := unhide HPP z (List.mem_of_getElem? hz)
      have hz8 := isP_le hzP
      have hrP := isP_rev hzP
      have HZA := hide (hIz.argP hzP)
      have H4 := hide (fun w' (hb' : Below wr.heap.size wr w') => l3rev_any A1 z.length c1 _ z w' ((unhide HZA).below hb'))
      have hne := unhide HN z (List.mem_of_getElem? hz)
      have HRP := hide hrP
      have HUP := hide (isP_upTo hz8)
      have hid := idR_nat hz8
      have hb0 := Below.refl wr.heap.size wr
      obtain ⟨b, hbz⟩ : ∃ b, decide (z.reverse = upTo z.length) = b := ⟨_, rfl⟩
      have H8 := hide (fun A c B A' c' B' (w' : World) (h : Arg w' B A z.length c z.reverse) (h' : Arg w' B' A' z.length c' (upTo z.length)) => l2same_any A A' z.length c B z.length c' B' z.reverse (upTo z.length) b hbz w' h h')
      have HB := hide hbz
      have HZ := hide hz
      have HNE := hide hne
      clear hbz hz hIz hzP hrP hne hg
      go_wp2
      go_region_held3 (fun w' => w'.cell? (ad.add k) = some (.slice A1 z.length c1) ∧ Below wr.heap.size wr w') ((refine keep_cell hcell hblk ?_; first | assumption | (apply Below.drew; assumption)))
        (first
          | (go_simp; go_at_call 38; refine (unhide H4 _ (by first | assumption | (apply Below.drew; assumption))).mono ?_; rintro e w3 ⟨A3, c3, rfl, own3, hb3⟩;
              have hb5 : Below wr.heap.size wr w3 := (hb0.drew).trans hb3; rw [List.length_reverse] at own3 ⊢; clear hb3)
          | (go_simp; go_at_call 39; refine (sid_any _ (by omega) _).mono ?_; rintro e w4 ⟨A4, c4, rfl, own4, hb4⟩;
              rw [hid, upTo_length] at own4 ⊢; have hb6 := below_after hb5 hb4; have own5 := own3.below hb4; clear own3 hb5)
          | (go_simp; go_at_call 46; refine (unhide H8 _ _ _ _ _ _ _ (own5.argP' (unhide HRP) (by simp)) (own4.argP' (unhide HUP) (by rw [upTo_length]))).mono ?_; rintro e w5 ⟨rfl, hd⟩;
              have hb7 := hb6.trans (hd.below _); clear hb6 own5 own4 hb4 hd))
      have hb8 := below_after hbw hb7
      have hL8 := hL.below hb7
      cases b with
      | true =>
        have hup : z.reverse = upTo z.length := of_decide_eq_true (unhide HB)
        have hnext : Hid (∀ z ∈ ps.take (k + 1), z.reverse = upTo z.length) := hide (fun y hy => by
          rw [take_snoc_r (unhide HZ)] at hy
          rcases List.mem_append.1 hy with h | h
          · exact unhide hP y h
          · rw [List.mem_singleton] at h
            subst h
            exact hup)
        clear hup hP hbw hL hb7 hb0 hid
        go_wp2
        go_roundw
        case rel => exact ⟨k + 1, by omega, by go_num, hb8, hL8, hnext⟩
        case measure => simp [intOf]; omega
      | false =>
        have hno := hide (unhide HNE (of_decide_eq_false (unhide HB)))
        clear hP hbw hL hb7 hL8 hb0 hid
        go_wp2
        go_ret
        rw [unhide hno]
        exact ⟨rfl, hb8⟩
    · obtain rfl : ps.length = k := by omega
      have hyes := hide (unhide HA (fun z hz => unhide hP z (by rw [List.take_length]; exact hz)))
      have H10 := hide (unhide H9 wr hbw)
      clear hL H9
      go_wp2_with fail
      refine (unhide H10).mono ?_
      rintro e w4 ⟨rfl, hd⟩
      have hb4 := hbw.trans (hd.below _)
      clear H10 hd
      go_wp2
      go_ret
      rw [unhide hyes]
      exact ⟨rfl, hb4⟩
end Go.Proofs.Ytoiipedomgefaaa


/-
  THE LAST STEP OF A LAW: the walk's answer 'true' and 'nothing below the call's own blocks has turned' give the row's post. One lemma for all laws.
-/

namespace Go.Proofs.Ytoiipedomgefaaa
set_option maxRecDepth 100000
open Go.ChangeShapes Go.WideShapes Go.ChangeAt Go.RowKit

theorem trodAll_below {H : Type} {enc : TypeId × Value → H} {P : Program} (hl : laidOutB P = true) {W W' : World} (hb : Below W.heap.size W W') :
    ∀ (ts : List TypeId) (vs : List Value) (ds : List (DataW H)) (ps : List MemPlace), (∀ t ∈ ts, P.readableRec t = true ∧ t < P.types.size) → (∀ x ∈ ps, x.block < W.heap.size) →
      DataW.TrodAll enc P W 0 (fun _ => true) true ts vs ds ps → DataW.TrodAll enc P W' 0 (fun b => decide (b < W.heap.size)) true ts vs ds ps
  | [], vs, ds, ps, _, _, h => by
    obtain ⟨rfl, rfl, rfl⟩ := trodAll_nil h
    exact trodAll_mk0
  | t :: ts, vs, ds, ps, ht, hp, h => by
    obtain ⟨v, vs1, d, ds1, a, b, rfl, rfl, rfl, h1, h2⟩ := trodAll_cons h
    exact ⟨a, b, Below.trod hl (ht t (by simp)).1 (ht t (by simp)).2 h1 hb (fun x hx => hp x (by simp [hx])),
      trodAll_below hl hb ts vs1 ds1 b (fun t' h' => ht t' (by simp [h'])) (fun x hx => hp x (by simp [hx])) h2, rfl⟩

theorem law_end {H : Type} {enc : TypeId × Value → H} {P : Program} {f : Func} {s : ChangeSpec} {W W' : World} {args : Array Value} {ds gs : List (DataW H)} {before : List MemPlace} {tb : TypeId}
    (hl : laidOutB P = true) (hts : ∀ t ∈ f.params.toList, P.readableRec t = true ∧ t < P.types.size) (hb4 : P.underlying tb = some .bool) (hrt : f.resultTypes = #[tb]) (hv : s.vars = [])
    (hW : DataW.Whole enc P f.params.toList s.vars false W args.toList ds gs before)
    (hfn : s.fn H (ds ++ gs) = { results := [.lit (.bool true)], args := ds }) (hbel : Below W.heap.size W W') :
    s.post enc P f false true false false W args (.bool true) W' := by
  have hlt : ∀ x ∈ before, x.block < W.heap.size := fun x hx => by simpa using hW.lt x hx
  have hW' := hW
  obtain ⟨p, q, hA, hV, rfl, _, _⟩ := hW
  rw [hv] at hV
  obtain ⟨rfl, rfl⟩ := trodVars_none hV
  have hargs := trodAll_below hl hbel _ _ _ _ hts (fun x hx => hlt x (by simp [hx])) hA
  refine ⟨ds, [], _, [] ++ [], p, [], hW', ?_, ?_, ?_, hbel.frame _, fun h => by cases h⟩
  · rw [hfn, hrt]; exact trodAll_mk1 (shut_bool hb4 _)
  · rw [hfn]; exact hargs
  · rw [hfn, hv]; rfl

theorem lt_of_row {W : World} {a : Addr} {m j : Nat} (hlt : ∀ x ∈ MemPlace.row a m, x.block < W.heap.size) (hj : j < m) : a.block < W.heap.size :=
  hlt (.cell a.block (a.off + j)) (MemPlace.mem_row.2 ⟨j, hj, rfl⟩)

/-- An argument []string, as 'Reads'. -/
theorem open_strs_reads {H : Type} {enc : TypeId × Value → H} {P : Program} {w : World} {r : Reach} {b0 t e : TypeId} {v : Value} {d : DataW H} {ps : List MemPlace} (ht : P.underlying t = some (.slice e)) (he : P.underlying e = some .string) (hc : P.cellsOf e = 1)
    (hval : Value.okWide P w r b0 t v) (h : DataW.Trod enc P w 0 (fun _ => true) true t v d ps) (hlt : ∀ x ∈ ps, x.block < w.heap.size) :
    ∃ (A : Option Addr) (n c : Nat) (ss : List ByteArray), v = .slice A n c ∧ Reads w w.heap.size A n (ss.map Value.string) ∧ n ≤ maxLen ∧ ∀ s ∈ ss, s.size ≤ maxLen := by
  obtain ⟨a0, len, cap, rfl⟩ := okWide_slice ht hval
  obtain ⟨fuel, hf⟩ := h
  rcases open_strings ht he hc hf with ⟨hcs, hx⟩ | ⟨a, len', cap', ss, hcs, _, hl, hm, hz, hx, hcell, hws⟩
  · simp [Value.cells] at hcs
    obtain ⟨rfl, rfl, rfl⟩ := hcs
    exact ⟨none, 0, 0, [], rfl, Reads.none_, Nat.zero_le _, by simp⟩
  · simp [Value.cells] at hcs
    obtain ⟨rfl, rfl, rfl⟩ := hcs
    simp only [Prod.mk.injEq] at hx
    obtain ⟨rfl, rfl⟩ := hx
    simp only [if_true] at hz
    refine ⟨some a, len, cap, ss.take len, rfl, ⟨by simp; omega, fun hn => ⟨a, rfl, lt_of_row (j := 0) hlt (by omega), fun j u hu => ?_⟩⟩, by omega, fun s hs => hws s (List.mem_of_mem_take hs)⟩
    rw [List.getElem?_map, List.getElem?_take] at hu
    by_cases hj : j < len
    · rw [if_pos hj] at hu
      rw [hcell j (by omega), ← hu, List.getD_eq_getElem?_getD]
      have : ss[j]? = some ss[j] := List.getElem?_eq_getElem (by omega)
      rw [this]; rfl
    · rw [if_neg hj] at hu; cases hu

/-- An argument of integers, as 'Reads'. -/
theorem open_ints_reads {H : Type} {enc : TypeId × Value → H} {P : Program} {w : World} {r : Reach} {b0 t e : TypeId} {ik : IntKind} {v : Value} {d : DataW H} {ps : List MemPlace} (ht : P.underlying t = some (.slice e)) (he : P.underlying e = some (.int ik)) (hc : P.cellsOf e = 1)
    (hval : Value.okWide P w r b0 t v) (h : DataW.Trod enc P w 0 (fun _ => true) true t v d ps) (hlt : ∀ x ∈ ps, x.block < w.heap.size) :
    ∃ (A : Option Addr) (n c : Nat) (zs : List Int), v = .slice A n c ∧ Reads w w.heap.size A n (zs.map (Value.int ik)) ∧ n ≤ maxLen ∧ ∀ z ∈ zs, (Lit.int ik z).wf = true := by
  obtain ⟨a0, len, cap, rfl⟩ := okWide_slice ht hval
  obtain ⟨fuel, hf⟩ := h
  rcases open_ints ht he hc hf with ⟨hcs, hx⟩ | ⟨a, len', cap', zs, hcs, _, hl, hm, hz, hx, hcell, hws⟩
  · simp [Value.cells] at hcs
    obtain ⟨rfl, rfl, rfl⟩ := hcs
    exact ⟨none, 0, 0, [], rfl, Reads.none_, Nat.zero_le _, by simp⟩
  · simp [Value.cells] at hcs
    obtain ⟨rfl, rfl, rfl⟩ := hcs
    simp only [Prod.mk.injEq] at hx
    obtain ⟨rfl, rfl⟩ := hx
    simp only [if_true] at hz
    refine ⟨some a, len, cap, zs.take len, rfl, ⟨by simp; omega, fun hn => ⟨a, rfl, lt_of_row (j := 0) hlt (by omega), fun j u hu => ?_⟩⟩, by omega, fun s hs => hws s (List.mem_of_mem_take hs)⟩
    rw [List.getElem?_map, List.getElem?_take] at hu
    by_cases hj : j < len
    · rw [if_pos hj] at hu
      rw [hcell j (by omega), ← hu, List.getD_eq_getElem?_getD]
      have : zs[j]? = some zs[j] := List.getElem?_eq_getElem (by omega)
      rw [this]; rfl
    · rw [if_neg hj] at hu; cases hu
theorem bytes_of_wf : ∀ (zs : List Int), (∀ z ∈ zs, (Lit.int .u8 z).wf = true) → ∃ bs : List UInt8, zs.map (Value.int .u8) = u8s bs
  | [], _ => ⟨[], rfl⟩
  | z :: r, h => by
    obtain ⟨bs, hb⟩ := bytes_of_wf r (fun y hy => h y (by simp [hy]))
    have hz : 0 ≤ z ∧ z ≤ 255 := by simpa [Lit.wf, IntKind.min, IntKind.max, IntKind.signed, IntKind.bits] using h z (by simp)
    refine ⟨UInt8.ofNat z.toNat :: bs, ?_⟩
    have e : ((UInt8.ofNat z.toNat).toNat : Int) = z := by rw [UInt8.toNat_ofNat']; omega
    simp only [u8s, List.map_cons, e]
    rw [hb]; rfl
theorem open_bytes_reads {H : Type} {enc : TypeId × Value → H} {P : Program} {w : World} {r : Reach} {b0 t e : TypeId} {v : Value} {d : DataW H} {ps : List MemPlace} (ht : P.underlying t = some (.slice e)) (he : P.underlying e = some (.int .u8)) (hc : P.cellsOf e = 1)
    (hval : Value.okWide P w r b0 t v) (h : DataW.Trod enc P w 0 (fun _ => true) true t v d ps) (hlt : ∀ x ∈ ps, x.block < w.heap.size) :
    ∃ (A : Option Addr) (n c : Nat) (bs : List UInt8), v = .slice A n c ∧ Reads w w.heap.size A n (u8s bs) ∧ n ≤ maxLen := by
  obtain ⟨A, n, c, zs, rfl, hr, hn, hw⟩ := open_ints_reads ht he hc hval h hlt
  obtain ⟨bs, hb⟩ := bytes_of_wf zs hw
  exact ⟨A, n, c, bs, rfl, by rw [← hb]; exact hr, hn⟩
theorem cellsByte : Try.prog.cellsOf 5 = 1 := by kernel_rfl

theorem laidOut : laidOutB Try.prog = true := by kernel_rfl
theorem own : ownKnob Try.prog.godebug = none := by kernel_rfl
end Go.Proofs.Ytoiipedomgefaaa


/-
  CONTRACTS OF THE LAWS' HELPERS OVER []string THAT ONLY READ: szStringS, eqStringS.
-/

namespace Go.Proofs.Ytoiipedomgefaaa
set_option maxRecDepth 100000
open Go.RowKit

def szGo : Int → List ByteArray → Int
  | l, [] => l
  | l, s :: r => if l - s.size < 0 then -1 else szGo (l - s.size) r

theorem strs_at {ss : List ByteArray} {k : Nat} {u : Value} (h : (ss.map Value.string)[k]? = some u) : ∃ s, ss[k]? = some s ∧ u = .string s := by
  rw [List.getElem?_map] at h
  cases hs : ss[k]? with
  | none => simp [hs] at h
  | some s => simp [hs] at h; exact ⟨s, rfl, h.symm⟩
theorem drop_at {α : Type} {l : List α} {k : Nat} {x : α} (h : l[k]? = some x) : l.drop k = x :: l.drop (k + 1) := by
  obtain ⟨hk, rfl⟩ := List.getElem?_eq_some_iff.1 h
  exact List.drop_eq_getElem_cons hk

theorem below_set_own {B : Nat} {w w' : World} {e : TypeId} {size : Nat} {g cap n : Nat} {xs : List Value} (hb : Below B w w') (hown : w'.ownsRow B e size (.slice (some ⟨g, 0, none⟩) n cap) n xs) (j : Nat) (u : Value) : Below B w (w'.setCell ⟨g, j, none⟩ u) :=
  hb.setCell (hown.lt g rfl).1 _

theorem strInfo : (Try.prog.info? 9).map (fun i => (i.zero, i.size, i.bytes)) = some (some (.string ByteArray.empty), 1, 16) := by kernel_rfl

theorem take_set_eq {α : Type} {xs ys : List α} {k : Nat} {u : α} (h : xs.take k = ys.take k) (hu : ys[k]? = some u) (hl : k < xs.length) : (xs.set k u).take (k + 1) = ys.take (k + 1) := by
  rw [List.take_add_one, List.take_add_one, List.take_set_of_le (Nat.le_refl _), h]
  simp [hu, hl]

end Go.Proofs.Ytoiipedomgefaaa
