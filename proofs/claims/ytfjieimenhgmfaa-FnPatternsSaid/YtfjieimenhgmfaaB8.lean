/-
  Words and contracts that the laws lean on, bundled: Ident, DrawV, Inv, Sames, Big.
-/
import Derived.Test.YtfjieimenhgmfaaProg
import Derived.Test.YtfjieimenhgmfaaB1
import Derived.Test.YtfjieimenhgmfaaB2
import Derived.Test.YtfjieimenhgmfaaB3
import Derived.Test.YtfjieimenhgmfaaB7
import Derived.Outline

/-
  spec.IdentityPerm and impl.IdentityPerm, by their contracts.
-/

namespace Go.Proofs.Ytfjieimenhgmfaa
set_option maxRecDepth 100000
open Go.RowKit

theorem Ints.of_whole {w : World} {g B n c : Nat} {t : TypeId} (ht : t ≠ 24) {l : List Int} (hg : Whole w g t (arr l)) (hB : B ≤ g) (hn : n ≤ l.length) (hnc : n ≤ c) : Ints w B (.slice (some ⟨g, 0, none⟩) n c) (l.take n) := by
  have hl : (l.take n).length = n := by rw [List.length_take]; omega
  unfold Ints
  rw [hl]
  refine ⟨by rw [i64_length, hl], .inr ⟨g, c, arr l, t, rfl, hB, hg, ⟨hnc, by rw [arr_size]; exact hn⟩, ?_, ht⟩⟩
  unfold arr i64s
  rw [List.map_take]

end Go.Proofs.Ytfjieimenhgmfaa


/-
  THE DRAWS OF CHAPTER 3: spec.DrawSymmetryOf, spec.DrawOrderPerms, spec.DrawIsInvolution; laws.sameInts at any lists; laws.hasList.
-/

namespace Go.Proofs.Ytfjieimenhgmfaa
set_option maxRecDepth 100000
open Go.RowKit

set_option maxHeartbeats 400000 in
theorem samed_any (A A' : Option Addr) (n c B n' c' B' : Nat) (p q : List Int) (b : Bool) (hb : decide (p = q) = b) (w : World) (h : Arg w B A n c p) (h' : Arg w B' A' n' c' q) :
    Calls Try.prog 25 #[.slice A n c, .slice A' n' c'] w fun e w' => e = .returned (.bool b) ∧ Drew w w' := by
  have hl := h.len
  have hl' := h'.len
  have hn := h.le
  have hn' := h'.le
  have hr := h.reads
  have hr' := h'.reads
  clear h h'
  by_cases he : n = n'
  · subst he
    have HB := hide hb
    have HL := hide hl
    have HL' := hide hl'
    clear hb hl hl'
    go_enter Try.func25, Try.ntmps25
    go_wp2
    go_loopw [5] (fun i wr => ∃ k : Nat, k ≤ n ∧ i = .int .i64 k ∧ Drew w wr ∧ Hid (p.take k = q.take k)) (fun i _ => n - (intOf i).toNat)
    case atStart => exact ⟨0, Nat.zero_le _, rfl, Drew.refl _, by exact (rfl : p.take 0 = q.take 0)⟩
    case round =>
      obtain ⟨k, hk, rfl, hd, hs⟩ := hrel
      by_cases hlt : k < n
      · obtain ⟨ad, u, rfl, _, hu, hc⟩ := (hr.ofDrew hd).at_ hlt
        obtain ⟨ad', u', rfl, _, hu', hc'⟩ := (hr'.ofDrew hd).at_ hlt
        obtain ⟨x, hx, rfl⟩ := i64_at hu
        obtain ⟨y, hy, rfl⟩ := i64_at hu'
        have HD := hide hd
        clear hu hu' hr hr' hd
        by_cases hxy : x = y
        · subst hxy
          have hnext := hide (take_same_step (unhide hs) hx hy)
          clear hx hy hs
          go_wp2
          go_quiet (fail)
          go_wp2
          go_roundw
          case rel => exact ⟨k + 1, by omega, by go_num, (unhide HD).more _, hnext⟩
          case measure => simp [intOf]; omega
        · obtain rfl : b = false := (unhide HB).symm.trans (same_ne hx hy hxy)
          have hne : (x == y) = false := by simpa using hxy
          clear hx hy hs HB hxy
          go_wp2
          go_quiet (fail)
          go_wp2
          go_ret
          exact ⟨rfl, (unhide HD).more _⟩
      · obtain rfl : n = k := by omega
        obtain rfl : b = true := (unhide HB).symm.trans (same_end (unhide hs) (unhide HL) (unhide HL'))
        clear HB hs
        go_wp2
        go_ret
        exact ⟨rfl, hd⟩
  · obtain rfl : b = false := hb.symm.trans (same_len (by omega))
    have hne : ((n : Int) == (n' : Int)) = false := by simp; omega
    clear hb hl hl' hr hr'
    go_enter Try.func25, Try.ntmps25
    go_wp2
    go_ret
    exact ⟨rfl, Drew.refl _⟩

set_option maxHeartbeats 800000 in
/-- laws.hasList, at a list that has the row. -/
theorem has_any (A A' : Option Addr) (n c B n' c' B' : Nat) (zss : List (List Int)) (x : List Int) (w : World) (hS : IntsS w B (.slice A n c) zss) (hx : Arg w B' A' n' c' x) (hsm : ∀ z ∈ zss, z.length ≤ 1048576 ∧ Small z) (hn : n ≤ 1048576) (hin : x ∈ zss) :
    Calls Try.prog 35 #[.slice A n c, .slice A' n' c'] w fun e w' => e = .returned (.bool true) ∧ Drew w w' := by
  have hl := hS.len
  have HL := hide hl
  have HSM := hide hsm
  have HIN := hide hin
  clear hl hsm hin
  go_enter Try.func35, Try.ntmps35
  go_wp2
  go_loopw [5] (fun i wr => ∃ k : Nat, k ≤ n ∧ i = .int .i64 k ∧ Drew w wr ∧ Hid (x ∉ zss.take k)) (fun i _ => n - (intOf i).toNat)
  case atStart => exact ⟨0, Nat.zero_le _, rfl, Drew.refl _, by exact (by simp : x ∉ zss.take 0)⟩
  case round =>
    obtain ⟨k, hk, rfl, hd, hno⟩ := hrel
    by_cases hlt : k < n
    · obtain ⟨ad, A1, c1, z, rfl, hz, hcell, hI⟩ := (hS.below (hd.below _)).at_ hlt
      obtain ⟨hzl, hzs⟩ := unhide HSM z (List.mem_of_getElem? hz)
      obtain ⟨b, hb⟩ : ∃ b, decide (z = x) = b := ⟨_, rfl⟩
      have H1 := hide (samed_any A1 A' _ c1 _ n' c' B' z x b hb wr (hI.arg hzl hI.cap hzs) (hx.below (hd.below _)))
      cases b with
      | true =>
        clear hb hz hI hzs
        go_wp2_with fail
        refine (unhide H1).mono ?_
        rintro e w2 ⟨rfl, hd2⟩
        have hd3 := hd.trans hd2
        clear H1 hd hd2
        go_wp2
        go_ret
        exact ⟨rfl, hd3⟩
      | false =>
        have hnext : Hid (x ∉ zss.take (k + 1)) := hide (fun h => by
          rw [take_snoc_r hz] at h
          rcases List.mem_append.1 h with h | h
          · exact unhide hno h
          · rw [List.mem_singleton] at h
            subst h
            simp at hb)
        clear hb hz hI hzs hno
        go_wp2_with fail
        refine (unhide H1).mono ?_
        rintro e w2 ⟨rfl, hd2⟩
        have hd3 := hd.trans hd2
        clear H1 hd hd2
        go_wp2
        go_roundw
        case rel => exact ⟨k + 1, by omega, by go_num, hd3, hnext⟩
        case measure => simp [intOf]; omega
    · exfalso
      have h := unhide hno
      rw [List.take_of_length_le (by rw [unhide HL]; omega)] at h
      exact h (unhide HIN)

theorem Ints.shape {w : World} {B n c : Nat} {A : Option Addr} {zs : List Int} (h : Ints w B (.slice A n c) zs) (h0 : 0 < n) : ∃ g, A = some ⟨g, 0, none⟩ ∧ B ≤ g := by
  rcases h.2 with ⟨hv, hz⟩ | ⟨g, cap, cur, e, hv, hb, _⟩
  · injection hv with _ h3; omega
  · injection hv with h3
    exact ⟨g, h3, hb⟩
theorem Ints.stored {w : World} {B g n c : Nat} {zs : List Int} (h : Ints w B (.slice (some ⟨g, 0, none⟩) n c) zs) (j : Nat) (z : Int) : Ints (w.setCell ⟨g, j, none⟩ (.int .i64 z)) B (.slice (some ⟨g, 0, none⟩) n c) (zs.set j z) := by
  have h1 := (Row.stored h (g := g) rfl j (.int .i64 z)).1
  unfold Ints
  rw [List.length_set, show i64s (zs.set j z) = (i64s zs).set j (.int .i64 z) by unfold i64s; rw [List.map_set]]
  exact h1

end Go.Proofs.Ytfjieimenhgmfaa


/-
  spec.InversePerm and impl.InversePerm, by their contracts.
-/

namespace Go.Proofs.Ytfjieimenhgmfaa
set_option maxRecDepth 100000
open Go.RowKit

set_option maxHeartbeats 400000 in
theorem l2inv_any (A : Option Addr) (n c B : Nat) (zs : List Int) (w : World) (h : Arg w B A n c zs) (hp : isP zs = true) :
    Calls Try.prog 70 #[.slice A n c] w (GivesI w (invFill zs zs.length)) := by
  obtain ⟨i0, hi, hz0, hz1, hz2⟩ := info_parts intInfo
  have hl := h.len
  have hr := h.reads
  have hB := h.under
  have hn8 : n ≤ 8 := by have := isP_le hp; omega
  have HL := hide hl
  have HP := hide (fun k z hz => isP_range hp (k := k) (z := z) hz)
  clear hl h hp
  go_enter Try.func70, Try.ntmps70
  go_wp2_with (first
    | (at_make; refine wpList_make_full _ rfl (.tmp 6) (.tmp 6) 24 rfl w.heap.size 3 i0 (.int .i64 0) 1 Try.underlying24 hi hz0 hz1 _ _ _ _ n rfl rfl (by first | rfl | omega) (by first | rfl | omega) (by rw [hz2]; omega) (by unfold maxLen; omega) (Nat.le_refl _) ?_; intro w1 hown hg))
  have hb1 := (Below.refl _ _).grown hg (Nat.le_refl _) (by simp)
  clear hg
  go_loopw [4] (fun i wr => ∃ k : Nat, k ≤ n ∧ i = .int .i64 k ∧ Below w.heap.size w wr ∧ wr.ownsRow w.heap.size 3 1 (.slice (some ⟨w.heap.size, 0, none⟩) n n) n (i64s (invFill zs k))) (fun i _ => n - (intOf i).toNat)
  case atStart =>
    refine ⟨0, Nat.zero_le _, rfl, hb1, ?_⟩
    rw [invFill, unhide HL, ← made_zeros]
    exact hown
  case round =>
    obtain ⟨k, hk, rfl, hb, hown'⟩ := hrel
    clear hown hb1
    by_cases hlt : k < n
    · obtain ⟨ad, u, rfl, had, hu, hc⟩ := ((hr.more hB).below hb).at_ hlt
      obtain ⟨z, hz, rfl⟩ := i64_at hu
      obtain ⟨hz1', hz2'⟩ := unhide HP k z hz
      rw [unhide HL] at hz2'
      have hzn : z.toNat - 1 < n := by omega
      obtain ⟨old, hold⟩ : ∃ old, wr.cell? ⟨w.heap.size, z.toNat - 1, none⟩ = some old := ⟨_, by rw [hown'.cellAt (z.toNat - 1) (by omega)]; exact List.getElem?_eq_getElem (by rw [i64_length, invFill_length, unhide HL]; exact hzn)⟩
      have hfz := hown'.frozenAt (z.toNat - 1)
      have ho2 := (hown'.stored (z.toNat - 1) (.int .i64 ((k : Int) + 1))).1
      have hb2 := below_set_i hb hown' (z.toNat - 1) (.int .i64 ((k : Int) + 1))
      have e : (i64s (invFill zs k)).set (z.toNat - 1) (.int .i64 ((k : Int) + 1)) = i64s (invFill zs (k + 1)) := by
        rw [← invFill_step hz]; unfold i64s; rw [List.map_set]
      rw [e] at ho2
      clear e hu hz hown' hb
      go_wp2
      go_roundw
      case rel => exact ⟨k + 1, by omega, by go_num, hb2, ho2⟩
      case measure => simp [intOf]; omega
    · obtain rfl : n = k := by omega
      have hI : Ints wr w.heap.size (.slice (some ⟨w.heap.size, 0, none⟩) n n) (invFill zs zs.length) := by rw [unhide HL]; exact Ints.of_own hown'
      clear hown'
      go_wp2
      go_ret
      exact GivesI.mk hI hb
theorem sinv_any (A : Option Addr) (n c B : Nat) (zs : List Int) (b : Bool) (hb : isP zs = b) (w : World) (h : Arg w B A n c zs) :
    Calls Try.prog 33 #[.slice A n c] w (GivesIB w (invR zs) b) := by
  have H1 := hide (sisperm_any A n c B zs b hb w h.reads h.le h.cap)
  cases b with
  | false =>
    rw [invR_no hb]
    clear hb h
    go_enter Try.func33, Try.ntmps33
    go_wp2_with fail
    refine (unhide H1).mono ?_
    rintro e w1 ⟨rfl, hd⟩
    have hb := hd.below w.heap.size
    clear hd H1
    go_wp2
    go_ret2
    exact GivesIB.mk false (Ints.made0 w1 w.heap.size hb.size) (hb.alloc hb.size _)
  | true =>
    rw [invR_yes hb]
    have H2 := hide (fun w' (hb' : Below w.heap.size w w') => l2inv_any A n c B zs w' (h.below hb') hb)
    clear hb h
    go_enter Try.func33, Try.ntmps33
    go_wp2_with fail
    refine (unhide H1).mono ?_
    rintro e w1 ⟨rfl, hd⟩
    have hb := hd.below w.heap.size
    have H3 := hide (unhide H2 w1 hb)
    clear hd H1 H2
    go_wp2_with fail
    refine (unhide H3).mono ?_
    rintro e w2 ⟨A2, c2, rfl, own2, hb2⟩
    clear H3
    go_wp2
    go_ret2
    exact GivesIB.mk true (own2.low hb.size) (below_after hb hb2)
end Go.Proofs.Ytfjieimenhgmfaa


/-
  laws.sameInts, laws.sameLists, at equal lists, by their contracts.
-/

namespace Go.Proofs.Ytfjieimenhgmfaa
set_option maxRecDepth 100000
open Go.RowKit

set_option maxHeartbeats 400000 in
/-- laws.sameInts: equal lists. -/
theorem samei_any (A A' : Option Addr) (n c n' c' B B' : Nat) (zs : List Int) (w : World) (hr : Reads w B A n (i64s zs)) (hr' : Reads w B' A' n' (i64s zs)) (hn : n ≤ 1099511627776) :
    Calls Try.prog 25 #[.slice A n c, .slice A' n' c'] w fun e w' => e = .returned (.bool true) ∧ Drew w w' := by
  have e1 : zs.length = n := by have := hr.1; rwa [i64_length] at this
  have e2 : zs.length = n' := by have := hr'.1; rwa [i64_length] at this
  obtain rfl : n = n' := by omega
  clear e1 e2
  go_enter Try.func25, Try.ntmps25
  go_wp2
  go_loopw [5] (fun i wr => ∃ k : Nat, k ≤ n ∧ i = .int .i64 k ∧ Drew w wr) (fun i _ => n - (intOf i).toNat)
  case atStart => exact ⟨0, Nat.zero_le _, rfl, Drew.refl _⟩
  case round =>
    obtain ⟨k, hk, rfl, hd⟩ := hrel
    by_cases hlt : k < n
    · obtain ⟨ad, u, rfl, _, hx, hc⟩ := (hr.ofDrew hd).at_ hlt
      obtain ⟨ad', u', rfl, _, hx', hc'⟩ := (hr'.ofDrew hd).at_ hlt
      obtain ⟨s, hs, rfl⟩ := i64_at hx
      obtain ⟨s', hs', rfl⟩ := i64_at hx'
      obtain rfl : s = s' := by rw [hs] at hs'; exact Option.some.inj hs'
      clear hx hx' hs hs' hr hr'
      have HD := hide hd
      clear hd
      go_wp2
      go_quiet (fail)
      go_wp2
      go_roundw
      case rel => exact ⟨k + 1, by omega, by go_num, (unhide HD).more _⟩
      case measure => simp [intOf]; omega
    · go_wp2
      go_ret
      exact ⟨rfl, hd⟩

set_option maxHeartbeats 400000 in
/-- laws.sameLists: equal lists of rows. -/
theorem samess_any (A A' : Option Addr) (n c n' c' B B' : Nat) (zss : List (List Int)) (w : World) (hr : IntsS w B (.slice A n c) zss) (hr' : IntsS w B' (.slice A' n' c') zss) (hn : n ≤ 1048576) (ht : tot zss ≤ 1099511627776) :
    Calls Try.prog 20 #[.slice A n c, .slice A' n' c'] w fun e w' => e = .returned (.bool true) ∧ Drew w w' := by
  have e1 := hr.len
  have e2 := hr'.len
  obtain rfl : n = n' := by omega
  have HE := hide e1
  clear e1 e2
  go_enter Try.func20, Try.ntmps20
  go_wp2
  go_loopw [5] (fun i wr => ∃ k : Nat, k ≤ n ∧ i = .int .i64 k ∧ Drew w wr) (fun i _ => n - (intOf i).toNat)
  case atStart => exact ⟨0, Nat.zero_le _, rfl, Drew.refl _⟩
  case round =>
    obtain ⟨k, hk, rfl, hd⟩ := hrel
    by_cases hlt : k < n
    · obtain ⟨ad, A1, c1, zs, rfl, hz, hc, hI⟩ := (hr.below (hd.below _)).at_ hlt
      obtain ⟨ad', A1', c1', zs', rfl, hz', hc', hI'⟩ := (hr'.below (hd.below _)).at_ hlt
      obtain rfl : zs = zs' := by rw [hz] at hz'; exact Option.some.inj hz'
      have hle := tot_at hz
      have HD := hide hd
      have H1 := hide hI.reads
      have H2 := hide hI'.reads
      clear hz hz' hd hI hI' hr hr'
      go_wp2
      go_quiet ((go_at_call 25; exact Calls.quiet_of (samei_any _ _ _ _ _ _ _ _ zs _ ((unhide H1).drewN _) ((unhide H2).drewN _) (by omega))))
      go_wp2
      go_roundw
      case rel => exact ⟨k + 1, by omega, by go_num, (unhide HD).more _⟩
      case measure => simp [intOf]; omega
    · go_wp2
      go_ret
      exact ⟨rfl, hd⟩
end Go.Proofs.Ytfjieimenhgmfaa


/-
  laws.big, by its contract.
-/

namespace Go.Proofs.Ytfjieimenhgmfaa
set_option maxRecDepth 100000
open Go.RowKit
theorem big_any (A : Option Addr) (n c : Nat) (hn : n ≤ 9223372036854775807) (w : World) :
    Calls Try.prog 11 #[.slice A n c] w fun e w' => e = .returned (.bool (decide (1048576 < n))) ∧ w = w' := by
  go_enter Try.func11, Try.ntmps11
  go_wp2
  go_ret
  exact ⟨ret_bool (by simp; omega), rfl⟩
end Go.Proofs.Ytfjieimenhgmfaa
