/-
  Words and contracts that the laws lean on, bundled: Pat, Cmp, Same, Put, LowS, Rev, OccS, PatsS, ChM.
-/
import Derived.Test.YtplchjeamooliaaGreatDoorB2
import Derived.Test.YtplchjeamooliaaGreatDoorB3
import Derived.IntWalk
import Derived.Sort.Grow
import Derived.Outline
import Derived.Test.YtplchjeamooliaaGreatDoorB1
import Derived.Deep.RegionHeld3
import Derived.Test.YtplchjeamooliaaGreatDoorB4
import Derived.Lib.SliceRun
import Derived.Laws.BitsLemmas

/-
  spec.PatternOf and impl.PatternOf, by their contracts.
-/

namespace Go.Proofs.YtplchjeamooliaaGreatDoor
set_option maxRecDepth 100000
open Go.RowKit

theorem bit_true (w : World) : Calls Tryz.prog 51 #[.bool true] w fun e w' => e = .returned (.int .i64 1) ∧ w' = w := by
  go_enter Tryz.func51, Tryz.ntmps51
  go_wp2
  go_ret
  exact ⟨rfl, rfl⟩
theorem bit_false (w : World) : Calls Tryz.prog 51 #[.bool false] w fun e w' => e = .returned (.int .i64 0) ∧ w' = w := by
  go_enter Tryz.func51, Tryz.ntmps51
  go_wp2
  go_ret
  exact ⟨rfl, rfl⟩
theorem cnt_at {zs : List Int} {k : Nat} {x v : Int} (h : zs[k]? = some x) : cnt (zs.take (k + 1)) v = cnt (zs.take k) v + if x < v then 1 else 0 := by rw [take_snoc_i h, cnt_snoc]

set_option maxHeartbeats 400000 in
theorem less_any (A : Option Addr) (n c B : Nat) (zs : List Int) (v : Int) (w : World) (h : Arg w B A n c zs) :
    Calls Tryz.prog 153 #[.slice A n c, .int .i64 v] w fun e w' => e = .returned (.int .i64 (cnt zs v : Int)) ∧ w = w' := by
  have hl := h.len
  have hn := h.le
  have hr := h.reads
  have HL := hide hl
  clear h hl
  go_enter Tryz.func153, Tryz.ntmps153
  go_wp2
  go_loop [5, 7, 10] (fun m _ i => ∃ k : Nat, k ≤ n ∧ i = .int .i64 k ∧ m = .int .i64 (cnt (zs.take k) v : Int)) (fun _ _ i => n - (intOf i).toNat)
  case atStart => exact ⟨0, Nat.zero_le _, rfl, rfl⟩
  case round =>
    obtain ⟨k, hk, rfl, rfl⟩ := hrel
    have hle := cnt_le (zs.take k) v
    have hle2 : cnt (zs.take k) v ≤ 1048576 := by have := List.length_take_le k zs; omega
    clear hle
    by_cases hlt : k < n
    · obtain ⟨ad, u, rfl, _, hu, hc⟩ := hr.at_ hlt
      obtain ⟨x, hx, rfl⟩ := i64_at hu
      have hstep := hide (cnt_at (v := v) hx)
      clear hu hx hr
      by_cases hxv : x < v
      · go_wp2
        go_round
        case rel => exact ⟨k + 1, by omega, by go_num, by rw [unhide hstep, if_pos hxv]; go_num⟩
        case measure => simp [intOf]; omega
      · go_wp2
        go_round
        case rel => exact ⟨k + 1, by omega, by go_num, by rw [unhide hstep, if_neg hxv]; rfl⟩
        case measure => simp [intOf]; omega
    · obtain rfl : n = k := by omega
      have e : zs.take n = zs := List.take_of_length_le (by rw [unhide HL]; exact Nat.le_refl _)
      rw [e] at hle2 ⊢
      clear e
      go_wp2
      go_ret
      exact ⟨rfl, rfl⟩

set_option maxHeartbeats 800000 in
theorem l2pat_any (A : Option Addr) (n c B : Nat) (zs : List Int) (w : World) (h : Arg w B A n c zs) (hn8 : n ≤ 8) :
    Calls Tryz.prog 99 #[.slice A n c] w (GivesI w (patL zs)) := by
  obtain ⟨i0, hi, hz0, hz1, hz2⟩ := info_parts intInfo
  have hl := h.len
  have hr := h.reads
  have hB := h.under
  have HL := hide hl
  have hst := own0 w w.heap.size (Nat.le_refl _)
  have hbel := (Below.refl w.heap.size w).alloc (Nat.le_refl _) (.cells #[] 3)
  clear h hl
  go_enter Tryz.func99, Tryz.ntmps99
  go_wp2
  go_loopw [3, 4, 5, 6] (fun o i _ _ wr => ∃ k : Nat, k ≤ n ∧ i = .int .i64 k ∧ Below w.heap.size w wr ∧ wr.ownsRow w.heap.size 3 1 o k (i64s ((patL zs).take k))) (fun _ i _ _ _ => n - (intOf i).toNat)
  case atStart => exact ⟨0, Nat.zero_le _, rfl, hbel, hst⟩
  case round =>
    obtain ⟨k, hk, rfl, hbw, hown⟩ := hrel
    clear hst hbel
    by_cases hlt : k < n
    · obtain ⟨ad, u, rfl, _, hu, hc⟩ := ((hr.more hB).below hbw).at_ hlt
      obtain ⟨v, hv, rfl⟩ := i64_at hu
      have HV := hide hv
      clear hu hv
      obtain ⟨wo, rfl⟩ : ∃ wo : World, wo = wr := ⟨_, rfl⟩
      go_wp2
      go_loopw [5, 6] (fun m i wi => ∃ j : Nat, j ≤ n ∧ i = .int .i64 j ∧ m = .int .i64 (1 + (cnt (zs.take j) v : Int)) ∧ Drew wo wi) (fun _ i _ => n - (intOf i).toNat)
      case atStart => exact ⟨0, Nat.zero_le _, rfl, rfl, Drew.refl _⟩
      case round =>
        obtain ⟨j, hj, rfl, rfl, hd⟩ := hrel
        have hle := cnt_le (zs.take j) v
        have hle2 : cnt (zs.take j) v ≤ 8 := by have := List.length_take_le j zs; omega
        clear hle
        by_cases hjt : j < n
        · obtain ⟨ad', u', he', _, hu', hc'⟩ := (((hr.more hB).below hbw).ofDrew hd).at_ hjt
          obtain rfl : ad = ad' := Option.some.inj he'
          clear he'
          obtain ⟨x, hx, rfl⟩ := i64_at hu'
          have hstep := hide (cnt_at (v := v) hx)
          have hcv := (hd.cell _).trans hc
          have HD := hide hd
          have HR := hide hr
          have HO := hide hown
          have HBW := hide hbw
          clear hu' hx hd hr hown hbw hc
          obtain ⟨m, hm⟩ : ∃ m, m = cnt (zs.take j) v := ⟨_, rfl⟩
          rw [← hm] at hle2 hstep ⊢
          clear hm
          have w1 : IntKind.i64.wrap (1 + (m : Int) + 1) = 1 + (m : Int) + 1 := IntWalk.i64_in _ (by omega)
          have w0 : IntKind.i64.wrap (1 + (m : Int)) = 1 + (m : Int) := IntWalk.i64_in _ (by omega)
          by_cases hxv : x < v
          · go_wp2
            go_quiet ((go_at_call 51; exact Calls.quiet_of_same (bit_true _)))
            clear w1 w0
            go_wp2
            go_roundw
            case rel => exact ⟨j + 1, by omega, by go_num, by rw [unhide hstep, if_pos hxv]; go_num, (unhide HD).more _⟩
            case measure => simp [intOf]; omega
          · have hdf : decide (x < v) = false := by simpa using hxv
            go_wp2
            go_quiet ((go_at_call 51; exact Calls.quiet_of_same (bit_false _)))
            clear w1 w0
            go_wp2
            go_roundw
            case rel => exact ⟨j + 1, by omega, by go_num, by rw [unhide hstep, if_neg (by omega)]; rfl, (unhide HD).more _⟩
            case measure => simp [intOf]; omega
        · obtain rfl : n = j := by omega
          have e : zs.take n = zs := List.take_of_length_le (by rw [unhide HL]; exact Nat.le_refl _)
          rw [e] at hle2 ⊢
          clear e
          have hownA := own_below hown (hd.below _)
          have hbwA := hbw.trans (hd.below _)
          have e2 : i64s ((patL zs).take k) ++ [.int .i64 (1 + (cnt zs v : Int))] = i64s ((patL zs).take (k + 1)) := by rw [patL_take (unhide HV)]; unfold i64s; simp
          have HE := hide e2
          clear e2 hd hown hbw hc
          go_wp2_with (first
            | (at_builtin; refine wpList_append_one rfl (.tmp 32) (.tmp 34) 27 rfl w.heap.size 3 i0 (.int .i64 0) 8 Tryz.underlying27 hi hz0 hz1 hz2 rfl w _ _ _ _ rfl hownA (.int .i64 (1 + (cnt zs v : Int))) rfl rfl rfl (by omega) (by simp only [maxLen]; omega) hbwA hbwA.size ?_; intro v2 w2 hown2 hb2 hg2; clear hg2))
          rw [unhide HE] at hown2
          clear hownA hbwA HE
          go_roundw
          case rel => exact ⟨k + 1, by omega, by go_num, hb2, hown2⟩
          case measure => simp [intOf]; omega
    · obtain rfl : n = k := by omega
      have e : (patL zs).take n = patL zs := List.take_of_length_le (by rw [patL_length, unhide HL]; exact Nat.le_refl _)
      rw [e] at hown
      have hI : Ints wr w.heap.size u3 (patL zs) := Ints.of_own hown
      clear hown e
      go_wp2
      go_ret
      exact GivesI.mk hI hbw

set_option maxHeartbeats 800000 in
theorem ipat_any (A : Option Addr) (n c B : Nat) (zs : List Int) (b : Bool) (hb : patOK zs = b) (w : World) (h : Arg w B A n c zs) :
    Calls Tryz.prog 143 #[.slice A n c] w (GivesIB w (patR zs) b) := by
  obtain ⟨i0, hi, hz0, hz1, hz2⟩ := info_parts intInfo
  have hl := h.len
  have hr := h.reads
  have hB := h.under
  by_cases h8 : n ≤ 8
  · have h8' : ¬ 8 < n := by omega
    have h8b : decide ((8 : Int) < (n : Int)) = false := by simp; omega
    have H2 := hide (fun v w' (hb' : Below w.heap.size w w') => less_any A n c B zs v w' (h.below hb'))
    have HL := hide hl
    have HB := hide hb
    have HC := hide (fun v => cnt_le zs v)
    clear h hl hb
    go_enter Tryz.func143, Tryz.ntmps143
    go_wp2_with (first
      | (at_make; refine wpList_make_full _ rfl (.tmp 11) (.tmp 11) 27 rfl w.heap.size 3 i0 (.int .i64 0) 1 Tryz.underlying27 hi hz0 hz1 _ _ _ _ n rfl rfl (by first | rfl | omega) (by first | rfl | omega) (by rw [hz2]; omega) (by unfold maxLen; omega) (Nat.le_refl _) ?_; intro w1 hown hg))
    have hb1 := (Below.refl w.heap.size w).grown hg (Nat.le_refl _) (by simp)
    clear hg
    go_loopw [5, 6, 15] (fun _ _ i wr => ∃ (k : Nat) (xs : List Value), k ≤ n ∧ i = .int .i64 k ∧ Below w.heap.size w wr ∧ wr.ownsRow w.heap.size 3 1 (.slice (some ⟨w.heap.size, 0, none⟩) n n) n xs ∧ Hid (xs.take k = (i64s (patL zs)).take k)) (fun _ _ i _ => n - (intOf i).toNat)
    case atStart => exact ⟨0, _, Nat.zero_le _, rfl, hb1, hown, by exact rfl⟩
    case round =>
      obtain ⟨k, xs, hk, rfl, hb, hown', hx⟩ := hrel
      clear hown hb1
      have hlx : xs.length = n := by simpa using hown'.1
      by_cases hlt : k < n
      · obtain ⟨ad, u, rfl, had, hu, hc⟩ := ((hr.more hB).below hb).at_ hlt
        obtain ⟨z, hz, rfl⟩ := i64_at hu
        obtain ⟨old, hold⟩ : ∃ old, wr.cell? ⟨w.heap.size, k, none⟩ = some old := ⟨_, by rw [hown'.cellAt k (by omega)]; exact List.getElem?_eq_getElem (by omega)⟩
        have hfz := hown'.frozenAt k
        have hle : cnt zs z ≤ 8 := by have := unhide HC z; rw [unhide HL] at this; omega
        have hst := hide (take_set_i (unhide hx) (i64_get (patL_at hz)) (by omega))
        have ho2 := (hown'.stored k (.int .i64 (1 + (cnt zs z : Int)))).1
        have hb2 := below_set_i hb hown' k (.int .i64 (1 + (cnt zs z : Int)))
        have H3 := hide (unhide H2 z wr hb)
        clear hx hlx hu hz hown' hb H2
        go_wp2_with fail
        refine (unhide H3).mono ?_
        rintro e w' ⟨rfl, rfl⟩
        clear H3
        go_wp2
        go_roundw
        case rel => exact ⟨k + 1, _, by omega, by go_num, hb2, ho2, hst⟩
        case measure => simp [intOf]; omega
      · obtain rfl : n = k := by omega
        have : xs = i64s (patL zs) := by
          have h := unhide hx
          rwa [List.take_of_length_le (by omega), List.take_of_length_le (by rw [i64_length, patL_length, unhide HL]; exact Nat.le_refl _)] at h
        subst this
        have hI : Ints wr w.heap.size (.slice (some ⟨w.heap.size, 0, none⟩) n n) (patL zs) := Ints.of_own hown'
        have hsm : Small (patL zs) := fun x hx => by
          have := patL_range x hx
          rw [unhide HL] at this
          omega
        have H4 := hide (iisperm_any _ n n _ (patL zs) b ((isP_pat zs).trans (unhide HB)) wr hI.reads (Nat.le_refl _) (by omega) hsm)
        clear hx hlx hown' H2 hsm
        cases b with
        | true =>
          have HR := hide (patR_yes (unhide HB))
          go_wp2_with fail
          refine (unhide H4).mono ?_
          rintro e w2 ⟨rfl, hb2⟩
          have hI2 := hI.below hb2
          rw [← unhide HR] at hI2
          clear H4
          go_wp2
          go_ret2
          exact GivesIB.mk true hI2 (below_after hb hb2)
        | false =>
          have HR := hide (patR_no (unhide HB))
          go_wp2_with fail
          refine (unhide H4).mono ?_
          rintro e w2 ⟨rfl, hb2⟩
          clear H4
          go_wp2
          go_ret2
          exact GivesIB.mk (v := .slice none 0 0) false (by rw [unhide HR]; exact Ints.nil _ _) (below_after hb hb2)
  · have hno := patOK_no8 (l := zs) (by omega)
    obtain rfl : b = false := hb.symm.trans hno
    rw [patR_no hno]
    have hn := h.le
    have h8' : 8 < n := by omega
    have h8b : decide ((8 : Int) < (n : Int)) = true := by simp; omega
    clear hb hno h hl hr
    go_enter Tryz.func143, Tryz.ntmps143
    go_wp2
    go_ret2
    exact GivesIB.mk (v := .slice none 0 0) false (Ints.nil _ _) (Below.refl _ _)
end Go.Proofs.YtplchjeamooliaaGreatDoor


/-
  spec.l2Before, spec.l2Same; cmp.Compare, slices.Compare, cmp.Or, slices.Equal and impl.comparePerms, by their contracts.
-/

namespace Go.Proofs.YtplchjeamooliaaGreatDoor
set_option maxRecDepth 100000
open Go.RowKit

/-! plain -/
/-- slices.Compare's answer. -/
def lexV : List Int → List Int → Int
  | [], [] => 0
  | [], _ :: _ => -1
  | _ :: _, [] => 1
  | x :: xs, y :: ys => if x = y then lexV xs ys else if x < y then -1 else 1
theorem lexV_at : ∀ {p q : List Int} {k : Nat} {x y : Int}, p.take k = q.take k → p[k]? = some x → q[k]? = some y → x ≠ y → lexV p q = if x < y then -1 else 1
  | a :: p, b :: q, 0, x, y, _, hx, hy, hne => by
    simp at hx hy
    subst hx; subst hy
    rw [lexV, if_neg hne]
  | a :: p, b :: q, k + 1, x, y, h, hx, hy, hne => by
    simp at h
    obtain ⟨rfl, h⟩ := h
    rw [lexV, if_pos rfl]
    exact lexV_at h (by simpa using hx) (by simpa using hy) hne
  | [], _, k, _, _, _, hx, _, _ => by simp at hx
  | _ :: _, [], k, _, _, _, _, hy, _ => by simp at hy
theorem lexV_end : ∀ {p q : List Int} {k : Nat}, p.take k = q.take k → (k = p.length ∨ k = q.length) → k ≤ p.length → k ≤ q.length → lexV p q = if p.length < q.length then -1 else if q.length < p.length then 1 else 0
  | [], [], _, _, _, _, _ => by simp [lexV]
  | [], y :: q, _, _, _, _, _ => by simp [lexV]
  | x :: p, [], _, _, _, _, _ => by simp [lexV]
  | x :: p, y :: q, 0, _, h, _, _ => by simp at h
  | x :: p, y :: q, k + 1, h, hk, h1, h2 => by
    simp at h
    obtain ⟨rfl, h⟩ := h
    rw [lexV, if_pos rfl, lexV_end h (by simpa using hk) (by simpa using h1) (by simpa using h2)]
    simp
theorem lexV_lexL : ∀ {p q : List Int}, p.length = q.length → decide (lexV p q < 0) = lexL p q
  | [], [], _ => rfl
  | [], _ :: _, h => by simp at h
  | _ :: _, [], h => by simp at h
  | x :: p, y :: q, h => by
    rw [lexV, lexL]
    by_cases e : x = y
    · rw [if_pos e, if_pos e]
      exact lexV_lexL (by simpa using h)
    · rw [if_neg e, if_neg e]
      by_cases hl : x < y <;> simp [hl]
theorem lexV_small : ∀ (p q : List Int), -1 ≤ lexV p q ∧ lexV p q ≤ 1
  | [], [] => by simp [lexV]
  | [], _ :: _ => by simp [lexV]
  | _ :: _, [] => by simp [lexV]
  | x :: p, y :: q => by
    rw [lexV]
    split
    · exact lexV_small p q
    · split <;> omega
def cmpI (x y : Int) : Int := if x < y then -1 else if y < x then 1 else 0
/-- impl.comparePerms's answer. -/
def cmpV (p q : List Int) : Int := if cmpI p.length q.length = 0 then lexV p q else cmpI p.length q.length
theorem cmpV_befL (p q : List Int) : decide (cmpV p q < 0) = befL p q := by
  unfold cmpV cmpI befL
  by_cases h1 : (p.length : Int) < q.length
  · rw [if_pos h1, if_neg (by omega), if_neg (by omega)]
    simp; omega
  · rw [if_neg h1]
    by_cases h2 : (q.length : Int) < p.length
    · rw [if_pos h2, if_neg (by omega), if_neg (by omega)]
      simp; omega
    · rw [if_neg h2, if_pos rfl, if_pos (by omega)]
      exact lexV_lexL (by omega)
theorem cmpV_small (p q : List Int) : -1 ≤ cmpV p q ∧ cmpV p q ≤ 1 := by
  have h := lexV_small p q
  have h2 : -1 ≤ cmpI p.length q.length ∧ cmpI p.length q.length ≤ 1 := by
    unfold cmpI
    split
    · omega
    · split <;> omega
  unfold cmpV
  split
  · exact h
  · exact h2

theorem below_sgrow (w : World) (k : Nat) (os : Array Obj) : Below w.heap.size w (Sort.grow (w.drewN k) os) :=
  ⟨rfl, rfl, rfl, by unfold Sort.grow; simp [World.drewN], fun i hi => by unfold Sort.grow; exact Array.getElem?_append_left hi⟩

/-! contracts -/
set_option maxHeartbeats 400000 in
theorem l2bef_any (A A' : Option Addr) (n c B n' c' B' : Nat) (p q : List Int) (b : Bool) (hb : befL p q = b) (w : World) (h : Arg w B A n c p) (h' : Arg w B' A' n' c' q) :
    Calls Tryz.prog 67 #[.slice A n c, .slice A' n' c'] w fun e w' => e = .returned (.bool b) ∧ Drew w w' := by
  have hl := h.len
  have hl' := h'.len
  have hn := h.le
  have hn' := h'.le
  have hr := h.reads
  have hr' := h'.reads
  clear h h'
  by_cases he : n = n'
  · subst he
    rw [befL_eq (by omega)] at hb
    have HB := hide hb
    have HL := hide hl
    have HL' := hide hl'
    clear hb hl hl'
    go_enter Tryz.func67, Tryz.ntmps67
    go_wp2
    go_loopw [5] (fun i wr => ∃ k : Nat, k ≤ n ∧ i = .int .i64 k ∧ Drew w wr ∧ Hid (p.take k = q.take k)) (fun i _ => n - (intOf i).toNat)
    case atStart => exact ⟨0, Nat.zero_le _, rfl, Drew.refl _, by exact (rfl : p.take 0 = q.take 0)⟩
    case round =>
      obtain ⟨k, hk, rfl, hd, hs⟩ := hrel
      by_cases hlt : k < n
      · obtain ⟨ad, u, rfl, _, hu, hc⟩ := (hr.ofDrew hd).at_ hlt
        obtain ⟨ad', u', rfl, _, hu', hc'⟩ := (hr'.ofDrew hd).at_ hlt
        obtain ⟨x, hx, rfl⟩ := i64_at hu
        obtain ⟨y, hy, rfl⟩ := i64_at hu'
        have HD := hide hd
        clear hu hu' hr hr' hd
        by_cases hxy : x = y
        · subst hxy
          have hnext := hide (take_same_step (unhide hs) hx hy)
          clear hx hy hs
          go_wp2
          go_quiet (fail)
          go_wp2
          go_roundw
          case rel => exact ⟨k + 1, by omega, by go_num, (unhide HD).more _, hnext⟩
          case measure => simp [intOf]; omega
        · have hat := (unhide HB).symm.trans (lexL_at (unhide hs) hx hy hxy)
          have hne : (x == y) = false := by simpa using hxy
          clear hx hy hs HB hxy
          have hcc := hc
          have hcc' := hc'
          have HAT := hide hat
          clear hat
          go_wp2
          go_quiet (fail)
          go_wp2
          go_quiet (fail)
          go_wp2
          go_ret
          exact ⟨ret_bool (unhide HAT).symm, ((unhide HD).more _).more _⟩
      · obtain rfl : n = k := by omega
        obtain rfl : b = false := (unhide HB).symm.trans (lexL_end (unhide hs) (unhide HL) (unhide HL'))
        clear HB hs
        go_wp2
        go_ret
        exact ⟨rfl, hd⟩
  · rw [befL_ne (by omega), hl, hl'] at hb
    have hne : ((n : Int) == (n' : Int)) = false := by simp; omega
    have HB := hide hb
    clear hb hl hl' hr hr'
    go_enter Tryz.func67, Tryz.ntmps67
    go_wp2
    go_ret
    exact ⟨ret_bool (by rw [← unhide HB]), Drew.refl _⟩
theorem nan_any (x : Int) (w : World) : Calls Tryz.prog 126 #[.int .i64 x] w fun e w' => e = .returned (.bool false) ∧ w = w' := by
  go_enter Tryz.func126, Tryz.ntmps126
  go_wp2
  go_ret
  exact ⟨rfl, rfl⟩
theorem cmp_lt (x y : Int) (h : x < y) (w : World) : Calls Tryz.prog 104 #[.int .i64 x, .int .i64 y] w fun e w' => e = .returned (.int .i64 (-1)) ∧ w = w' := by
  go_enter Tryz.func104, Tryz.ntmps104
  go_wp2_with ((with_reducible refine (nan_any _ _).mono ?_); rintro e w' ⟨rfl, rfl⟩)
  go_ret
  exact ⟨rfl, rfl⟩
theorem cmp_gt (x y : Int) (h : y < x) (w : World) : Calls Tryz.prog 104 #[.int .i64 x, .int .i64 y] w fun e w' => e = .returned (.int .i64 1) ∧ w = w' := by
  have h' : ¬ x < y := by omega
  go_enter Tryz.func104, Tryz.ntmps104
  go_wp2_with ((with_reducible refine (nan_any _ _).mono ?_); rintro e w' ⟨rfl, rfl⟩)
  go_ret
  exact ⟨rfl, rfl⟩
theorem cmp_eq (x : Int) (w : World) : Calls Tryz.prog 104 #[.int .i64 x, .int .i64 x] w fun e w' => e = .returned (.int .i64 0) ∧ w = w' := by
  have h' : ¬ x < x := by omega
  go_enter Tryz.func104, Tryz.ntmps104
  go_wp2_with ((with_reducible refine (nan_any _ _).mono ?_); rintro e w' ⟨rfl, rfl⟩)
  go_ret
  exact ⟨rfl, rfl⟩
theorem cmp_any (x y : Int) (w : World) : Calls Tryz.prog 104 #[.int .i64 x, .int .i64 y] w fun e w' => e = .returned (.int .i64 (cmpI x y)) ∧ w = w' := by
  unfold cmpI
  by_cases h1 : x < y
  · rw [if_pos h1]; exact cmp_lt x y h1 w
  · rw [if_neg h1]
    by_cases h2 : y < x
    · rw [if_pos h2]; exact cmp_gt x y h2 w
    · rw [if_neg h2]
      obtain rfl : x = y := by omega
      exact cmp_eq x w
set_option maxHeartbeats 400000 in
theorem compare_any (A A' : Option Addr) (n c B n' c' B' : Nat) (p q : List Int) (w : World) (h : Arg w B A n c p) (h' : Arg w B' A' n' c' q) :
    Calls Tryz.prog 105 #[.slice A n c, .slice A' n' c'] w fun e w' => e = .returned (.int .i64 (lexV p q)) ∧ w = w' := by
  obtain ⟨b, hb⟩ : ∃ b, lexV p q = b := ⟨_, rfl⟩
  have hl := h.len
  have hl' := h'.len
  have hn := h.le
  have hn' := h'.le
  have hr := h.reads
  have hr' := h'.reads
  clear h h'
  rw [hb]
  have HB := hide hb
  have HL := hide hl
  have HL' := hide hl'
  clear hb hl hl'
  go_enter Tryz.func105, Tryz.ntmps105
  go_wp2
  go_loop [5, 6, 7, 8, 11] (fun _ _ _ _ i => ∃ k : Nat, k ≤ n ∧ k ≤ n' ∧ i = .int .i64 k ∧ Hid (p.take k = q.take k)) (fun _ _ _ _ i => n - (intOf i).toNat)
  case atStart => exact ⟨0, Nat.zero_le _, Nat.zero_le _, rfl, by exact (rfl : p.take 0 = q.take 0)⟩
  case round =>
    obtain ⟨k, hk, hk', rfl, hs⟩ := hrel
    by_cases hlt : k < n
    · obtain ⟨ad, u, rfl, _, hu, hc⟩ := hr.at_ hlt
      obtain ⟨x, hx, rfl⟩ := i64_at hu
      by_cases hlt' : k < n'
      · obtain ⟨ad', u', rfl, _, hu', hc'⟩ := hr'.at_ hlt'
        obtain ⟨y, hy, rfl⟩ := i64_at hu'
        clear hu hu' hr hr'
        by_cases hxy : x = y
        · subst hxy
          have hnext := hide (take_same_step (unhide hs) hx hy)
          clear hx hy hs
          go_wp2_with ((with_reducible refine (cmp_eq _ _).mono ?_); rintro e w' ⟨rfl, rfl⟩)
          go_round
          case rel => exact ⟨k + 1, by omega, by omega, by go_num, hnext⟩
          case measure => simp [intOf]; omega
        · have hat := (unhide HB).symm.trans (lexV_at (unhide hs) hx hy hxy)
          by_cases hl : x < y
          · obtain rfl : b = -1 := by rw [hat]; simp [hl]
            clear hx hy hs HB hxy hat
            go_wp2_with ((with_reducible refine (cmp_lt _ _ hl _).mono ?_); rintro e w' ⟨rfl, rfl⟩)
            go_ret
            exact ⟨rfl, rfl⟩
          · have hg : y < x := by omega
            obtain rfl : b = 1 := by rw [hat]; simp [hl]
            clear hx hy hs HB hxy hat hl
            go_wp2_with ((with_reducible refine (cmp_gt _ _ hg _).mono ?_); rintro e w' ⟨rfl, rfl⟩)
            go_ret
            exact ⟨rfl, rfl⟩
      · obtain rfl : n' = k := by omega
        have hat := (unhide HB).symm.trans (lexV_end (unhide hs) (.inr (unhide HL').symm) (by rw [unhide HL]; omega) (by rw [unhide HL']; omega))
        rw [unhide HL, unhide HL', if_neg (by omega), if_pos hlt] at hat
        subst hat
        clear hu hx hs HB hr hr'
        go_wp2
        go_ret
        exact ⟨rfl, rfl⟩
    · obtain rfl : n = k := by omega
      have hat := (unhide HB).symm.trans (lexV_end (unhide hs) (.inl (unhide HL).symm) (by rw [unhide HL]; omega) (by rw [unhide HL']; omega))
      rw [unhide HL, unhide HL'] at hat
      clear HB hs hr hr'
      by_cases hlt' : n < n'
      · rw [if_pos hlt'] at hat
        subst hat
        go_wp2
        go_ret
        exact ⟨rfl, rfl⟩
      · rw [if_neg hlt', if_neg (by omega)] at hat
        subst hat
        go_wp2
        go_ret
        exact ⟨rfl, rfl⟩
def or2 (x y : Int) : Int := if x = 0 then y else x
theorem two_at {x y z : Int} {k : Nat} (h : [x, y][k]? = some z) : (k = 0 ∧ z = x) ∨ (k = 1 ∧ z = y) := by
  match k, h with
  | 0, h => simp at h; exact .inl ⟨rfl, h.symm⟩
  | 1, h => simp at h; exact .inr ⟨rfl, h.symm⟩
  | k + 2, h => simp at h
theorem cmpor_any (A : Option Addr) (c B : Nat) (x y : Int) (w : World) (hr : Reads w B A 2 (i64s [x, y])) :
    Calls Tryz.prog 103 #[.slice A 2 c] w fun e w' => e = .returned (.int .i64 (or2 x y)) ∧ w = w' := by
  obtain ⟨r, hrr⟩ : ∃ r, or2 x y = r := ⟨_, rfl⟩
  rw [hrr]
  have HR := hide hrr
  clear hrr
  go_enter Tryz.func103, Tryz.ntmps103
  go_wp2
  go_loop [5, 8] (fun _ i => ∃ k : Nat, k ≤ 2 ∧ i = .int .i64 k ∧ Hid (∀ j z, j < k → [x, y][j]? = some z → z = 0)) (fun _ i => 2 - (intOf i).toNat)
  case atStart => exact ⟨0, Nat.zero_le _, rfl, fun j z h => by omega⟩
  case round =>
    obtain ⟨k, hk, rfl, hz⟩ := hrel
    by_cases hlt : k < 2
    · obtain ⟨ad, u, rfl, _, hu, hc⟩ := hr.at_ hlt
      obtain ⟨v, hv, rfl⟩ := i64_at hu
      clear hu hr
      by_cases h0 : v = 0
      · subst h0
        have hn : Hid (∀ j z, j < k + 1 → [x, y][j]? = some z → z = 0) := fun j z hj h => by
          by_cases e : j = k
          · subst e
            rw [hv] at h
            exact (Option.some.inj h).symm
          · exact unhide hz j z (by omega) h
        clear hv hz
        go_wp2
        go_round
        case rel => exact ⟨k + 1, by omega, by go_num, hn⟩
        case measure => simp [intOf]; omega
      · obtain rfl : r = v := by
          rw [← unhide HR]
          unfold or2
          rcases two_at hv with ⟨rfl, rfl⟩ | ⟨rfl, rfl⟩
          · rw [if_neg h0]
          · rw [if_pos (unhide hz 0 x (by omega) rfl)]
        have hx' : (r != 0) = true := by simp [h0]
        clear h0 hv hz HR
        go_wp2
        go_ret
        exact ⟨rfl, rfl⟩
    · obtain rfl : k = 2 := by omega
      obtain rfl : r = 0 := by
        rw [← unhide HR]
        unfold or2
        rw [if_pos (unhide hz 0 x (by omega) rfl), unhide hz 1 y (by omega) rfl]
      clear hz HR hr
      go_wp2
      go_ret
      exact ⟨rfl, rfl⟩
theorem comparePerms_any (A A' : Option Addr) (n c B n' c' B' : Nat) (p q : List Int) (w : World) (h : Arg w B A n c p) (h' : Arg w B' A' n' c' q) :
    Calls Tryz.prog 83 #[.slice A n c, .slice A' n' c'] w fun e w' => e = .returned (.int .i64 (cmpV p q)) ∧ ∃ k os, w' = Sort.grow (w.drewN k) os := by
  have hv : or2 (cmpI n n') (lexV p q) = cmpV p q := by
    unfold or2 cmpV
    rw [h.len, h'.len]
  rw [← hv]
  have H1 := hide (cmp_any n n' w)
  have H2 := hide (compare_any A A' n c B n' c' B' p q w h h')
  clear hv h h'
  go_enter Tryz.func83, Tryz.ntmps83
  go_wp2_with fail
  refine (unhide H1).mono ?_
  rintro e w1 ⟨rfl, rfl⟩
  clear H1
  go_wp2_with fail
  refine (unhide H2).mono ?_
  rintro e w1 ⟨rfl, rfl⟩
  clear H2
  go_wp2_with fail
  have hR : Reads (w.alloc (.cells (i64s [cmpI n n', lexV p q]).toArray 3)) (w.heap.size + 1) (some ⟨w.heap.size, 0, none⟩) 2 (i64s [cmpI n n', lexV p q]) := ⟨rfl, fun _ => ⟨_, rfl, by simp, fun j u hu => by
    rw [show (⟨w.heap.size, 0, none⟩ : Addr).add j = ⟨w.heap.size, j, none⟩ by unfold Addr.add; split <;> simp_all, World.cell?_alloc_new]
    simpa using hu⟩⟩
  refine (cmpor_any _ 2 (w.heap.size + 1) _ _ _ hR).mono ?_
  rintro e w1 ⟨rfl, rfl⟩
  clear hR
  go_wp2
  go_ret
  exact ⟨rfl, 0, _, Sort.alloc_eq_grow _ _⟩
end Go.Proofs.YtplchjeamooliaaGreatDoor


/-
  spec.l2Same, slices.Equal, spec.IsInvolution, impl.IsInvolution, impl.inverseOf, by their contracts.
-/

namespace Go.Proofs.YtplchjeamooliaaGreatDoor
set_option maxRecDepth 100000
open Go.RowKit

theorem same_ne {p q : List Int} {k : Nat} {x y : Int} (hx : p[k]? = some x) (hy : q[k]? = some y) (h : x ≠ y) : decide (p = q) = false := by
  rw [decide_eq_false_iff_not]
  rintro rfl
  rw [hx] at hy
  exact h (Option.some.inj hy)
theorem same_len {p q : List Int} (h : p.length ≠ q.length) : decide (p = q) = false := by
  rw [decide_eq_false_iff_not]
  rintro rfl
  exact h rfl
theorem same_end {p q : List Int} {n : Nat} (h : p.take n = q.take n) (hp : p.length = n) (hq : q.length = n) : decide (p = q) = true := by
  rw [List.take_of_length_le (by omega), List.take_of_length_le (by omega)] at h
  simp [h]
set_option maxHeartbeats 400000 in
theorem l2same_any (A A' : Option Addr) (n c B n' c' B' : Nat) (p q : List Int) (b : Bool) (hb : decide (p = q) = b) (w : World) (h : Arg w B A n c p) (h' : Arg w B' A' n' c' q) :
    Calls Tryz.prog 95 #[.slice A n c, .slice A' n' c'] w fun e w' => e = .returned (.bool b) ∧ Drew w w' := by
  have hl := h.len
  have hl' := h'.len
  have hn := h.le
  have hn' := h'.le
  have hr := h.reads
  have hr' := h'.reads
  clear h h'
  by_cases he : n = n'
  · subst he
    have HB := hide hb
    have HL := hide hl
    have HL' := hide hl'
    clear hb hl hl'
    go_enter Tryz.func95, Tryz.ntmps95
    go_wp2
    go_loopw [5] (fun i wr => ∃ k : Nat, k ≤ n ∧ i = .int .i64 k ∧ Drew w wr ∧ Hid (p.take k = q.take k)) (fun i _ => n - (intOf i).toNat)
    case atStart => exact ⟨0, Nat.zero_le _, rfl, Drew.refl _, by exact (rfl : p.take 0 = q.take 0)⟩
    case round =>
      obtain ⟨k, hk, rfl, hd, hs⟩ := hrel
      by_cases hlt : k < n
      · obtain ⟨ad, u, rfl, _, hu, hc⟩ := (hr.ofDrew hd).at_ hlt
        obtain ⟨ad', u', rfl, _, hu', hc'⟩ := (hr'.ofDrew hd).at_ hlt
        obtain ⟨x, hx, rfl⟩ := i64_at hu
        obtain ⟨y, hy, rfl⟩ := i64_at hu'
        have HD := hide hd
        clear hu hu' hr hr' hd
        by_cases hxy : x = y
        · subst hxy
          have hnext := hide (take_same_step (unhide hs) hx hy)
          clear hx hy hs
          go_wp2
          go_quiet (fail)
          go_wp2
          go_roundw
          case rel => exact ⟨k + 1, by omega, by go_num, (unhide HD).more _, hnext⟩
          case measure => simp [intOf]; omega
        · obtain rfl : b = false := (unhide HB).symm.trans (same_ne hx hy hxy)
          have hne : (x == y) = false := by simpa using hxy
          clear hx hy hs HB hxy
          go_wp2
          go_quiet (fail)
          go_wp2
          go_ret
          exact ⟨rfl, (unhide HD).more _⟩
      · obtain rfl : n = k := by omega
        obtain rfl : b = true := (unhide HB).symm.trans (same_end (unhide hs) (unhide HL) (unhide HL'))
        clear HB hs
        go_wp2
        go_ret
        exact ⟨rfl, hd⟩
  · obtain rfl : b = false := hb.symm.trans (same_len (by omega))
    have hne : ((n : Int) == (n' : Int)) = false := by simp; omega
    clear hb hl hl' hr hr'
    go_enter Tryz.func95, Tryz.ntmps95
    go_wp2
    go_ret
    exact ⟨rfl, Drew.refl _⟩
set_option maxHeartbeats 400000 in
theorem eqsl_any (A A' : Option Addr) (n c B n' c' B' : Nat) (p q : List Int) (b : Bool) (hb : decide (p = q) = b) (w : World) (h : Arg w B A n c p) (h' : Arg w B' A' n' c' q) :
    Calls Tryz.prog 66 #[.slice A n c, .slice A' n' c'] w fun e w' => e = .returned (.bool b) ∧ Drew w w' := by
  have hl := h.len
  have hl' := h'.len
  have hn := h.le
  have hn' := h'.le
  have hr := h.reads
  have hr' := h'.reads
  clear h h'
  by_cases he : n = n'
  · subst he
    have HB := hide hb
    have HL := hide hl
    have HL' := hide hl'
    clear hb hl hl'
    go_enter Tryz.func66, Tryz.ntmps66
    go_wp2
    go_loopw [5, 13] (fun _ i wr => ∃ k : Nat, k ≤ n ∧ i = .int .i64 k ∧ Drew w wr ∧ Hid (p.take k = q.take k)) (fun _ i _ => n - (intOf i).toNat)
    case atStart => exact ⟨0, Nat.zero_le _, rfl, Drew.refl _, by exact (rfl : p.take 0 = q.take 0)⟩
    case round =>
      obtain ⟨k, hk, rfl, hd, hs⟩ := hrel
      by_cases hlt : k < n
      · obtain ⟨ad, u, rfl, _, hu, hc⟩ := (hr.ofDrew hd).at_ hlt
        obtain ⟨ad', u', rfl, _, hu', hc'⟩ := (hr'.ofDrew hd).at_ hlt
        obtain ⟨x, hx, rfl⟩ := i64_at hu
        obtain ⟨y, hy, rfl⟩ := i64_at hu'
        have HD := hide hd
        clear hu hu' hr hr' hd
        by_cases hxy : x = y
        · subst hxy
          have hnext := hide (take_same_step (unhide hs) hx hy)
          clear hx hy hs
          go_wp2
          go_quiet (fail)
          go_wp2
          go_roundw
          case rel => exact ⟨k + 1, by omega, by go_num, (unhide HD).more _, hnext⟩
          case measure => simp [intOf]; omega
        · obtain rfl : b = false := (unhide HB).symm.trans (same_ne hx hy hxy)
          have hne : (x == y) = false := by simpa using hxy
          clear hx hy hs HB hxy
          go_wp2
          go_quiet (fail)
          go_wp2
          go_ret
          exact ⟨rfl, (unhide HD).more _⟩
      · obtain rfl : n = k := by omega
        obtain rfl : b = true := (unhide HB).symm.trans (same_end (unhide hs) (unhide HL) (unhide HL'))
        clear HB hs
        go_wp2
        go_ret
        exact ⟨rfl, hd⟩
  · obtain rfl : b = false := hb.symm.trans (same_len (by omega))
    have hne : ((n : Int) == (n' : Int)) = false := by simp; omega
    clear hb hl hl' hr hr'
    go_enter Tryz.func66, Tryz.ntmps66
    go_wp2
    go_ret
    exact ⟨rfl, Drew.refl _⟩
theorem isP_small {p : List Int} (h : isP p = true) : Small p := fun z hz => by
  have h1 := (isP_true.1 h).2.1 z hz
  have h2 := isP_le h
  omega
theorem Ints.argP {w : World} {B n c : Nat} {A : Option Addr} {zs : List Int} (h : Ints w B (.slice A n c) zs) (hp : isP zs = true) : Arg w w.heap.size A n c zs :=
  h.arg (by have := isP_le hp; have := h.len; omega) h.cap (isP_small hp)
end Go.Proofs.YtplchjeamooliaaGreatDoor


/-
  spec.l3Put, by its contract.
-/

namespace Go.Proofs.YtplchjeamooliaaGreatDoor
set_option maxRecDepth 100000
open Go.RowKit

theorem Inner.put {w : World} {B s : Nat} {vs : List Value} {zss : List (List Int)} {u : Value} {z : List Int} (h : Inner w B vs zss) (hs : s ≤ zss.length) (hu : Ints w B u z) (ha : ∀ x ∈ vs, Away x u) : Inner w B (vs.take s ++ [u] ++ vs.drop s) (zss.take s ++ [z] ++ zss.drop s) := by
  have hl := h.len
  refine ⟨by simp; omega, fun i x ys hx hy => ?_, ?_⟩
  · by_cases h1 : i < s
    · rw [List.append_assoc, List.getElem?_append_left (by rw [List.length_take]; omega), List.getElem?_take_of_lt h1] at hx hy
      exact h.row i x ys hx hy
    · by_cases h2 : i = s
      · subst h2
        rw [List.append_assoc, List.getElem?_append_right (by rw [List.length_take]; omega), List.length_take, Nat.min_eq_left (by omega)] at hx hy
        simp at hx hy
        subst hx; subst hy
        exact hu
      · rw [List.getElem?_append_right (by simp; omega)] at hx hy
        simp only [List.length_append, List.length_take, List.length_singleton] at hx hy
        rw [List.getElem?_drop] at hx hy
        rw [Nat.min_eq_left (by omega)] at hx hy
        exact h.row _ x ys hx hy
  · have ht := h.away
    rw [← List.take_append_drop s vs, List.pairwise_append] at ht
    obtain ⟨h1, h2, h3⟩ := ht
    rw [List.append_assoc, List.pairwise_append]
    refine ⟨h1, ?_, fun a ha' b hb => ?_⟩
    · rw [List.singleton_append, List.pairwise_cons]
      exact ⟨fun b hb => (ha b (List.mem_of_mem_drop hb)).symm, h2⟩
    · rw [List.singleton_append, List.mem_cons] at hb
      rcases hb with rfl | hb
      · exact ha a (List.mem_of_mem_take ha')
      · exact h3 a ha' b hb
theorem own_news {w : World} {B n : Nat} {v : Value} {vs : List Value} {zss : List (List Int)} (_h : w.ownsRow B 27 1 v n vs) (hin : Inner w B vs zss) : ∀ u ∈ vs, u.oneCell' = true := fun u hu => by
  obtain ⟨zs, hz⟩ := hin.mem hu
  obtain ⟨A, c, rfl⟩ := hz.slice
  rfl

/-- A list of rows that lies at a block's head. -/
def PutS (w : World) (B : Nat) (v : Value) (zss : List (List Int)) : Prop := IntsS w B v zss ∧ ∃ g cap, v = .slice (some ⟨g, 0, none⟩) zss.length cap
def PutEnds (w : World) (B : Nat) (zss : List (List Int)) (e : Ending) (w' : World) : Prop := ∃ v', e = .returned v' ∧ PutS w' B v' zss ∧ Below B w w' ∧ KeepI w w'

theorem Arg.drew {w : World} {B n c : Nat} {A : Option Addr} {zs : List Int} (h : Arg w B A n c zs) : Arg w.drew B A n c zs := ⟨h.reads.drew, h.under, h.le, h.cap, h.small, h.nil⟩
theorem own_shape {w : World} {B n : Nat} {e : TypeId} {v : Value} {xs : List Value} (h : w.ownsRow B e 1 v n xs) (hv : v ≠ .slice none 0 0) : ∃ g cap, v = .slice (some ⟨g, 0, none⟩) n cap ∧ B ≤ g ∧ n ≤ cap := by
  rcases h.2 with ⟨h0, _⟩ | ⟨g, cap, cur, h1, h2, _, h3, _⟩
  · exact absurd h0 hv
  · exact ⟨g, cap, h1, h2, h3⟩

set_option maxHeartbeats 1600000 in
theorem l3putS_any (B : Nat) (zss : List (List Int)) (g n cap : Nat) (A : Option Addr) (m c B' : Nat) (p : List Int) (w : World) (hS : IntsS w B (.slice (some ⟨g, 0, none⟩) n cap) zss) (hp : Arg w B' A m c p) (hB : B ≤ w.heap.size)
    (hall : ∀ z ∈ zss, z.length ≤ 1048576 ∧ Small z) (hn : n ≤ 1048576) :
    Calls Tryz.prog 73 #[.slice (some ⟨g, 0, none⟩) n cap, .slice A m c] w (PutEnds w B (putL zss p)) := by
  have hl := hS.len
  have HL := hide hl
  have HALL := hide hall
  clear hl hall
  go_enter Tryz.func73, Tryz.ntmps73
  go_wp2
  go_loopw [5] (fun i wr => ∃ k : Nat, k ≤ n ∧ i = .int .i64 k ∧ Drew w wr ∧ Hid (scanL zss p n = scanL zss p k)) (fun i _ => (intOf i).toNat)
  case atStart => exact ⟨n, Nat.le_refl _, rfl, Drew.refl _, by exact rfl⟩
  case round =>
    obtain ⟨k, hk, rfl, hd, hsc⟩ := hrel
    cases k with
    | zero =>
      have hput : Hid (putL zss p = zss.take 0 ++ [p] ++ zss.drop 0) := by
        have h := unhide hsc
        rw [← unhide HL] at h
        show putL zss p = _
        unfold putL
        rw [h, scanL, if_neg (by omega)]
      have hbW := hd.below w.heap.size
      have hkw := hd.keepI
      have hp := hp.below hbW
      have hS := hS.below hbW
      have hks : 0 ≤ n := Nat.zero_le n
      clear hsc
      obtain ⟨vs, hown, hin⟩ := hS
      rw [unhide HL] at hown
      have hgl := (hown.lt g rfl).2
      have hst := ownS0 wr wr.heap.size (Nat.le_refl _)
      have hbel := (Below.refl wr.heap.size wr).alloc (Nat.le_refl _) (.cells #[] 27)
      have hrest := ((own_rest hown hks).below hbel)
      have hones : ∀ u ∈ vs.drop (0), u.oneCell' = true := fun u hu => own_news hown hin u (List.mem_of_mem_drop hu)
      have HONES := hide hones
      go_wp2_with (at_builtin; refine wpList_append_rows rfl (.tmp 34) (.tmp 37) rfl wr.heap.size wr.heap.size 0 (n) (cap) wr _ (some ⟨g, 0, none⟩) [] (vs.drop (0)) rfl rfl hst hrest (fun h => by cases h) hones (by omega) (by omega) hbel hbel.size ?_; intro v6 w6 hown6 hb6 hg6 hnil6)
      rw [Nat.zero_add, List.nil_append] at hown6
      obtain ⟨g6, cap6, rfl, hg6l, hcap6⟩ := own_shape hown6 (fun h => by cases hnil6 h)
      have hA6 := hp.below hb6
      have hst6 := own0 w6 w6.heap.size (Nat.le_refl _)
      have hbel6 := (Below.refl w6.heap.size w6).alloc (Nat.le_refl _) (.cells #[] 3)
      have hA7 := (hA6.below hbel6).drew
      have hs6 := hbel6.size
      have hown7 := own_below hown hb6
      have hin7 := hin.keepI (KeepI.of_below hb6)
      have hkw6 := hkw.trans (KeepI.of_below hb6)
      have hbw6 := (hbW.mono hB).trans (hb6.mono (Nat.le_trans hB hbW.size))
      clear hst hbel hrest hones hp hkw hin hown hg6 hnil6
      go_region_held3 (fun _ => True) (trivial)
        (first
         | ((refine step_append_arg (by rfl) (.tmp 42) (.tmp 43) (by rfl) w6.heap.size B' 0 m c w6 _ A [] p (by rfl) (by rfl) hst6 hA7 (by omega) hbel6.drew hs6 ?_); intro v7 w7 hw7 hb7 hg7; clear hg7;
            have hI7 : Ints w7 w6.heap.size v7 p := Ints.of_own hw7;
            obtain ⟨A7, c7, rfl⟩ := hI7.slice;
            have hone7 : ∀ u ∈ [Value.slice A7 p.length c7], u.oneCell' = true := (fun u hu => by (rw [List.mem_singleton] at hu; subst hu; rfl));
            have haw7 := hin7.away_new hI7.since (Nat.le_refl _);
            have hin8 := hin7.keepI (KeepI.of_below hb7);
            have hown8 := own_cut (own_below hown7 hb7) hks;
            have hrest8 := own_below hown6 hb7;
            have hkw8 := hkw6.trans (KeepI.of_below hb7);
            have hbw8 := hbw6.trans (hb7.mono (Nat.le_trans hB (Nat.le_trans hbW.size hb6.size)));
            have hsz8 : B ≤ w7.heap.size := Nat.le_trans hB (Nat.le_trans hbW.size (Nat.le_trans hb6.size hb7.size));
            have hx8 := reads_new w7 (.slice A7 p.length c7) 27;
            have hal := (Below.refl w7.heap.size w7).alloc (Nat.le_refl _) (.cells #[.slice A7 p.length c7] 27);
            clear hst6 hbel6 hA7 hs6 hown7 hown6 hin7 hkw6 hbw6 hw7 hb7)
         | ((refine step_append_rows (by rfl) (.tmp 41) (.tmp 45) (by rfl) B (w7.heap.size + 1) (0) 1 1 w _ (some ⟨w7.heap.size, 0, none⟩) (vs.take (0)) [.slice A7 p.length c7] (by rfl) (by rfl) (own_below hown8 hal) hx8 (fun h => by cases h) hone7 (by omega) (by omega) (hbw8.trans (hal.mono hsz8)) (Nat.le_trans hsz8 hal.size) ?_); intro v9 w9 hown9 hb9 hg9 hnil9;
            have hk9 := (hkw8.trans (KeepI.of_below hal)).trans (KeepI.of_grown (own_below hown8 hal) hg9);
            have hin9 := (hin8.keepI (KeepI.of_below hal)).keepI (KeepI.of_grown (own_below hown8 hal) hg9);
            have hI9 := (hI7.keepI (KeepI.of_below hal)).keepI (KeepI.of_grown (own_below hown8 hal) hg9);
            have hrest9 := (own_below hrest8 hal).kept hg9 (.inr (fun e => by (have e2 : g6 = g := by simpa [Value.ownBlock] using e); omega));
            have hsz9 := Nat.le_trans hsz8 (Nat.le_trans hal.size hg9.size);
            clear hown8 hrest8 hkw8 hbw8 hsz8 hx8 hal hin8 hI7 hone7 hg9)
         | ((refine step_append_rows (by rfl) (.tmp 46) (.tmp 47) (by rfl) B w9.heap.size (0 + 1) (n) cap6 w _ (some ⟨g6, 0, none⟩) (vs.take (0) ++ [.slice A7 p.length c7]) (vs.drop (0)) (by rfl) (by rfl) hown9 (Reads.of_own_at hrest9) (fun h => by cases h) (unhide HONES) (by omega) (by omega) hb9 hsz9 ?_); intro v10 w10 hown10 hb10 hg10 hnil10;
            have hk10 := hk9.trans (KeepI.of_grown hown9 hg10);
            have hin10 := hin9.keepI (KeepI.of_grown hown9 hg10);
            have hI10 := hI9.keepI (KeepI.of_grown hown9 hg10);
            clear hk9 hin9 hI9 hown9 hrest9))
      have hfin : PutS w10 B v10 (putL zss p) := by
        have hz := unhide HL
        have hin := hin10.put (s := 0) (by rw [hz]; exact hks) (hI10.low (Nat.le_trans hB (Nat.le_trans hbW.size hb6.size))) haw7
        have hlen : (zss.take (0) ++ [p] ++ zss.drop (0)).length = 0 + 1 + (n) := by
          simp only [List.length_append, List.length_take, List.length_drop, List.length_singleton]
          omega
        rw [unhide hput]
        obtain ⟨g10, cap10, h10, _, _⟩ := own_shape hown10 (fun h => by cases hnil9 (hnil10 h))
        exact ⟨⟨_, by rw [hlen]; exact hown10, hin⟩, g10, cap10, by rw [hlen]; exact h10⟩
      clear hown10 hin10 hI10 hnil9 hnil10 haw7
      go_wp2
      go_ret
      exact ⟨v10, rfl, hfin, hb10, hk10⟩
    | succ k =>
      obtain ⟨ad, A1, c1, z, he, hz, hcell, hI⟩ := (hS.below (hd.below _)).at_ (show k < n by omega)
      injection he with he
      subst he
      have hcell : wr.cell? ⟨g, k, none⟩ = some (.slice A1 z.length c1) := by
        rwa [show (⟨g, 0, none⟩ : Addr).add k = ⟨g, k, none⟩ by unfold Addr.add; split <;> simp_all] at hcell
      have hzP := unhide HALL z (List.mem_of_getElem? hz)
      have hAz := hI.arg hzP.1 hI.cap hzP.2
      obtain ⟨b, hb⟩ : ∃ b, befL p z = b := ⟨_, rfl⟩
      have hpW := hp.below (hd.below _)
      have H1 := hide (l2bef_any A A1 m c B' z.length c1 wr.heap.size p z b hb wr hpW hAz)
      have hki : ((k + 1 : Nat) : Int) - 1 = (k : Int) := by omega
      cases b with
      | true =>
        have hnext := hide ((unhide hsc).trans (scanL_yes hz hb))
        clear hz hb hI hAz hsc hpW hS hp
        go_wp2_with fail
        refine (unhide H1).mono ?_
        rintro e w1 ⟨rfl, hd1⟩
        have hd2 := hd.trans hd1
        clear H1 hd hd1
        go_wp2
        go_roundw
        case rel => exact ⟨k, by omega, by go_num, hd2, hnext⟩
        case measure => simp [intOf]
      | false =>
        have hsc1 := (unhide hsc).trans (scanL_no hz hb)
        rw [← unhide HL] at hsc1
        obtain ⟨b2, hb2⟩ : ∃ b, decide (z = p) = b := ⟨_, rfl⟩
        have H2 := hide (fun w' (hb' : Below wr.heap.size wr w') => l2same_any A1 A z.length c1 wr.heap.size m c B' z p b2 hb2 w' ((hI.below hb').arg hzP.1 (hI.below hb').cap hzP.2 |>.more (Nat.le_refl _) (Nat.le_refl _) |> fun h => ⟨hI.reads.below hb', hb'.size, h.le, h.cap, h.small, h.nil⟩) (hpW.below hb'))
        have hput : Hid (putL zss p = if b2 = true then zss else zss.take (k + 1) ++ [p] ++ zss.drop (k + 1)) := by
          show putL zss p = _
          unfold putL
          rw [hsc1, show k + 1 - 1 = k by omega, getD_of hz]
          cases b2 with
          | true => rw [if_pos ⟨by omega, of_decide_eq_true hb2⟩, if_pos rfl]
          | false => rw [if_neg (fun h => of_decide_eq_false hb2 h.2), if_neg (by simp)]
        clear hz hb hI hAz hsc hsc1 hb2 hpW
        go_wp2_with fail
        refine (unhide H1).mono ?_
        rintro e w1 ⟨rfl, hd1⟩
        have H3 := hide (unhide H2 w1 (hd1.below _))
        have hcell1 := (hd1.cell ⟨g, k, none⟩).trans hcell
        replace hd := hd.trans hd1
        clear H1 H2 hd1 hcell
        go_wp2_with fail
        refine (unhide H3).mono ?_
        rintro e w2 ⟨rfl, hd2⟩
        replace hd := hd.trans hd2
        have hbW := hd.below w.heap.size
        have hkw := hd.keepI
        replace hp := hp.below hbW
        replace hS := hS.below hbW
        clear H3 hd2 hcell1
        cases b2 with
        | true =>
          replace hput := hide ((unhide hput).trans (if_pos rfl))
          go_wp2
          go_ret
          rw [← unhide hput] at hS
          exact ⟨.slice (some ⟨g, 0, none⟩) n cap, rfl, ⟨hS, g, cap, by rw [hS.len]⟩, hbW.mono hB, hkw⟩
        | false =>
          replace hput := hide ((unhide hput).trans (if_neg (by simp)))
          have hcn : n ≤ cap := by
            obtain ⟨vs, hown, _⟩ := hS
            rw [unhide HL] at hown
            rcases hown.2 with ⟨hv, _⟩ | ⟨g', cap', cur, hv, _, _, h3, _⟩
            · cases hv
            · injection hv with _ _ h4; omega
          by_cases hcap : cap = k + 1
          · subst hcap
            obtain rfl : n = k + 1 := by omega
            have hbd0 : (0 : Int) ≤ (k : Int) + 1 := by omega
            have hbd1 : (k : Int) + 1 ≤ ((k + 1 : Nat) : Int) := by omega
            have hks : k + 1 ≤ k + 1 := Nat.le_refl _
            obtain ⟨vs, hown, hin⟩ := hS
            rw [unhide HL] at hown
            have hgl := (hown.lt g rfl).2
            have hst := ownS0 w2 w2.heap.size (Nat.le_refl _)
            have hbel := (Below.refl w2.heap.size w2).alloc (Nat.le_refl _) (.cells #[] 27)
            have hrest : Reads (w2.alloc (.cells #[] 27)) w2.heap.size (some ⟨g, 0, none⟩) 0 (vs.drop (k + 1)) := ⟨by rw [List.length_drop]; have := hown.1; omega, fun h => by omega⟩
            have hones : ∀ u ∈ vs.drop (k + 1), u.oneCell' = true := fun u hu => own_news hown hin u (List.mem_of_mem_drop hu)
            have HONES := hide hones
            go_wp2_with (at_builtin; refine wpList_append_rows rfl (.tmp 34) (.tmp 37) rfl w2.heap.size w2.heap.size 0 (0) (0) w2 _ (some ⟨g, 0, none⟩) [] (vs.drop (k + 1)) rfl rfl hst hrest (fun h => by cases h) hones (by omega) (by omega) hbel hbel.size ?_; intro v6 w6 hown6 hb6 hg6 hnil6)
            rw [Nat.zero_add, List.nil_append] at hown6
            obtain ⟨g6, cap6, rfl, hg6l, hcap6⟩ := own_shape hown6 (fun h => by cases hnil6 h)
            have hA6 := hp.below hb6
            have hst6 := own0 w6 w6.heap.size (Nat.le_refl _)
            have hbel6 := (Below.refl w6.heap.size w6).alloc (Nat.le_refl _) (.cells #[] 3)
            have hA7 := (hA6.below hbel6).drew
            have hs6 := hbel6.size
            have hown7 := own_below hown hb6
            have hin7 := hin.keepI (KeepI.of_below hb6)
            have hkw6 := hkw.trans (KeepI.of_below hb6)
            have hbw6 := (hbW.mono hB).trans (hb6.mono (Nat.le_trans hB hbW.size))
            clear hst hbel hrest hones hp hkw hin hown hg6 hnil6
            go_region_held3 (fun _ => True) (trivial)
              (first
               | ((refine step_append_arg (by rfl) (.tmp 42) (.tmp 43) (by rfl) w6.heap.size B' 0 m c w6 _ A [] p (by rfl) (by rfl) hst6 hA7 (by omega) hbel6.drew hs6 ?_); intro v7 w7 hw7 hb7 hg7; clear hg7;
                  have hI7 : Ints w7 w6.heap.size v7 p := Ints.of_own hw7;
                  obtain ⟨A7, c7, rfl⟩ := hI7.slice;
                  have hone7 : ∀ u ∈ [Value.slice A7 p.length c7], u.oneCell' = true := (fun u hu => by (rw [List.mem_singleton] at hu; subst hu; rfl));
                  have haw7 := hin7.away_new hI7.since (Nat.le_refl _);
                  have hin8 := hin7.keepI (KeepI.of_below hb7);
                  have hown8 := own_cut (own_below hown7 hb7) hks;
                  have hrest8 := own_below hown6 hb7;
                  have hkw8 := hkw6.trans (KeepI.of_below hb7);
                  have hbw8 := hbw6.trans (hb7.mono (Nat.le_trans hB (Nat.le_trans hbW.size hb6.size)));
                  have hsz8 : B ≤ w7.heap.size := Nat.le_trans hB (Nat.le_trans hbW.size (Nat.le_trans hb6.size hb7.size));
                  have hx8 := reads_new w7 (.slice A7 p.length c7) 27;
                  have hal := (Below.refl w7.heap.size w7).alloc (Nat.le_refl _) (.cells #[.slice A7 p.length c7] 27);
                  clear hst6 hbel6 hA7 hs6 hown7 hown6 hin7 hkw6 hbw6 hw7 hb7)
               | ((refine step_append_rows (by rfl) (.tmp 41) (.tmp 45) (by rfl) B (w7.heap.size + 1) (k + 1) 1 1 w _ (some ⟨w7.heap.size, 0, none⟩) (vs.take (k + 1)) [.slice A7 p.length c7] (by rfl) (by rfl) (own_below hown8 hal) hx8 (fun h => by cases h) hone7 (by omega) (by omega) (hbw8.trans (hal.mono hsz8)) (Nat.le_trans hsz8 hal.size) ?_); intro v9 w9 hown9 hb9 hg9 hnil9;
                  have hk9 := (hkw8.trans (KeepI.of_below hal)).trans (KeepI.of_grown (own_below hown8 hal) hg9);
                  have hin9 := (hin8.keepI (KeepI.of_below hal)).keepI (KeepI.of_grown (own_below hown8 hal) hg9);
                  have hI9 := (hI7.keepI (KeepI.of_below hal)).keepI (KeepI.of_grown (own_below hown8 hal) hg9);
                  have hrest9 := (own_below hrest8 hal).kept hg9 (.inr (fun e => by (have e2 : g6 = g := by simpa [Value.ownBlock] using e); omega));
                  have hsz9 := Nat.le_trans hsz8 (Nat.le_trans hal.size hg9.size);
                  clear hown8 hrest8 hkw8 hbw8 hsz8 hx8 hal hin8 hI7 hone7 hg9)
               | ((refine step_append_rows (by rfl) (.tmp 46) (.tmp 47) (by rfl) B w9.heap.size (k + 1 + 1) (0) cap6 w _ (some ⟨g6, 0, none⟩) (vs.take (k + 1) ++ [.slice A7 p.length c7]) (vs.drop (k + 1)) (by rfl) (by rfl) hown9 (Reads.of_own_at hrest9) (fun h => by cases h) (unhide HONES) (by omega) (by omega) hb9 hsz9 ?_); intro v10 w10 hown10 hb10 hg10 hnil10;
                  have hk10 := hk9.trans (KeepI.of_grown hown9 hg10);
                  have hin10 := hin9.keepI (KeepI.of_grown hown9 hg10);
                  have hI10 := hI9.keepI (KeepI.of_grown hown9 hg10);
                  clear hk9 hin9 hI9 hown9 hrest9))
            have hfin : PutS w10 B v10 (putL zss p) := by
              have hz := unhide HL
              have hin := hin10.put (s := k + 1) (by rw [hz]; exact hks) (hI10.low (Nat.le_trans hB (Nat.le_trans hbW.size hb6.size))) haw7
              have hlen : (zss.take (k + 1) ++ [p] ++ zss.drop (k + 1)).length = k + 1 + 1 + (0) := by
                simp only [List.length_append, List.length_take, List.length_drop, List.length_singleton]
                omega
              rw [unhide hput]
              obtain ⟨g10, cap10, h10, _, _⟩ := own_shape hown10 (fun h => by cases hnil9 (hnil10 h))
              exact ⟨⟨_, by rw [hlen]; exact hown10, hin⟩, g10, cap10, by rw [hlen]; exact h10⟩
            clear hown10 hin10 hI10 hnil9 hnil10 haw7
            go_wp2
            go_ret
            exact ⟨v10, rfl, hfin, hb10, hk10⟩
          · have hbd0 : (0 : Int) ≤ (k : Int) + 1 := by omega
            have hbd1 : (k : Int) + 1 ≤ (cap : Int) := by omega
            have hks : k + 1 ≤ n := hk
            clear hcn
            obtain ⟨vs, hown, hin⟩ := hS
            rw [unhide HL] at hown
            have hgl := (hown.lt g rfl).2
            have hst := ownS0 w2 w2.heap.size (Nat.le_refl _)
            have hbel := (Below.refl w2.heap.size w2).alloc (Nat.le_refl _) (.cells #[] 27)
            have hrest := ((own_rest hown hks).below hbel)
            have hones : ∀ u ∈ vs.drop (k + 1), u.oneCell' = true := fun u hu => own_news hown hin u (List.mem_of_mem_drop hu)
            have HONES := hide hones
            go_wp2_with (at_builtin; refine wpList_append_rows rfl (.tmp 34) (.tmp 37) rfl w2.heap.size w2.heap.size 0 (n - (k + 1)) (cap - (k + 1)) w2 _ (some ⟨g, k + 1, none⟩) [] (vs.drop (k + 1)) rfl rfl hst hrest (fun h => by cases h) hones (by omega) (by omega) hbel hbel.size ?_; intro v6 w6 hown6 hb6 hg6 hnil6)
            rw [Nat.zero_add, List.nil_append] at hown6
            obtain ⟨g6, cap6, rfl, hg6l, hcap6⟩ := own_shape hown6 (fun h => by cases hnil6 h)
            have hA6 := hp.below hb6
            have hst6 := own0 w6 w6.heap.size (Nat.le_refl _)
            have hbel6 := (Below.refl w6.heap.size w6).alloc (Nat.le_refl _) (.cells #[] 3)
            have hA7 := (hA6.below hbel6).drew
            have hs6 := hbel6.size
            have hown7 := own_below hown hb6
            have hin7 := hin.keepI (KeepI.of_below hb6)
            have hkw6 := hkw.trans (KeepI.of_below hb6)
            have hbw6 := (hbW.mono hB).trans (hb6.mono (Nat.le_trans hB hbW.size))
            clear hst hbel hrest hones hp hkw hin hown hg6 hnil6
            go_region_held3 (fun _ => True) (trivial)
              (first
               | ((refine step_append_arg (by rfl) (.tmp 42) (.tmp 43) (by rfl) w6.heap.size B' 0 m c w6 _ A [] p (by rfl) (by rfl) hst6 hA7 (by omega) hbel6.drew hs6 ?_); intro v7 w7 hw7 hb7 hg7; clear hg7;
                  have hI7 : Ints w7 w6.heap.size v7 p := Ints.of_own hw7;
                  obtain ⟨A7, c7, rfl⟩ := hI7.slice;
                  have hone7 : ∀ u ∈ [Value.slice A7 p.length c7], u.oneCell' = true := (fun u hu => by (rw [List.mem_singleton] at hu; subst hu; rfl));
                  have haw7 := hin7.away_new hI7.since (Nat.le_refl _);
                  have hin8 := hin7.keepI (KeepI.of_below hb7);
                  have hown8 := own_cut (own_below hown7 hb7) hks;
                  have hrest8 := own_below hown6 hb7;
                  have hkw8 := hkw6.trans (KeepI.of_below hb7);
                  have hbw8 := hbw6.trans (hb7.mono (Nat.le_trans hB (Nat.le_trans hbW.size hb6.size)));
                  have hsz8 : B ≤ w7.heap.size := Nat.le_trans hB (Nat.le_trans hbW.size (Nat.le_trans hb6.size hb7.size));
                  have hx8 := reads_new w7 (.slice A7 p.length c7) 27;
                  have hal := (Below.refl w7.heap.size w7).alloc (Nat.le_refl _) (.cells #[.slice A7 p.length c7] 27);
                  clear hst6 hbel6 hA7 hs6 hown7 hown6 hin7 hkw6 hbw6 hw7 hb7)
               | ((refine step_append_rows (by rfl) (.tmp 41) (.tmp 45) (by rfl) B (w7.heap.size + 1) (k + 1) 1 1 w _ (some ⟨w7.heap.size, 0, none⟩) (vs.take (k + 1)) [.slice A7 p.length c7] (by rfl) (by rfl) (own_below hown8 hal) hx8 (fun h => by cases h) hone7 (by omega) (by omega) (hbw8.trans (hal.mono hsz8)) (Nat.le_trans hsz8 hal.size) ?_); intro v9 w9 hown9 hb9 hg9 hnil9;
                  have hk9 := (hkw8.trans (KeepI.of_below hal)).trans (KeepI.of_grown (own_below hown8 hal) hg9);
                  have hin9 := (hin8.keepI (KeepI.of_below hal)).keepI (KeepI.of_grown (own_below hown8 hal) hg9);
                  have hI9 := (hI7.keepI (KeepI.of_below hal)).keepI (KeepI.of_grown (own_below hown8 hal) hg9);
                  have hrest9 := (own_below hrest8 hal).kept hg9 (.inr (fun e => by (have e2 : g6 = g := by simpa [Value.ownBlock] using e); omega));
                  have hsz9 := Nat.le_trans hsz8 (Nat.le_trans hal.size hg9.size);
                  clear hown8 hrest8 hkw8 hbw8 hsz8 hx8 hal hin8 hI7 hone7 hg9)
               | ((refine step_append_rows (by rfl) (.tmp 46) (.tmp 47) (by rfl) B w9.heap.size (k + 1 + 1) (n - (k + 1)) cap6 w _ (some ⟨g6, 0, none⟩) (vs.take (k + 1) ++ [.slice A7 p.length c7]) (vs.drop (k + 1)) (by rfl) (by rfl) hown9 (Reads.of_own_at hrest9) (fun h => by cases h) (unhide HONES) (by omega) (by omega) hb9 hsz9 ?_); intro v10 w10 hown10 hb10 hg10 hnil10;
                  have hk10 := hk9.trans (KeepI.of_grown hown9 hg10);
                  have hin10 := hin9.keepI (KeepI.of_grown hown9 hg10);
                  have hI10 := hI9.keepI (KeepI.of_grown hown9 hg10);
                  clear hk9 hin9 hI9 hown9 hrest9))
            have hfin : PutS w10 B v10 (putL zss p) := by
              have hz := unhide HL
              have hin := hin10.put (s := k + 1) (by rw [hz]; exact hks) (hI10.low (Nat.le_trans hB (Nat.le_trans hbW.size hb6.size))) haw7
              have hlen : (zss.take (k + 1) ++ [p] ++ zss.drop (k + 1)).length = k + 1 + 1 + (n - (k + 1)) := by
                simp only [List.length_append, List.length_take, List.length_drop, List.length_singleton]
                omega
              rw [unhide hput]
              obtain ⟨g10, cap10, h10, _, _⟩ := own_shape hown10 (fun h => by cases hnil9 (hnil10 h))
              exact ⟨⟨_, by rw [hlen]; exact hown10, hin⟩, g10, cap10, by rw [hlen]; exact h10⟩
            clear hown10 hin10 hI10 hnil9 hnil10 haw7
            go_wp2
            go_ret
            exact ⟨v10, rfl, hfin, hb10, hk10⟩
theorem l3put_any (B : Nat) (zss : List (List Int)) (g n cap : Nat) (A : Option Addr) (m c B' : Nat) (p : List Int) (w : World) (hS : IntsS w B (.slice (some ⟨g, 0, none⟩) n cap) zss) (hp : Arg w B' A m c p) (hB : B ≤ w.heap.size)
    (hall : ∀ z ∈ zss, isP z = true) (hn : n ≤ 1048576) :
    Calls Tryz.prog 73 #[.slice (some ⟨g, 0, none⟩) n cap, .slice A m c] w (PutEnds w B (putL zss p)) :=
  l3putS_any B zss g n cap A m c B' p w hS hp hB (fun z hz => ⟨by have := isP_le (hall z hz); omega, isP_small (hall z hz)⟩) hn
end Go.Proofs.YtplchjeamooliaaGreatDoor


/-
  spec.l7Without, spec.WithoutPlace, spec.LowersOf, by their contracts.
-/

namespace Go.Proofs.YtplchjeamooliaaGreatDoor
set_option maxRecDepth 100000
open Go.RowKit

theorem place_nat' {n : Nat} {x : Int} (h : 1 ≤ x ∧ x ≤ (n : Int)) : ∃ X : Nat, x = ((X + 1 : Nat) : Int) ∧ X < n := ⟨x.toNat - 1, by omega, by omega⟩
/-- A list without the number at index k. -/
def cutAt (p : List Int) (k : Nat) : List Int := p.take k ++ p.drop (k + 1)
theorem cutAt_len {p : List Int} {k : Nat} (h : k < p.length) : (cutAt p k).length + 1 = p.length := by
  unfold cutAt
  rw [List.length_append, List.length_take, List.length_drop]; omega
theorem cutAt_sub (p : List Int) (k : Nat) : (cutAt p k).Sublist p := by
  have h : (p.take k ++ p.drop (k + 1)).Sublist (p.take k ++ p.drop k) := (List.Sublist.refl _).append (by
    rw [← List.drop_drop]; exact List.drop_sublist _ _)
  rwa [List.take_append_drop] at h
theorem cutAt_isP {p : List Int} (hp : isP p = true) (k : Nat) : isP (patL (cutAt p k)) = true := by
  rw [isP_pat]
  have h := isP_true.1 hp
  exact patOK_yes (Nat.le_trans (cutAt_sub p k).length_le (isP_le hp)) (h.2.2.sublist (cutAt_sub p k))

set_option maxHeartbeats 1600000 in
theorem l7without_any (A : Option Addr) (n c B : Nat) (zs : List Int) (k : Nat) (w : World) (h : Arg w B A n c zs) (hn8 : n ≤ 8) (hk : k < n) :
    Calls Tryz.prog 74 #[.slice A n c, .int .i64 k] w (GivesI w (patL (cutAt zs k))) := by
  have hl := h.len
  have hcap := h.cap
  obtain ⟨ad, rfl⟩ : ∃ ad, A = some ad := by
    obtain ⟨ad, u, hA, _⟩ := h.reads.at_ hk
    exact ⟨ad, hA⟩
  have hA1 := h.cut (f := 0) (m := k) (by omega)
  rw [show ad.add 0 = ad by unfold Addr.add; split <;> simp_all, Nat.sub_zero, List.drop_zero] at hA1
  have hbd0 : (0 : Int) ≤ (k : Int) + 1 := by omega
  have hbd1 : (k : Int) + 1 ≤ (n : Int) := by omega
  have hbd2 : (k : Int) ≤ (c : Int) := by omega
  have hbd3 : (k : Int) + 1 ≤ (c : Int) := by omega
  have hw1 : IntKind.i64.wrap ((k : Int) + 1) = (k : Int) + 1 := by rw [IntKind.wrap_i64]; omega
  have hbd4 : (n : Int) ≤ (c : Int) := by omega
  have hbd5 : (0 : Int) ≤ (k : Int) := by omega
  have hsm := h.small
  have hst := own0 w w.heap.size (Nat.le_refl _)
  have hbel := (Below.refl w.heap.size w).alloc (Nat.le_refl _) (.cells #[] 3)
  have hs0 := hbel.size
  have HSM := hide (show Small (cutAt zs k) from fun z hz => hsm z ((cutAt_sub zs k).mem hz))
  have HCL := hide (cutAt_len (p := zs) (show k < zs.length by omega))
  have HL := hide hl
  by_cases hc : c = k + 1
  · obtain rfl := hc
    obtain rfl : n = k + 1 := by omega
    have hb6 : (k : Int) ≤ ((k + 1 : Nat) : Int) := by omega
    have hb7 : (k : Int) ≤ (k : Int) + 1 := by omega
    have hb8 : (k : Int) + 1 ≤ ((k + 1 : Nat) : Int) := by omega
    clear hbd1 hbd2 hbd3 hbd4 hcap
    have hd : zs.drop (k + 1) = [] := List.drop_of_length_le (by omega)
    have hA2 : Arg w B (some ad) 0 0 ([] : List Int) := ⟨⟨rfl, fun h => by omega⟩, h.under, by omega, Nat.le_refl _, fun z hz => by simp at hz, fun h => by cases h⟩
    have HDD := hide hd
    clear hd
    have hA1d := (hA1.below hbel).drew
    clear hA1 hl hsm h
    go_enter Tryz.func74, Tryz.ntmps74
    go_wp2
    go_region_held3 (fun _ => True) (trivial)
      (first
        | ((refine step_append_arg (by rfl) (.tmp 5) (.tmp 8) (by rfl) w.heap.size B 0 k (k + 1) w _ (some ad) [] (zs.take k) (by rfl) (by rfl) hst hA1d (by omega) hbel.drew hs0 ?_); intro v1 w1 hown1 hb1 hg1; rw [Nat.zero_add, List.nil_append] at hown1; clear hg1 hA1d hst hbel hs0; have hA3 := hA2.below hb1; have hs1 := hb1.size; clear hA2)
        | ((refine step_append_arg (by rfl) (.tmp 9) (.tmp 13) (by rfl) w.heap.size B k 0 0 w _ (some ad) (zs.take k) [] (by rfl) (by rfl) hown1 hA3 (by omega) hb1 hs1 ?_); intro v2 w2 hown2 hb2 hg2; clear hg2 hown1 hb1 hs1 hA3; have hI2 : Ints w2 w.heap.size v2 (cutAt zs k) := (by unfold cutAt; rw [unhide HDD]; exact Ints.of_own hown2); obtain ⟨A2, c2, rfl⟩ := hI2.slice; have hcl := unhide HCL; rw [unhide HL] at hcl; have H3 := hide (l2pat_any A2 _ c2 _ (cutAt zs k) w2 (hI2.arg (by omega) hI2.cap (unhide HSM)) (by omega)); clear hown2 hI2 hcl)
        | (go_simp; go_at_call 99; refine (unhide H3).mono ?_; rintro e w3 ⟨A3, c3, rfl, o3, hb3⟩; clear H3))
    have hI := o3.low hb2.size
    have hb4 := hb2.trans (hb3.mono hb2.size)
    clear o3 hb2 hb3
    go_wp2
    go_ret
    exact GivesI.mk hI hb4
  · have hA2 := h.cut (f := k + 1) (m := n - (k + 1)) (by omega)
    rw [List.take_of_length_le (by rw [List.length_drop]; omega)] at hA2
    rw [show ad.add (k + 1) = ⟨ad.block, ad.off + (k + 1), none⟩ by unfold Addr.add; rw [if_neg (by omega)]] at hA2
    have hA1d := (hA1.below hbel).drew
    clear hA1 hl hsm h
    go_enter Tryz.func74, Tryz.ntmps74
    go_wp2
    go_region_held3 (fun _ => True) (trivial)
      (first
        | ((refine step_append_arg (by rfl) (.tmp 5) (.tmp 8) (by rfl) w.heap.size B 0 k c w _ (some ad) [] (zs.take k) (by rfl) (by rfl) hst hA1d (by omega) hbel.drew hs0 ?_); intro v1 w1 hown1 hb1 hg1; rw [Nat.zero_add, List.nil_append] at hown1; clear hg1 hA1d hst hbel hs0; have hA3 := hA2.below hb1; have hs1 := hb1.size; clear hA2)
        | ((refine step_append_arg (by rfl) (.tmp 9) (.tmp 13) (by rfl) w.heap.size B k (n - (k + 1)) (c - (k + 1)) w _ (some ⟨ad.block, ad.off + (k + 1), none⟩) (zs.take k) (zs.drop (k + 1)) (by rfl) (by rfl) hown1 hA3 (by omega) hb1 hs1 ?_); intro v2 w2 hown2 hb2 hg2; clear hg2 hown1 hb1 hs1 hA3; have hI2 : Ints w2 w.heap.size v2 (cutAt zs k) := Ints.of_own hown2; obtain ⟨A2, c2, rfl⟩ := hI2.slice; have hcl := unhide HCL; rw [unhide HL] at hcl; have H3 := hide (l2pat_any A2 _ c2 _ (cutAt zs k) w2 (hI2.arg (by omega) hI2.cap (unhide HSM)) (by omega)); clear hown2 hI2 hcl)
        | (go_simp; go_at_call 99; refine (unhide H3).mono ?_; rintro e w3 ⟨A3, c3, rfl, o3, hb3⟩; clear H3))
    have hI := o3.low hb2.size
    have hb4 := hb2.trans (hb3.mono hb2.size)
    clear o3 hb2 hb3
    go_wp2
    go_ret
    exact GivesI.mk hI hb4
def wplOK (p : List Int) (x : Int) : Bool := isP p && decide (1 ≤ x ∧ x ≤ (p.length : Int))
def wplR (p : List Int) (x : Int) : List Int := if wplOK p x then patL (cutAt p (x.toNat - 1)) else []
theorem wplR_yes {p : List Int} {x : Int} (h : wplOK p x = true) : wplR p x = patL (cutAt p (x.toNat - 1)) := by unfold wplR; rw [if_pos h]
theorem wplR_no {p : List Int} {x : Int} (h : wplOK p x = false) : wplR p x = [] := by unfold wplR; rw [if_neg (by simp [h])]
theorem wplR_le (p : List Int) (x : Int) : (wplR p x).length ≤ 8 := by
  cases h : wplOK p x with
  | false => rw [wplR_no h]; exact Nat.zero_le _
  | true =>
    have hp : isP p = true := by unfold wplOK at h; simp at h; exact h.1
    rw [wplR_yes h]
    exact isP_le (cutAt_isP hp _)
/-- The patterns without one of the first k indices, in order. -/
def lowK (p : List Int) (k : Nat) : List (List Int) := ((List.range k).map fun i => patL (cutAt p i)).foldl putL []
theorem lowK_step (p : List Int) (k : Nat) : lowK p (k + 1) = putL (lowK p k) (patL (cutAt p k)) := by
  unfold lowK
  rw [List.range_succ, List.map_append, List.foldl_append]; rfl
theorem lowK_all {p : List Int} (hp : isP p = true) : ∀ k, ∀ z ∈ lowK p k, isP z = true
  | 0, z, hz => by simp [lowK] at hz
  | k + 1, z, hz => by
    rw [lowK_step, mem_putL] at hz
    rcases hz with hz | rfl
    · exact lowK_all hp k z hz
    · exact cutAt_isP hp k
theorem lowK_len (p : List Int) : ∀ k, (lowK p k).length ≤ k
  | 0 => by simp [lowK]
  | k + 1 => by
    have h1 := lowK_len p k
    have h2 := (putL_len (lowK p k) (patL (cutAt p k))).2
    rw [lowK_step]; omega
def lowR (p : List Int) : List (List Int) := if isP p then lowK p p.length else []
theorem lowR_yes {p : List Int} (h : isP p = true) : lowR p = lowK p p.length := by unfold lowR; rw [if_pos h]
theorem lowR_no {p : List Int} (h : isP p = false) : lowR p = [] := by unfold lowR; rw [if_neg (by simp [h])]
theorem lput_start (w : World) : PutS (w.alloc (.cells #[] 27)) w.heap.size (.slice (some ⟨w.heap.size, 0, none⟩) 0 0) [] := ⟨IntsS.made0 w w.heap.size (Nat.le_refl _), _, _, rfl⟩
theorem lput_below {w w' : World} {B : Nat} {v : Value} {zss : List (List Int)} (h : PutS w B v zss) (hb : Below w.heap.size w w') : PutS w' B v zss := ⟨h.1.below hb, h.2⟩
set_option maxHeartbeats 800000 in
theorem slow_any (A : Option Addr) (n c B : Nat) (zs : List Int) (w : World) (h : Arg w B A n c zs) :
    Calls Tryz.prog 26 #[.slice A n c] w (GivesSS w (lowR zs)) := by
  have hl := h.len
  obtain ⟨b, hb⟩ : ∃ b, isP zs = b := ⟨_, rfl⟩
  have H0 := hide (fun w' (hb' : Below w.heap.size w w') => sisperm_any A n c B zs b hb w' (h.below hb').reads h.le h.cap)
  have hst := lput_start w
  have hbel := (Below.refl w.heap.size w).alloc (Nat.le_refl _) (.cells #[] 27)
  cases b with
  | false =>
    rw [lowR_no hb]
    by_cases hn : 0 < n
    · have hn0 : (0 : Int) < (n : Int) := by omega
      have H1 := hide (unhide H0 _ hbel)
      clear h hb hl H0
      go_enter Tryz.func26, Tryz.ntmps26
      go_wp2
      go_loopw [3, 4] (fun v i wr => v = .slice (some ⟨w.heap.size, 0, none⟩) 0 0 ∧ i = .int .i64 0 ∧ wr = w.alloc (.cells #[] 27)) (fun _ _ _ => 0)
      case atStart => exact ⟨rfl, rfl, rfl⟩
      case round =>
        obtain ⟨rfl, rfl, rfl⟩ := hrel
        go_wp2_with fail
        refine (unhide H1).mono ?_
        rintro e w2 ⟨rfl, hd⟩
        have hst2 := lput_below hst (hd.below _)
        have hb2 := below_after hbel (hd.below _)
        clear H1 hst hbel hd
        go_wp2
        go_ret
        exact GivesSS.mk hst2.1 hb2
    · exfalso
      have : zs = [] := List.eq_nil_of_length_eq_zero (by omega)
      subst this
      cases hb
  | true =>
    have h8 := isP_le hb
    have hn8 : n ≤ 8 := by omega
    rw [lowR_yes hb, hl]
    have HA := hide (fun k => lowK_all hb k)
    have HB := hide (fun k => cutAt_isP hb k)
    have HL := hide hl
    clear hb hl h8
    go_enter Tryz.func26, Tryz.ntmps26
    go_wp2
    go_loopw [3, 4] (fun v i wr => ∃ k : Nat, k ≤ n ∧ i = .int .i64 k ∧ Below w.heap.size w wr ∧ PutS wr w.heap.size v (lowK zs k)) (fun _ i _ => n - (intOf i).toNat)
    case atStart => exact ⟨0, Nat.zero_le _, rfl, hbel, hst⟩
    case round =>
      obtain ⟨k, hk, rfl, hbw, hP⟩ := hrel
      clear hst hbel
      obtain ⟨g, cap, rfl⟩ := hP.2
      by_cases hlt : k < n
      · have H1 := hide (unhide H0 wr hbw)
        go_wp2_with fail
        refine (unhide H1).mono ?_
        rintro e w2 ⟨rfl, hd⟩
        have hP2 := lput_below hP (hd.below _)
        have hb2 := hbw.trans (hd.below _)
        have H2 := hide (l7without_any A n c B zs k w2 (h.below hb2) hn8 hlt)
        clear H1 hd hP hbw
        go_wp2_with fail
        refine (unhide H2).mono ?_
        rintro e w3 ⟨A3, c3, rfl, o3, hb3⟩
        have hP3 := lput_below hP2 hb3
        have hb4 := below_after hb2 hb3
        have hlen : (lowK zs k).length ≤ 1048576 := by have := lowK_len zs k; omega
        have H3 := hide (l3put_any w.heap.size (lowK zs k) g (lowK zs k).length cap A3 (patL (cutAt zs k)).length c3 w3.heap.size (patL (cutAt zs k)) w3 hP3.1 (o3.argP (unhide HB k)) hb4.size (unhide HA k) hlen)
        rw [← lowK_step] at H3
        clear H2 hP2 o3 hb3 hP3 hlen hb2
        go_wp2_with fail
        refine (unhide H3).mono ?_
        rintro e w4 ⟨v4, rfl, hS4, hb5, _⟩
        have hb6 := hb4.trans hb5
        clear H3 hb5 hb4
        go_wp2
        go_roundw
        case rel => exact ⟨k + 1, by omega, by go_num, hb6, hS4⟩
        case measure => simp [intOf]; omega
      · obtain rfl : n = k := by omega
        go_wp2
        go_ret
        exact GivesSS.mk hP.1 hbw
end Go.Proofs.YtplchjeamooliaaGreatDoor


/-
  spec.l3Reverse, spec.l3Complement, spec.ReversePerm, spec.ComplementPerm; slices.Clone, impl.ComplementPerm, by their contracts.
-/

namespace Go.Proofs.YtplchjeamooliaaGreatDoor
set_option maxRecDepth 100000
open Go.RowKit

theorem rev_step {zs : List Int} {k : Nat} {z : Int} (h : zs[k]? = some z) : (zs.drop k).reverse = (zs.drop (k + 1)).reverse ++ [z] := by
  have hk : k < zs.length := (List.getElem?_eq_some_iff.1 h).1
  rw [List.drop_eq_getElem_cons hk, List.reverse_cons]
  rw [List.getElem?_eq_getElem hk] at h
  rw [Option.some.inj h]
theorem i64_snoc (xs : List Int) (z : Int) : i64s xs ++ [Value.int .i64 z] = i64s (xs ++ [z]) := by unfold i64s; simp
set_option maxHeartbeats 400000 in
theorem clone_any (A : Option Addr) (n c B : Nat) (zs : List Int) (w : World) (h : Arg w B A n c zs) :
    Calls Tryz.prog 81 #[.slice A n c] w (GivesI w zs) := by
  obtain ⟨i0, hi, hz0, hz1, hz2⟩ := info_parts intInfo
  have hl := h.len
  have hn := h.le
  have hr := h.reads
  have q22 : ∀ (w : World) (a : Option Addr) (n c n' c' : Nat), (binOp .eql 27 (.slice a n c) (.slice none n' c')).run Tryz.prog w = .ok (.bool a.isNone) w := fun w a n c n' c' => Lib.run_eql_slice_nil w _ _ a n c n' c' Tryz.underlying27
  cases A with
  | none =>
    obtain rfl : n = 0 := by
      by_cases h0 : 0 < n
      · obtain ⟨ad, he, _⟩ := hr.2 h0
        cases he
      · omega
    obtain rfl := List.eq_nil_of_length_eq_zero hl
    clear h hr hl
    go_enter Tryz.func81, Tryz.ntmps81
    go_wp2
    go_ret
    exact GivesI.mk (Ints.nil _ _) (Below.refl _ _)
  | some ad =>
    have hcl : ∀ j u, (i64s zs)[j]? = some u → w.cell? (ad.add j) = some u := fun j u hu => by
      have hj : j < n := by have := (List.getElem?_eq_some_iff.1 hu).1; rw [i64_length, hl] at this; exact this
      obtain ⟨ad', he, _, hc⟩ := hr.2 (by omega)
      injection he with he
      subst he
      exact hc j u hu
    have hbl : 0 < n → ad.block < w.heap.size := fun h0 => by
      obtain ⟨ad', he, hb', _⟩ := hr.2 h0
      injection he with he
      subst he
      exact Nat.lt_of_lt_of_le hb' h.under
    have hcl2 : ∀ j u, (i64s zs)[j]? = some u → (w.alloc (.cells #[] 3)).cell? (ad.add j) = some u := fun j u hu => by
      have hj : j < n := by have := (List.getElem?_eq_some_iff.1 hu).1; rw [i64_length, hl] at this; exact this
      rw [World.cell?_alloc_lt]
      · exact hcl j u hu
      · rw [block_of_add]; exact hbl (by omega)
    have hone : ∀ u ∈ i64s zs, u.oneCell' = true := fun u hu => by
      unfold i64s at hu
      obtain ⟨z, _, rfl⟩ := List.mem_map.1 hu
      rfl
    have hln : (i64s zs).length = n * 1 := by rw [i64_length, hl]; omega
    have HCL := hide hcl2
    have HONE := hide hone
    have HLN := hide hln
    have HL := hide hl
    have hst := own0 w w.heap.size (Nat.le_refl _)
    have hbel := (Below.refl w.heap.size w).alloc (Nat.le_refl _) (.cells #[] 3)
    clear h hr hl hcl hcl2 hbl hone hln
    go_enter Tryz.func81, Tryz.ntmps81
    go_wp2_with (at_builtin; refine wpList_append_own _ rfl (.tmp 5) (.tmp 6) 27 rfl w.heap.size 3 i0 (.int .i64 0) 1 8 Tryz.underlying27 hi hz0 hz1 hz2 rfl (by decide) _ _ _ rfl hst ad n c (i64s zs) rfl ?_ ?_ ?_ ?_ ?_ ?_ ?_)
    · exact unhide HLN
    · exact unhide HCL
    · exact unhide HONE
    · unfold maxLen; omega
    · omega
    · simp
    intro v1 w1 hown1 hg1 _
    have hb1 : Below w.heap.size w w1 := hbel.grown hg1 (by simp) (fun q hq => by simp [Value.ownBlock] at hq; omega)
    have hI : Ints w1 w.heap.size v1 zs := by
      have h := hown1
      rw [← unhide HL] at h
      exact Ints.of_own h
    clear hg1 hown1
    go_wp2
    go_ret
    exact GivesI.mk hI hb1
end Go.Proofs.YtplchjeamooliaaGreatDoor


/-
  spec.l7At, spec.l7Fits, spec.l7Find, spec.OccurrencesOf, spec.CountPattern, spec.HasPattern, by their contracts.
-/

namespace Go.Proofs.YtplchjeamooliaaGreatDoor
set_option maxRecDepth 100000
open Go.RowKit

theorem Arg.stay {w w' : World} {B B' n c : Nat} {A : Option Addr} {zs : List Int} (h : Arg w B A n c zs) (hb : Below B' w w') (hB : B ≤ B') : Arg w' B A n c zs :=
  ⟨h.reads.below (hb.mono hB), Nat.le_trans h.under hb.size, h.le, h.cap, h.small, h.nil⟩
theorem Arg.at_ {w : World} {B n c k : Nat} {A : Option Addr} {zs : List Int} (h : Arg w B A n c zs) (hk : k < n) : ∃ ad, A = some ad ∧ ad.block < B ∧ zs[k]? = some (at0 zs k) ∧ w.cell? (ad.add k) = some (.int .i64 (at0 zs k)) := by
  obtain ⟨ad, u, hA, hb, hu, hc⟩ := h.reads.at_ hk
  obtain ⟨z, hz, rfl⟩ := i64_at hu
  have e := at0_of hz
  subst e
  exact ⟨ad, hA, hb, hz, hc⟩
theorem isP_rng {p : List Int} (h : isP p = true) {k : Nat} (hk : k < p.length) : 1 ≤ at0 p k ∧ at0 p k ≤ (p.length : Int) := by
  have := (isP_true.1 h).2.1 _ (at0_mem hk)
  exact this
theorem place_nat {n : Nat} {x : Int} (h : 1 ≤ x ∧ x ≤ (n : Int)) : ∃ X : Nat, x = ((X + 1 : Nat) : Int) ∧ X < n := ⟨x.toNat - 1, by omega, by omega⟩

set_option maxHeartbeats 1600000 in
theorem l7fits_any (A A' A2 : Option Addr) (n c B n' c' B' n2 c2 B2 : Nat) (p q pl : List Int) (b : Bool) (hb : fitL p q pl = b) (w : World) (h : Arg w B A n c p) (h' : Arg w B' A' n' c' q) (h2 : Arg w B2 A2 n2 c2 pl) (hr : PlOK p.length pl) (hlt : 0 < n2) (hle : n2 ≤ n') :
    Calls Tryz.prog 109 #[.slice A n c, .slice A' n' c', .slice A2 n2 c2] w fun e w' => e = .returned (.bool b) ∧ Drew w w' := by
  have hl := h.len
  have hl' := h'.len
  have hl2 := h2.len
  obtain ⟨L, rfl⟩ : ∃ L, n2 = L + 1 := ⟨n2 - 1, by omega⟩
  have hn2 := h2.le
  have hL1 : ((L + 1 : Nat) : Int) - 1 = (L : Int) := by omega
  have HB := hide hb
  have HL := hide hl2
  have HR := hide hr
  clear hb hr
  go_enter Tryz.func109, Tryz.ntmps109
  go_wp2
  go_loopw [8] (fun i wr => ∃ k : Nat, k ≤ L ∧ i = .int .i64 k ∧ Drew w wr ∧ Hid (∀ j, j < k → decide (at0 q j < at0 q L) = decide (at0 (nums p pl) j < at0 (nums p pl) L))) (fun i _ => L - (intOf i).toNat)
  case atStart => exact ⟨0, Nat.zero_le _, rfl, Drew.refl _, fun j hj => by omega⟩
  case round =>
    obtain ⟨k, hk, rfl, hd, hx⟩ := hrel
    by_cases hkl : k < L
    · have hdb := hd.below w.heap.size
      obtain ⟨ad', rfl, _, _, ca⟩ := (h'.below hdb).at_ (show k < n' by omega)
      obtain ⟨_, he, _, _, cb⟩ := (h'.below hdb).at_ (show L < n' by omega)
      obtain rfl := Option.some.inj he
      obtain ⟨ad2, rfl, _, _, cx⟩ := (h2.below hdb).at_ (show k < L + 1 by omega)
      obtain ⟨_, he2, _, _, cy⟩ := (h2.below hdb).at_ (show L < L + 1 by omega)
      obtain rfl := Option.some.inj he2
      obtain ⟨X, hX, hXn⟩ := place_nat ((unhide HR).rng (i := k) (by omega))
      obtain ⟨Y, hY, hYn⟩ := place_nat ((unhide HR).rng (i := L) (by omega))
      obtain ⟨ad, rfl, _, _, cc⟩ := (h.below hdb).at_ (show X < n by omega)
      obtain ⟨_, he3, _, _, cd⟩ := (h.below hdb).at_ (show Y < n by omega)
      obtain rfl := Option.some.inj he3
      have e1 : at0 (nums p pl) k = at0 p X := by rw [nums_at0 (by omega), hX]; simp
      have e2 : at0 (nums p pl) L = at0 p Y := by rw [nums_at0 (by omega), hY]; simp
      rw [hX] at cx
      rw [hY] at cy
      have k1 : ((X + 1 : Nat) : Int) - 1 = (X : Int) := by omega
      have k2 : ((Y + 1 : Nat) : Int) - 1 = (Y : Int) := by omega
      have hnn := h.le
      have w1 : IntKind.i64.wrap (X : Int) = X := by rw [IntKind.wrap_i64]; omega
      have w2 : IntKind.i64.wrap (Y : Int) = Y := by rw [IntKind.wrap_i64]; omega
      have HE := hide (And.intro e1 e2)
      have HD := hide hd
      have HX := hide (And.intro hX hY)
      clear e1 e2 hd hdb hX hY he he2 he3
      obtain ⟨a, ha⟩ : ∃ a, at0 q k = a := ⟨_, rfl⟩
      obtain ⟨b', hb'⟩ : ∃ b', at0 q L = b' := ⟨_, rfl⟩
      obtain ⟨y, hy⟩ : ∃ y, at0 p X = y := ⟨_, rfl⟩
      obtain ⟨z, hz⟩ : ∃ z, at0 p Y = z := ⟨_, rfl⟩
      have HA := hide (And.intro ha (And.intro hb' (And.intro hy hz)))
      rw [ha] at ca
      rw [hb'] at cb
      rw [hy] at cc
      rw [hz] at cd
      clear ha hb' hy hz
      by_cases t1 : a < b'
      · have d1 := decide_eq_true t1
        by_cases t2 : y < z
        · have d2 := decide_eq_true t2
          have hnext : Hid (∀ j, j < k + 1 → decide (at0 q j < at0 q L) = decide (at0 (nums p pl) j < at0 (nums p pl) L)) := hide (fun j hj => by
            by_cases hjk : j < k
            · exact unhide hx j hjk
            · obtain rfl : j = k := by omega
              rw [(unhide HE).1, (unhide HE).2, (unhide HA).1, (unhide HA).2.1, (unhide HA).2.2.1, (unhide HA).2.2.2, decide_eq_true t1, decide_eq_true t2])
          clear hx
          go_wp2
          go_quiet (fail)
          go_wp2
          go_roundw
          case rel => exact ⟨k + 1, by omega, by go_num, (unhide HD).more _, hnext⟩
          case measure => simp [intOf]; omega
        · have d2 := decide_eq_false t2
          obtain rfl : b = false := (unhide HB).symm.trans (fitL_no (k := k) (by rw [unhide HL]; omega) (by rw [unhide HL, Nat.add_sub_cancel, (unhide HE).1, (unhide HE).2, (unhide HA).1, (unhide HA).2.1, (unhide HA).2.2.1, (unhide HA).2.2.2, decide_eq_true t1, decide_eq_false t2]; decide))
          clear hx HB
          go_wp2
          go_quiet (fail)
          go_wp2
          go_ret
          exact ⟨rfl, (unhide HD).more _⟩
      · have d1 := decide_eq_false t1
        by_cases t2 : y < z
        · have d2 := decide_eq_true t2
          obtain rfl : b = false := (unhide HB).symm.trans (fitL_no (k := k) (by rw [unhide HL]; omega) (by rw [unhide HL, Nat.add_sub_cancel, (unhide HE).1, (unhide HE).2, (unhide HA).1, (unhide HA).2.1, (unhide HA).2.2.1, (unhide HA).2.2.2, decide_eq_false t1, decide_eq_true t2]; decide))
          clear hx HB
          go_wp2
          go_quiet (fail)
          go_wp2
          go_ret
          exact ⟨rfl, (unhide HD).more _⟩
        · have d2 := decide_eq_false t2
          have hnext : Hid (∀ j, j < k + 1 → decide (at0 q j < at0 q L) = decide (at0 (nums p pl) j < at0 (nums p pl) L)) := hide (fun j hj => by
            by_cases hjk : j < k
            · exact unhide hx j hjk
            · obtain rfl : j = k := by omega
              rw [(unhide HE).1, (unhide HE).2, (unhide HA).1, (unhide HA).2.1, (unhide HA).2.2.1, (unhide HA).2.2.2, decide_eq_false t1, decide_eq_false t2])
          clear hx
          go_wp2
          go_quiet (fail)
          go_wp2
          go_roundw
          case rel => exact ⟨k + 1, by omega, by go_num, (unhide HD).more _, hnext⟩
          case measure => simp [intOf]; omega
    · obtain rfl : L = k := by omega
      obtain rfl : b = true := (unhide HB).symm.trans (fitL_yes fun k hk => by
        rw [unhide HL, Nat.add_sub_cancel] at hk ⊢
        exact unhide hx k hk)
      clear hx HB
      go_wp2
      go_ret
      exact ⟨rfl, hd⟩
end Go.Proofs.YtplchjeamooliaaGreatDoor


/-
  spec.PatternsIn, by its contract.
-/

namespace Go.Proofs.YtplchjeamooliaaGreatDoor
set_option maxRecDepth 100000
open Go.RowKit

/-- The numbers at those of the first k indices whose bit is set. -/
def subK (p : List Int) (s : Nat) : Nat → List Int
  | 0 => []
  | k + 1 => if s.testBit k then subK p s k ++ [at0 p k] else subK p s k
theorem subK_len (p : List Int) (s : Nat) : ∀ k, (subK p s k).length ≤ k
  | 0 => Nat.le_refl _
  | k + 1 => by
    have := subK_len p s k
    rw [subK]; split <;> simp <;> omega
/-- The patterns of length k of the first s sets of indices, in order. -/
def patK (p : List Int) (k : Int) : Nat → List (List Int)
  | 0 => []
  | s + 1 => if ((subK p s p.length).length : Int) = k then putL (patK p k s) (patL (subK p s p.length)) else patK p k s
def patsOK (p : List Int) (k : Int) : Bool := isP p && decide (0 ≤ k ∧ k ≤ (p.length : Int))
def patsR (p : List Int) (k : Int) : List (List Int) := if patsOK p k then patK p k (2 ^ p.length) else []

theorem bit_test (s k : Nat) (hs : s ≤ 256) : (bits .and .i64 ((s : Int) / 2 ^ k) 1 == 1) = s.testBit k := by
  have h0 : (s : Int) / 2 ^ k = ((s / 2 ^ k : Nat) : Int) := by push_cast; rfl
  have hle : s / 2 ^ k ≤ s := Nat.div_le_self _ _
  have h1 : bits .and .i64 ((s / 2 ^ k : Nat) : Int) 1 = ((s / 2 ^ k % 2 : Nat) : Int) := by
    have := bits_mask .i64 63 (by decide) (fun n h0 h1 => by rw [IntKind.wrap_i64]; omega) 1 (by decide) ((s / 2 ^ k : Nat) : Int) (Int.natCast_nonneg _) (Int.lt_of_le_of_lt (Int.ofNat_le.2 hle) (by omega))
    simpa using this
  rw [h0, h1, Nat.testBit_eq_decide_div_mod_eq]
  by_cases h : s / 2 ^ k % 2 = 1
  · rw [h]; rfl
  · have h2 : s / 2 ^ k % 2 = 0 := by omega
    rw [h2]; rfl
theorem patK_len (p : List Int) (k : Int) : ∀ s, (patK p k s).length ≤ s
  | 0 => Nat.le_refl _
  | s + 1 => by
    have h1 := patK_len p k s
    have h2 := (putL_len (patK p k s) (patL (subK p s p.length))).2
    rw [patK]; split <;> omega
theorem subK_sub (p : List Int) (s : Nat) : ∀ k, k ≤ p.length → (subK p s k).Sublist (p.take k)
  | 0, _ => by simp [subK]
  | k + 1, hk => by
    have ih := subK_sub p s k (by omega)
    rw [take_snoc_i (at0_some (show k < p.length by omega)), subK]
    split
    · exact ih.append (List.Sublist.refl _)
    · exact ih.trans (List.sublist_append_left _ _)
theorem subK_isP {p : List Int} (hp : isP p = true) (s : Nat) : isP (patL (subK p s p.length)) = true := by
  have h := subK_sub p s p.length (Nat.le_refl _)
  rw [List.take_length] at h
  rw [isP_pat]
  exact patOK_yes (Nat.le_trans h.length_le (isP_le hp)) ((isP_true.1 hp).2.2.sublist h)
theorem patK_all {p : List Int} (hp : isP p = true) (k : Int) : ∀ s, ∀ z ∈ patK p k s, isP z = true
  | 0, z, hz => by simp [patK] at hz
  | s + 1, z, hz => by
    rw [patK] at hz
    split at hz
    · rcases mem_putL.1 hz with hz | rfl
      · exact patK_all hp k s z hz
      · exact subK_isP hp s
    · exact patK_all hp k s z hz
theorem patK_yes {p : List Int} {k : Int} {s : Nat} (h : ((subK p s p.length).length : Int) = k) : patK p k (s + 1) = putL (patK p k s) (patL (subK p s p.length)) := by rw [patK, if_pos h]
theorem patK_no {p : List Int} {k : Int} {s : Nat} (h : ¬ ((subK p s p.length).length : Int) = k) : patK p k (s + 1) = patK p k s := by rw [patK, if_neg h]
theorem patsR_yes {p : List Int} {k : Int} (h : patsOK p k = true) : patsR p k = patK p k (2 ^ p.length) := by unfold patsR; rw [if_pos h]
theorem patsR_no {p : List Int} {k : Int} (h : patsOK p k = false) : patsR p k = [] := by unfold patsR; rw [if_neg (by simp [h])]

end Go.Proofs.YtplchjeamooliaaGreatDoor


/-
  PLAIN: the choices of places in order; occurrences are those whose pattern is right, patterns are the patterns of the choices. Nothing here speaks of the program.
-/

namespace Go.Proofs.YtplchjeamooliaaGreatDoor
set_option maxRecDepth 100000

/-- The choices of m more of the places 1 to n that begin with head. -/
def chL (n : Nat) : Nat → List Int → List (List Int)
  | 0, head => [head]
  | m + 1, head => (List.range (n - lastP head)).flatMap fun i => chL n m (head ++ [((lastP head + i + 1 : Nat) : Int)])
/-- .. of the first j of the next places. -/
def chK (n m : Nat) (head : List Int) (j : Nat) : List (List Int) := (List.range j).flatMap fun i => chL n m (head ++ [((lastP head + i + 1 : Nat) : Int)])
theorem chK_all (n m : Nat) (head : List Int) : chK n m head (n - lastP head) = chL n (m + 1) head := rfl
theorem chK_zero (n m : Nat) (head : List Int) : chK n m head 0 = [] := rfl
theorem chK_step (n m : Nat) (head : List Int) (j : Nat) : chK n m head (j + 1) = chK n m head j ++ chL n m (head ++ [((lastP head + j + 1 : Nat) : Int)]) := by
  unfold chK
  rw [List.range_succ, List.flatMap_append, List.flatMap_cons, List.flatMap_nil, List.append_nil]
theorem mem_chL {n : Nat} : ∀ (m : Nat) (head pl : List Int), PlOK n head → (pl ∈ chL n m head ↔ ∃ tl, pl = head ++ tl ∧ tl.length = m ∧ PlOK n pl)
  | 0, head, pl, h => by
    rw [chL, List.mem_singleton]
    constructor
    · rintro rfl
      exact ⟨[], by simp, rfl, h⟩
    · rintro ⟨tl, rfl, h1, _⟩
      rw [List.eq_nil_of_length_eq_zero h1, List.append_nil]
  | m + 1, head, pl, h => by
    have hle := lastP_le h
    rw [chL, List.mem_flatMap]
    constructor
    · rintro ⟨i, hi, hm⟩
      rw [List.mem_range] at hi
      have hh : PlOK n (head ++ [((lastP head + i + 1 : Nat) : Int)]) := PlOK.snoc.2 ⟨h, by omega, by omega⟩
      obtain ⟨tl, rfl, h1, h2⟩ := (mem_chL m _ pl hh).1 hm
      exact ⟨((lastP head + i + 1 : Nat) : Int) :: tl, by rw [List.append_assoc]; rfl, by simp [h1], h2⟩
    · rintro ⟨tl, rfl, h1, h2⟩
      match tl, h1 with
      | x :: tl, h1 =>
        have hx : PlOK n (head ++ [x]) := by
          have := h2.take (head.length + 1)
          rwa [show head ++ x :: tl = head ++ [x] ++ tl by simp, List.take_append_of_le_length (by simp), List.take_of_length_le (by simp)] at this
        obtain ⟨_, hx1, hx2⟩ := PlOK.snoc.1 hx
        have hxe : ((lastP head + (x.toNat - lastP head - 1) + 1 : Nat) : Int) = x := by omega
        refine ⟨x.toNat - lastP head - 1, List.mem_range.2 (by omega), ?_⟩
        rw [hxe, mem_chL m _ _ hx]
        exact ⟨tl, by simp, by simpa using h1, h2⟩
theorem chL_len {n : Nat} : ∀ (m : Nat) (head pl : List Int), pl ∈ chL n m head → pl.length = head.length + m
  | 0, head, pl, h => by rw [chL, List.mem_singleton] at h; subst h; rfl
  | m + 1, head, pl, h => by
    rw [chL, List.mem_flatMap] at h
    obtain ⟨i, _, h⟩ := h
    have := chL_len m _ pl h
    simp at this; omega
theorem chL_pre {n : Nat} : ∀ (m : Nat) (head pl : List Int), pl ∈ chL n m head → ∃ tl, pl = head ++ tl
  | 0, head, pl, h => by rw [chL, List.mem_singleton] at h; subst h; exact ⟨[], by simp⟩
  | m + 1, head, pl, h => by
    rw [chL, List.mem_flatMap] at h
    obtain ⟨i, _, h⟩ := h
    obtain ⟨tl, rfl⟩ := chL_pre m _ pl h
    exact ⟨_ :: tl, by simp; rfl⟩
theorem chL_asc {n : Nat} : ∀ (m : Nat) (head : List Int), Asc (chL n m head)
  | 0, head => by rw [chL]; exact List.pairwise_singleton _ _
  | m + 1, head => by
    rw [chL]
    unfold Asc
    rw [List.pairwise_flatMap]
    constructor
    · intro i _
      exact chL_asc m _
    · refine List.Pairwise.imp ?_ List.pairwise_lt_range
      intro i j hij x hx y hy
      have l1 := chL_len m _ x hx
      have l2 := chL_len m _ y hy
      obtain ⟨t, rfl⟩ := chL_pre m _ x hx
      obtain ⟨s, rfl⟩ := chL_pre m _ y hy
      simp only [List.length_append, List.length_singleton] at l1 l2
      rw [befL_eq (by simp; omega), List.append_assoc, List.append_assoc, lexL_app, List.singleton_append, List.singleton_append, lexL, if_neg (by omega)]
      simp; omega
/-- The choices of k of the places 1 to n. -/
def chR (n k : Nat) : List (List Int) := chL n k []
theorem mem_chR {n k : Nat} {pl : List Int} : pl ∈ chR n k ↔ pl.length = k ∧ PlOK n pl := by
  unfold chR
  rw [mem_chL k [] pl (PlOK.nil n)]
  constructor
  · rintro ⟨tl, rfl, h1, h2⟩; exact ⟨by simpa using h1, h2⟩
  · rintro ⟨h1, h2⟩; exact ⟨pl, rfl, h1, h2⟩
theorem chR_asc (n k : Nat) : Asc (chR n k) := chL_asc k []
/-- The pattern at places. -/
def patA (p pl : List Int) : List Int := patL (nums p pl)
theorem occ_filter {p q : List Int} (hp : isP p = true) (hq : isP q = true) : (chR p.length q.length).filter (fun pl => decide (patA p pl = q)) = occR p q := by
  refine asc_unique ((chR_asc _ _).sublist List.filter_sublist) (occ_asc p q) fun x => ?_
  rw [List.mem_filter, mem_chR, mem_occ, isOcc_iff]
  unfold patA
  simp only [decide_eq_true_eq, hp, hq, true_and]
  constructor
  · rintro ⟨⟨h1, h2⟩, h3⟩; exact ⟨h1, h2, h3⟩
  · rintro ⟨h1, h2, h3⟩; exact ⟨⟨h1, h2⟩, h3⟩

/-! patterns -/
theorem nums_sub {p : List Int} : ∀ {pl : List Int} {m : Nat}, PlOK m pl → m ≤ p.length → (nums p pl).Sublist (p.take m) := by
  intro pl m
  induction m generalizing pl with
  | zero =>
    intro h _
    cases pl with
    | nil => simp [nums]
    | cons a l => have := h.1 a (by simp); omega
  | succ m ih =>
    intro h hm
    by_cases h0 : pl = []
    · subst h0; simp [nums]
    · obtain ⟨l, x, rfl⟩ : ∃ l x, pl = l ++ [x] := ⟨pl.dropLast, pl.getLast h0, (List.dropLast_concat_getLast h0).symm⟩
      obtain ⟨h1, h2, h3⟩ := PlOK.snoc.1 h
      have hsub : ∀ (k : Nat), k ≤ m → (p.take k).Sublist (p.take m) := fun k hk => by
        have := List.take_sublist k (p.take m)
        rwa [List.take_take, Nat.min_eq_left hk] at this
      by_cases hx : x = ((m + 1 : Nat) : Int)
      · subst hx
        have hl : PlOK m l := ⟨fun y hy => ⟨(h1.1 y hy).1, by
          have hh := (List.pairwise_append.1 h.2).2.2 y hy ((m + 1 : Nat) : Int) (by simp)
          omega⟩, h1.2⟩
        rw [nums_snoc, take_snoc_i (at0_some (show m < p.length by omega))]
        exact (ih hl (by omega)).append (by rw [show (((m + 1 : Nat) : Int)).toNat - 1 = m by omega]; exact List.Sublist.refl _)
      · have hl : PlOK m (l ++ [x]) := PlOK.snoc.2 ⟨⟨fun y hy => ⟨(h1.1 y hy).1, by
          have hh := (List.pairwise_append.1 h.2).2.2 y hy x (by simp)
          omega⟩, h1.2⟩, h2, by omega⟩
        have := ih hl (by omega)
        have h5 := List.take_sublist m (p.take (m + 1))
        rw [List.take_take, Nat.min_eq_left (Nat.le_succ m)] at h5
        exact this.trans h5
theorem nums_sub' {p pl : List Int} (h : PlOK p.length pl) : (nums p pl).Sublist p := by
  have := nums_sub (p := p) h (Nat.le_refl _)
  rwa [List.take_length] at this
/-- The patterns of the choices are those of the parts of a length. -/
theorem mem_pats_ch {p x : List Int} {k : Nat} : x ∈ (chR p.length k).map (patA p) ↔ ∃ s, s.Sublist p ∧ s.length = k ∧ x = patL s := by
  rw [List.mem_map]
  constructor
  · rintro ⟨pl, h, rfl⟩
    rw [mem_chR] at h
    exact ⟨nums p pl, nums_sub' h.2, by rw [nums_length]; exact h.1, rfl⟩
  · rintro ⟨s, h1, h2, rfl⟩
    obtain ⟨pl, h3, rfl⟩ := places_of h1
    rw [nums_length] at h2
    exact ⟨pl, mem_chR.2 ⟨h2, h3⟩, rfl⟩
theorem subK_hi (p : List Int) {s t : Nat} : ∀ {k : Nat}, (∀ i, i < k → s.testBit i = t.testBit i) → subK p s k = subK p t k
  | 0, _ => rfl
  | k + 1, h => by
    rw [subK, subK, h k (by omega), subK_hi p (k := k) fun i hi => h i (by omega)]
/-- Every part is one of the parts that the bits tell. -/
theorem sub_bits {p : List Int} : ∀ (k : Nat) (s : List Int), k ≤ p.length → s.Sublist (p.take k) → ∃ t, t < 2 ^ k ∧ subK p t k = s
  | 0, s, _, h => ⟨0, by simp, by rw [List.take_zero] at h; rw [List.sublist_nil.1 h]; rfl⟩
  | k + 1, s, hk, h => by
    rw [take_snoc_i (at0_some (show k < p.length by omega)), List.sublist_append_iff] at h
    obtain ⟨a, b, rfl, h1, h2⟩ := h
    obtain ⟨t, ht, rfl⟩ := sub_bits k a (by omega) h1
    have hpow : 2 ^ (k + 1) = 2 ^ k + 2 ^ k := by rw [Nat.pow_succ]; omega
    cases b with
    | nil =>
      refine ⟨t, by omega, ?_⟩
      rw [subK, Nat.testBit_lt_two_pow ht, List.append_nil]
      rfl
    | cons y b =>
      have hb : y :: b = [at0 p k] := by
        have := h2.length_le
        cases b with
        | nil => have := h2.subset (List.mem_singleton.2 rfl); simp at this; rw [this]
        | cons z b => simp at this
      rw [hb]
      refine ⟨2 ^ k + t, by omega, ?_⟩
      rw [subK, Nat.testBit_two_pow_add_eq, Nat.testBit_lt_two_pow ht]
      rw [subK_hi p (s := 2 ^ k + t) (t := t) fun i hi => Nat.testBit_two_pow_add_gt hi t]
      rfl
theorem mem_patK {p : List Int} {k : Int} : ∀ {s : Nat} {x : List Int}, x ∈ patK p k s ↔ ∃ t, t < s ∧ ((subK p t p.length).length : Int) = k ∧ x = patL (subK p t p.length)
  | 0, x => by simp [patK]
  | s + 1, x => by
    have ih := mem_patK (p := p) (k := k) (s := s) (x := x)
    constructor
    · intro h
      by_cases hk : ((subK p s p.length).length : Int) = k
      · rw [patK_yes hk, mem_putL] at h
        rcases h with h | rfl
        · obtain ⟨t, h1, h2⟩ := ih.1 h; exact ⟨t, by omega, h2⟩
        · exact ⟨s, by omega, hk, rfl⟩
      · rw [patK_no hk] at h
        obtain ⟨t, h1, h2⟩ := ih.1 h; exact ⟨t, by omega, h2⟩
    · rintro ⟨t, h1, h2, h3⟩
      by_cases hk : ((subK p s p.length).length : Int) = k
      · rw [patK_yes hk, mem_putL]
        by_cases hts : t = s
        · subst hts; exact .inr h3
        · exact .inl (ih.2 ⟨t, by omega, h2, h3⟩)
      · rw [patK_no hk]
        have hts : t ≠ s := fun e => hk (by rw [← e]; exact h2)
        exact ih.2 ⟨t, by omega, h2, h3⟩
theorem patK_asc (p : List Int) (k : Int) : ∀ s, Asc (patK p k s)
  | 0 => List.Pairwise.nil
  | s + 1 => by
    rw [patK]
    split
    · exact asc_putL (patK_asc p k s)
    · exact patK_asc p k s
theorem patsOK_nat {p : List Int} {k : Nat} (hp : isP p = true) (hk : k ≤ p.length) : patsOK p (k : Int) = true := by
  unfold patsOK
  rw [hp, Bool.true_and, decide_eq_true_eq]
  omega
theorem mem_patsR {p x : List Int} {k : Nat} (hp : isP p = true) (hk : k ≤ p.length) : x ∈ patsR p (k : Int) ↔ ∃ s, s.Sublist p ∧ s.length = k ∧ x = patL s := by
  rw [patsR_yes (patsOK_nat hp hk), mem_patK]
  constructor
  · rintro ⟨t, _, h2, h3⟩
    have h := subK_sub p t p.length (Nat.le_refl _)
    rw [List.take_length] at h
    exact ⟨_, h, by omega, h3⟩
  · rintro ⟨s, h1, h2, h3⟩
    obtain ⟨t, ht, h4⟩ := sub_bits p.length s (Nat.le_refl _) (by rw [List.take_length]; exact h1)
    exact ⟨t, ht, by rw [h4]; omega, by rw [h4]; exact h3⟩
theorem patsR_asc (p : List Int) (k : Int) : Asc (patsR p k) := by
  unfold patsR
  split
  · exact patK_asc p k _
  · exact List.Pairwise.nil
theorem pats_ordL {p : List Int} {k : Nat} (hp : isP p = true) (hk : k ≤ p.length) : ordL ((chR p.length k).map (patA p)) ((chR p.length k).map (patA p)).length = patsR p (k : Int) := by
  refine asc_unique (ordL_asc _ _) (patsR_asc _ _) fun x => ?_
  rw [ordL_mem, List.take_length, mem_pats_ch, mem_patsR hp hk]
theorem pats_allP {p : List Int} {k : Nat} (hp : isP p = true) : allP ((chR p.length k).map (patA p)) = true := by
  unfold allP
  rw [List.all_eq_true]
  intro x hx
  obtain ⟨s, h1, _, rfl⟩ := mem_pats_ch.1 hx
  rw [isP_pat]
  exact patOK_yes (Nat.le_trans h1.length_le (isP_le hp)) ((isP_true.1 hp).2.2.sublist h1)
theorem pats_ordR {p : List Int} {k : Nat} (hp : isP p = true) (hk : k ≤ p.length) : ordR ((chR p.length k).map (patA p)) = patsR p (k : Int) := by
  rw [ordR_yes (pats_allP hp), pats_ordL hp hk]

/-! leaving one out -/
theorem sub_cut {s p : List Int} (h : s.Sublist p) : s.length + 1 = p.length → ∃ i, i < p.length ∧ s = cutAt p i := by
  induction h with
  | slnil => intro h; simp at h
  | cons a h ih =>
    intro hl
    simp only [List.length_cons, Nat.add_right_cancel_iff] at hl
    exact ⟨0, by simp, by rw [h.eq_of_length hl]; simp [cutAt]⟩
  | cons_cons a h ih =>
    intro hl
    simp only [List.length_cons, Nat.add_right_cancel_iff] at hl
    obtain ⟨i, hi, rfl⟩ := ih hl
    exact ⟨i + 1, by simpa using hi, by simp [cutAt]⟩
theorem lowK_mem {p x : List Int} {k : Nat} : x ∈ lowK p k ↔ ∃ i, i < k ∧ x = patL (cutAt p i) := by
  unfold lowK
  rw [(foldl_put _ [] List.Pairwise.nil).2.1]
  simp only [List.not_mem_nil, false_or, List.mem_map, List.mem_range]
  exact ⟨fun ⟨i, h1, h2⟩ => ⟨i, h1, h2.symm⟩, fun ⟨i, h1, h2⟩ => ⟨i, h1, h2.symm⟩⟩
theorem lowK_asc (p : List Int) (k : Nat) : Asc (lowK p k) := (foldl_put _ [] List.Pairwise.nil).1
theorem pats_low (p : List Int) : patsR p ((p.length : Int) - 1) = lowR p := by
  cases hp : isP p with
  | false => rw [lowR_no hp, patsR_no (by unfold patsOK; rw [hp]; rfl)]
  | true =>
    rw [lowR_yes hp]
    by_cases h0 : p.length = 0
    · rw [h0, patsR_no (by unfold patsOK; rw [hp, h0]; rfl)]; rfl
    · obtain ⟨m, hm⟩ : ∃ m, p.length = m + 1 := ⟨p.length - 1, by omega⟩
      rw [show ((p.length : Int) - 1) = (m : Int) by omega]
      refine asc_unique (patsR_asc _ _) (lowK_asc _ _) fun x => ?_
      rw [mem_patsR hp (by omega), lowK_mem]
      constructor
      · rintro ⟨s, h1, h2, rfl⟩
        obtain ⟨i, hi, rfl⟩ := sub_cut h1 (by omega)
        exact ⟨i, hi, rfl⟩
      · rintro ⟨i, hi, rfl⟩
        exact ⟨_, cutAt_sub p i, by have := cutAt_len hi; omega, rfl⟩
end Go.Proofs.YtplchjeamooliaaGreatDoor
