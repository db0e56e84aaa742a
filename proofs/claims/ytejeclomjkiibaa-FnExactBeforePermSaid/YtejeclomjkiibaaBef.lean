/-
  spec.BeforePerm and impl.BeforePerm, by their contracts.
-/
import Derived.Test.YtejeclomjkiibaaPermS
import Derived.Test.YtejeclomjkiibaaIsPerm
import Derived.Test.YtejeclomjkiibaaPermB
namespace Go.Proofs.Ytejeclomjkiibaa
open Go.RowKit

set_option maxHeartbeats 400000 in
theorem l2bef_any (A A' : Option Addr) (n c B n' c' B' : Nat) (p q : List Int) (b : Bool) (hb : befL p q = b) (w : World) (h : Arg w B A n c p) (h' : Arg w B' A' n' c' q) :
    Calls Try.prog 41 #[.slice A n c, .slice A' n' c'] w fun e w' => e = .returned (.bool b) ∧ Drew w w' := by
  have hl := h.len
  have hl' := h'.len
  have hn := h.le
  have hn' := h'.le
  have hr := h.reads
  have hr' := h'.reads
  clear h h'
  by_cases he : n = n'
  · subst he
    rw [befL_eq (by omega)] at hb
    have HB := hide hb
    have HL := hide hl
    have HL' := hide hl'
    clear hb hl hl'
    go_enter Try.func41, Try.ntmps41
    go_wp2
    go_loopw [5] (fun i wr => ∃ k : Nat, k ≤ n ∧ i = .int .i64 k ∧ Drew w wr ∧ Hid (p.take k = q.take k)) (fun i _ => n - (intOf i).toNat)
    case atStart => exact ⟨0, Nat.zero_le _, rfl, Drew.refl _, by exact (rfl : p.take 0 = q.take 0)⟩
    case round =>
      obtain ⟨k, hk, rfl, hd, hs⟩ := hrel
      by_cases hlt : k < n
      · obtain ⟨ad, u, rfl, _, hu, hc⟩ := (hr.ofDrew hd).at_ hlt
        obtain ⟨ad', u', rfl, _, hu', hc'⟩ := (hr'.ofDrew hd).at_ hlt
        obtain ⟨x, hx, rfl⟩ := i64_at hu
        obtain ⟨y, hy, rfl⟩ := i64_at hu'
        have HD := hide hd
        clear hu hu' hr hr' hd
        by_cases hxy : x = y
        · subst hxy
          have hnext := hide (take_same_step (unhide hs) hx hy)
          clear hx hy hs
          go_wp2
          go_quiet (fail)
          go_wp2
          go_roundw
          case rel => exact ⟨k + 1, by omega, by go_num, (unhide HD).more _, hnext⟩
          case measure => simp [intOf]; omega
        · have hat := (unhide HB).symm.trans (lexL_at (unhide hs) hx hy hxy)
          have hne : (x == y) = false := by simpa using hxy
          clear hx hy hs HB hxy
          have hcc := hc
          have hcc' := hc'
          have HAT := hide hat
          clear hat
          go_wp2
          go_quiet (fail)
          go_wp2
          go_quiet (fail)
          go_wp2
          go_ret
          exact ⟨ret_bool (unhide HAT).symm, ((unhide HD).more _).more _⟩
      · obtain rfl : n = k := by omega
        obtain rfl : b = false := (unhide HB).symm.trans (lexL_end (unhide hs) (unhide HL) (unhide HL'))
        clear HB hs
        go_wp2
        go_ret
        exact ⟨rfl, hd⟩
  · rw [befL_ne (by omega), hl, hl'] at hb
    have hne : ((n : Int) == (n' : Int)) = false := by simp; omega
    have HB := hide hb
    clear hb hl hl' hr hr'
    go_enter Try.func41, Try.ntmps41
    go_wp2
    go_ret
    exact ⟨ret_bool (by rw [← unhide HB]), Drew.refl _⟩

theorem nan_any (x : Int) (w : World) : Calls Try.prog 50 #[.int .i64 x] w fun e w' => e = .returned (.bool false) ∧ w = w' := by
  go_enter Try.func50, Try.ntmps50
  go_wp2
  go_ret
  exact ⟨rfl, rfl⟩
theorem cmp_lt (x y : Int) (h : x < y) (w : World) : Calls Try.prog 48 #[.int .i64 x, .int .i64 y] w fun e w' => e = .returned (.int .i64 (-1)) ∧ w = w' := by
  go_enter Try.func48, Try.ntmps48
  go_wp2_with ((with_reducible refine (nan_any _ _).mono ?_); rintro e w' ⟨rfl, rfl⟩)
  go_ret
  exact ⟨rfl, rfl⟩
theorem cmp_gt (x y : Int) (h : y < x) (w : World) : Calls Try.prog 48 #[.int .i64 x, .int .i64 y] w fun e w' => e = .returned (.int .i64 1) ∧ w = w' := by
  have h' : ¬ x < y := by omega
  go_enter Try.func48, Try.ntmps48
  go_wp2_with ((with_reducible refine (nan_any _ _).mono ?_); rintro e w' ⟨rfl, rfl⟩)
  go_ret
  exact ⟨rfl, rfl⟩
theorem cmp_eq (x : Int) (w : World) : Calls Try.prog 48 #[.int .i64 x, .int .i64 x] w fun e w' => e = .returned (.int .i64 0) ∧ w = w' := by
  have h' : ¬ x < x := by omega
  go_enter Try.func48, Try.ntmps48
  go_wp2_with ((with_reducible refine (nan_any _ _).mono ?_); rintro e w' ⟨rfl, rfl⟩)
  go_ret
  exact ⟨rfl, rfl⟩
def GivesCmp (w : World) (b : Bool) (e : Ending) (w' : World) : Prop := ∃ r : Int, e = .returned (.int .i64 r) ∧ (b = true → r < 0) ∧ (b = false → 0 ≤ r) ∧ w = w'
set_option maxHeartbeats 400000 in
theorem compare_any (A A' : Option Addr) (n c B c' B' : Nat) (p q : List Int) (b : Bool) (hb : lexL p q = b) (w : World) (h : Arg w B A n c p) (h' : Arg w B' A' n c' q) :
    Calls Try.prog 42 #[.slice A n c, .slice A' n c'] w (GivesCmp w b) := by
  have hl := h.len
  have hl' := h'.len
  have hn := h.le
  have hr := h.reads
  have hr' := h'.reads
  clear h h'
  have HB := hide hb
  have HL := hide hl
  have HL' := hide hl'
  clear hb hl hl'
  go_enter Try.func42, Try.ntmps42
  go_wp2
  go_loop [5, 6, 7, 8, 11] (fun _ _ _ _ i => ∃ k : Nat, k ≤ n ∧ i = .int .i64 k ∧ Hid (p.take k = q.take k)) (fun _ _ _ _ i => n - (intOf i).toNat)
  case atStart => exact ⟨0, Nat.zero_le _, rfl, by exact (rfl : p.take 0 = q.take 0)⟩
  case round =>
    obtain ⟨k, hk, rfl, hs⟩ := hrel
    by_cases hlt : k < n
    · obtain ⟨ad, u, rfl, _, hu, hc⟩ := hr.at_ hlt
      obtain ⟨ad', u', rfl, _, hu', hc'⟩ := hr'.at_ hlt
      obtain ⟨x, hx, rfl⟩ := i64_at hu
      obtain ⟨y, hy, rfl⟩ := i64_at hu'
      clear hu hu' hr hr'
      by_cases hxy : x = y
      · subst hxy
        have hnext := hide (take_same_step (unhide hs) hx hy)
        clear hx hy hs
        go_wp2_with ((with_reducible refine (cmp_eq _ _).mono ?_); rintro e w' ⟨rfl, rfl⟩)
        go_round
        case rel => exact ⟨k + 1, by omega, by go_num, hnext⟩
        case measure => simp [intOf]; omega
      · have hat := (unhide HB).symm.trans (lexL_at (unhide hs) hx hy hxy)
        by_cases hl : x < y
        · obtain rfl : b = true := by rw [hat]; simp [hl]
          clear hx hy hs HB hxy hat
          go_wp2_with ((with_reducible refine (cmp_lt _ _ hl _).mono ?_); rintro e w' ⟨rfl, rfl⟩)
          go_ret
          exact ⟨-1, rfl, fun _ => by omega, (fun h => by cases h), rfl⟩
        · have hg : y < x := by omega
          obtain rfl : b = false := by rw [hat]; simp [hl]
          clear hx hy hs HB hxy hat hl
          go_wp2_with ((with_reducible refine (cmp_gt _ _ hg _).mono ?_); rintro e w' ⟨rfl, rfl⟩)
          go_ret
          exact ⟨1, rfl, (fun h => by cases h), fun _ => by omega, rfl⟩
    · obtain rfl : n = k := by omega
      obtain rfl : b = false := (unhide HB).symm.trans (lexL_end (unhide hs) (unhide HL) (unhide HL'))
      clear HB hs
      go_wp2
      go_ret
      exact ⟨0, rfl, (fun h => by cases h), fun _ => by omega, rfl⟩
theorem sbef_any (A A' : Option Addr) (n c B n' c' B' : Nat) (p q : List Int) (w : World) (h : Arg w B A n c p) (h' : Arg w B' A' n' c' q) :
    Calls Try.prog 24 #[.slice A n c, .slice A' n' c'] w (GivesB w (bef p q)) := by
  obtain ⟨bp, hp⟩ : ∃ b, isP p = b := ⟨_, rfl⟩
  obtain ⟨bq, hq⟩ : ∃ b, isP q = b := ⟨_, rfl⟩
  have H1 := hide (sisperm_any A n c B p bp hp w h.reads h.le h.cap)
  have H2 := hide (fun w' (hb' : Below w.heap.size w w') => sisperm_any A' n' c' B' q bq hq w' (h'.below hb').reads h'.le h'.cap)
  have H3 := hide (fun w' (hb' : Below w.heap.size w w') => l2bef_any A A' n c B n' c' B' p q (befL p q) rfl w' (h.below hb') (h'.below hb'))
  cases bp with
  | false =>
    rw [bef_no1 hp]
    clear hp hq h h' H2 H3
    go_enter Try.func24, Try.ntmps24
    go_wp2_with fail
    refine (unhide H1).mono ?_
    rintro e w1 ⟨rfl, hd⟩
    have hb := hd.below w.heap.size
    clear hd H1
    go_wp2
    go_ret
    exact ⟨rfl, hb⟩
  | true =>
    cases bq with
    | false =>
      rw [bef_no2 hq]
      clear hp hq h h' H3
      go_enter Try.func24, Try.ntmps24
      go_wp2_with fail
      refine (unhide H1).mono ?_
      rintro e w1 ⟨rfl, hd⟩
      have hb := hd.below w.heap.size
      have H4 := hide (unhide H2 w1 hb)
      clear hd H1 H2
      go_wp2_with fail
      refine (unhide H4).mono ?_
      rintro e w2 ⟨rfl, hd⟩
      have hb2 := below_after hb (hd.below _)
      clear hd H4
      go_wp2
      go_ret
      exact ⟨rfl, hb2⟩
    | true =>
      rw [bef_yes hp hq]
      obtain ⟨b, hbb⟩ : ∃ b, b = befL p q := ⟨_, rfl⟩
      simp only [← hbb] at H3 ⊢
      clear hp hq h h' hbb
      go_enter Try.func24, Try.ntmps24
      go_wp2_with fail
      refine (unhide H1).mono ?_
      rintro e w1 ⟨rfl, hd⟩
      have hb := hd.below w.heap.size
      have H4 := hide (unhide H2 w1 hb)
      clear hd H1 H2
      go_wp2_with fail
      refine (unhide H4).mono ?_
      rintro e w2 ⟨rfl, hd⟩
      have hb2 := below_after hb (hd.below _)
      have H5 := hide (unhide H3 w2 hb2)
      clear hd H4 H3
      go_wp2_with fail
      refine (unhide H5).mono ?_
      rintro e w3 ⟨rfl, hd⟩
      have hb3 := below_after hb2 (hd.below _)
      clear hd H5
      go_wp2
      go_ret
      exact ⟨rfl, hb3⟩

theorem ibef_any (A A' : Option Addr) (n c B n' c' B' : Nat) (p q : List Int) (w : World) (h : Arg w B A n c p) (h' : Arg w B' A' n' c' q) :
    Calls Try.prog 25 #[.slice A n c, .slice A' n' c'] w (GivesB w (bef p q)) := by
  obtain ⟨bp, hp⟩ : ∃ b, isP p = b := ⟨_, rfl⟩
  obtain ⟨bq, hq⟩ : ∃ b, isP q = b := ⟨_, rfl⟩
  have H1 := hide (iisperm_any A n c B p bp hp w h.reads h.under h.le h.small)
  have H2 := hide (fun w' (hb' : Below w.heap.size w w') => iisperm_any A' n' c' B' q bq hq w' (h'.below hb').reads (h'.below hb').under h'.le h'.small)
  have hl := h.len
  have hl' := h'.len
  have hn := h.le
  have hn' := h'.le
  cases bp with
  | false =>
    rw [bef_no1 hp]
    clear hp hq h h' H2 hl hl'
    go_enter Try.func25, Try.ntmps25
    go_wp2_with fail
    refine (unhide H1).mono ?_
    rintro e w1 ⟨rfl, hb⟩
    clear H1
    go_wp2
    go_ret
    exact ⟨rfl, hb⟩
  | true =>
    cases bq with
    | false =>
      rw [bef_no2 hq]
      clear hp hq h h' hl hl'
      go_enter Try.func25, Try.ntmps25
      go_wp2_with fail
      refine (unhide H1).mono ?_
      rintro e w1 ⟨rfl, hb⟩
      have H4 := hide (unhide H2 w1 hb)
      clear H1 H2
      go_wp2_with fail
      refine (unhide H4).mono ?_
      rintro e w2 ⟨rfl, hd⟩
      have hb2 := below_after hb hd
      clear hd H4
      go_wp2
      go_ret
      exact ⟨rfl, hb2⟩
    | true =>
      rw [bef_yes hp hq]
      by_cases he : n = n'
      · subst he
        rw [befL_eq (by omega)]
        obtain ⟨b, hbb⟩ : ∃ b, lexL p q = b := ⟨_, rfl⟩
        have H3 := hide (fun w' (hb' : Below w.heap.size w w') => compare_any A A' n c B c' B' p q b hbb w' (h.below hb') (h'.below hb'))
        rw [hbb]
        clear hp hq h h' hbb hl hl'
        cases b
        all_goals
          go_enter Try.func25, Try.ntmps25
          go_wp2_with fail
          refine (unhide H1).mono ?_
          rintro e w1 ⟨rfl, hb⟩
          have H4 := hide (unhide H2 w1 hb)
          clear H1 H2
          go_wp2_with fail
          refine (unhide H4).mono ?_
          rintro e w2 ⟨rfl, hd⟩
          have hb2 := below_after hb hd
          have H5 := hide (unhide H3 w2 hb2)
          clear hd H4 H3 hb
          go_wp2_with fail
          refine (unhide H5).mono ?_
          rintro e w3 ⟨r, rfl, h1, h2, rfl⟩
          clear H5
          first | have hr := h1 rfl | have hr := h2 rfl
          clear h1 h2
          go_wp2
          go_ret
          exact ⟨ret_bool (by first | (simp; done) | (simp; omega)), hb2⟩
      · rw [befL_ne (by omega)]
        have hne : ((n : Int) == (n' : Int)) = false := by simp; omega
        have HB := hide (show decide (p.length < q.length) = decide ((n : Int) < (n' : Int)) from decide_eq_decide.2 (by omega))
        rw [unhide HB]
        clear hp hq h h' hl hl' HB
        go_enter Try.func25, Try.ntmps25
        go_wp2_with fail
        refine (unhide H1).mono ?_
        rintro e w1 ⟨rfl, hb⟩
        have H4 := hide (unhide H2 w1 hb)
        clear H1 H2
        go_wp2_with fail
        refine (unhide H4).mono ?_
        rintro e w2 ⟨rfl, hd⟩
        have hb2 := below_after hb hd
        clear hd H4 hb
        go_wp2
        go_ret
        exact ⟨ret_bool (by simp), hb2⟩
end Go.Proofs.Ytejeclomjkiibaa
