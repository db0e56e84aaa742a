
/-
  spec.l2Before, spec.l2Same; cmp.Compare, slices.Compare, cmp.Or, slices.Equal and impl.comparePerms, by their contracts.
-/
import Derived.Test.YtkjjjnkgkgdfkaaPermS
import Derived.Test.YtkjjjnkgkgdfkaaPermB
import Derived.Test.YtkjjjnkgkgdfkaaSymM
import Derived.Sort.Grow
import Derived.Outline
namespace Go.Proofs.Ytkjjjnkgkgdfkaa
set_option maxRecDepth 100000
open Go.RowKit

/-! plain -/
/-- slices.Compare's answer. -/
def lexV : List Int → List Int → Int
  | [], [] => 0
  | [], _ :: _ => -1
  | _ :: _, [] => 1
  | x :: xs, y :: ys => if x = y then lexV xs ys else if x < y then -1 else 1
theorem lexV_at : ∀ {p q : List Int} {k : Nat} {x y : Int}, p.take k = q.take k → p[k]? = some x → q[k]? = some y → x ≠ y → lexV p q = if x < y then -1 else 1
  | a :: p, b :: q, 0, x, y, _, hx, hy, hne => by
    simp at hx hy
    subst hx; subst hy
    rw [lexV, if_neg hne]
  | a :: p, b :: q, k + 1, x, y, h, hx, hy, hne => by
    simp at h
    obtain ⟨rfl, h⟩ := h
    rw [lexV, if_pos rfl]
    exact lexV_at h (by simpa using hx) (by simpa using hy) hne
  | [], _, k, _, _, _, hx, _, _ => by simp at hx
  | _ :: _, [], k, _, _, _, _, hy, _ => by simp at hy
theorem lexV_end : ∀ {p q : List Int} {k : Nat}, p.take k = q.take k → (k = p.length ∨ k = q.length) → k ≤ p.length → k ≤ q.length → lexV p q = if p.length < q.length then -1 else if q.length < p.length then 1 else 0
  | [], [], _, _, _, _, _ => by simp [lexV]
  | [], y :: q, _, _, _, _, _ => by simp [lexV]
  | x :: p, [], _, _, _, _, _ => by simp [lexV]
  | x :: p, y :: q, 0, _, h, _, _ => by simp at h
  | x :: p, y :: q, k + 1, h, hk, h1, h2 => by
    simp at h
    obtain ⟨rfl, h⟩ := h
    rw [lexV, if_pos rfl, lexV_end h (by simpa using hk) (by simpa using h1) (by simpa using h2)]
    simp
theorem lexV_lexL : ∀ {p q : List Int}, p.length = q.length → decide (lexV p q < 0) = lexL p q
  | [], [], _ => rfl
  | [], _ :: _, h => by simp at h
  | _ :: _, [], h => by simp at h
  | x :: p, y :: q, h => by
    rw [lexV, lexL]
    by_cases e : x = y
    · rw [if_pos e, if_pos e]
      exact lexV_lexL (by simpa using h)
    · rw [if_neg e, if_neg e]
      by_cases hl : x < y <;> simp [hl]
theorem lexV_small : ∀ (p q : List Int), -1 ≤ lexV p q ∧ lexV p q ≤ 1
  | [], [] => by simp [lexV]
  | [], _ :: _ => by simp [lexV]
  | _ :: _, [] => by simp [lexV]
  | x :: p, y :: q => by
    rw [lexV]
    split
    · exact lexV_small p q
    · split <;> omega
def cmpI (x y : Int) : Int := if x < y then -1 else if y < x then 1 else 0
/-- impl.comparePerms's answer. -/
def cmpV (p q : List Int) : Int := if cmpI p.length q.length = 0 then lexV p q else cmpI p.length q.length
theorem cmpV_befL (p q : List Int) : decide (cmpV p q < 0) = befL p q := by
  unfold cmpV cmpI befL
  by_cases h1 : (p.length : Int) < q.length
  · rw [if_pos h1, if_neg (by omega), if_neg (by omega)]
    simp; omega
  · rw [if_neg h1]
    by_cases h2 : (q.length : Int) < p.length
    · rw [if_pos h2, if_neg (by omega), if_neg (by omega)]
      simp; omega
    · rw [if_neg h2, if_pos rfl, if_pos (by omega)]
      exact lexV_lexL (by omega)
theorem cmpV_small (p q : List Int) : -1 ≤ cmpV p q ∧ cmpV p q ≤ 1 := by
  have h := lexV_small p q
  have h2 : -1 ≤ cmpI p.length q.length ∧ cmpI p.length q.length ≤ 1 := by
    unfold cmpI
    split
    · omega
    · split <;> omega
  unfold cmpV
  split
  · exact h
  · exact h2

theorem below_sgrow (w : World) (k : Nat) (os : Array Obj) : Below w.heap.size w (Sort.grow (w.drewN k) os) :=
  ⟨rfl, rfl, rfl, by unfold Sort.grow; simp [World.drewN], fun i hi => by unfold Sort.grow; exact Array.getElem?_append_left hi⟩

/-! contracts -/
set_option maxHeartbeats 400000 in
theorem l2bef_any (A A' : Option Addr) (n c B n' c' B' : Nat) (p q : List Int) (b : Bool) (hb : befL p q = b) (w : World) (h : Arg w B A n c p) (h' : Arg w B' A' n' c' q) :
    Calls Try.prog 68 #[.slice A n c, .slice A' n' c'] w fun e w' => e = .returned (.bool b) ∧ Drew w w' := by
  have hl := h.len
  have hl' := h'.len
  have hn := h.le
  have hn' := h'.le
  have hr := h.reads
  have hr' := h'.reads
  clear h h'
  by_cases he : n = n'
  · subst he
    rw [befL_eq (by omega)] at hb
    have HB := hide hb
    have HL := hide hl
    have HL' := hide hl'
    clear hb hl hl'
    go_enter Try.func68, Try.ntmps68
    go_wp2
    go_loopw [5] (fun i wr => ∃ k : Nat, k ≤ n ∧ i = .int .i64 k ∧ Drew w wr ∧ Hid (p.take k = q.take k)) (fun i _ => n - (intOf i).toNat)
    case atStart => exact ⟨0, Nat.zero_le _, rfl, Drew.refl _, by exact (rfl : p.take 0 = q.take 0)⟩
    case round =>
      obtain ⟨k, hk, rfl, hd, hs⟩ := hrel
      by_cases hlt : k < n
      · obtain ⟨ad, u, rfl, _, hu, hc⟩ := (hr.ofDrew hd).at_ hlt
        obtain ⟨ad', u', rfl, _, hu', hc'⟩ := (hr'.ofDrew hd).at_ hlt
        obtain ⟨x, hx, rfl⟩ := i64_at hu
        obtain ⟨y, hy, rfl⟩ := i64_at hu'
        have HD := hide hd
        clear hu hu' hr hr' hd
        by_cases hxy : x = y
        · subst hxy
          have hnext := hide (take_same_step (unhide hs) hx hy)
          clear hx hy hs
          go_wp2
          go_quiet (fail)
          go_wp2
          go_roundw
          case rel => exact ⟨k + 1, by omega, by go_num, (unhide HD).more _, hnext⟩
          case measure => simp [intOf]; omega
        · have hat := (unhide HB).symm.trans (lexL_at (unhide hs) hx hy hxy)
          have hne : (x == y) = false := by simpa using hxy
          clear hx hy hs HB hxy
          have hcc := hc
          have hcc' := hc'
          have HAT := hide hat
          clear hat
          go_wp2
          go_quiet (fail)
          go_wp2
          go_quiet (fail)
          go_wp2
          go_ret
          exact ⟨ret_bool (unhide HAT).symm, ((unhide HD).more _).more _⟩
      · obtain rfl : n = k := by omega
        obtain rfl : b = false := (unhide HB).symm.trans (lexL_end (unhide hs) (unhide HL) (unhide HL'))
        clear HB hs
        go_wp2
        go_ret
        exact ⟨rfl, hd⟩
  · rw [befL_ne (by omega), hl, hl'] at hb
    have hne : ((n : Int) == (n' : Int)) = false := by simp; omega
    have HB := hide hb
    clear hb hl hl' hr hr'
    go_enter Try.func68, Try.ntmps68
    go_wp2
    go_ret
    exact ⟨ret_bool (by rw [← unhide HB]), Drew.refl _⟩
theorem nan_any (x : Int) (w : World) : Calls Try.prog 93 #[.int .i64 x] w fun e w' => e = .returned (.bool false) ∧ w = w' := by
  go_enter Try.func93, Try.ntmps93
  go_wp2
  go_ret
  exact ⟨rfl, rfl⟩
theorem cmp_lt (x y : Int) (h : x < y) (w : World) : Calls Try.prog 88 #[.int .i64 x, .int .i64 y] w fun e w' => e = .returned (.int .i64 (-1)) ∧ w = w' := by
  go_enter Try.func88, Try.ntmps88
  go_wp2_with ((with_reducible refine (nan_any _ _).mono ?_); rintro e w' ⟨rfl, rfl⟩)
  go_ret
  exact ⟨rfl, rfl⟩
theorem cmp_gt (x y : Int) (h : y < x) (w : World) : Calls Try.prog 88 #[.int .i64 x, .int .i64 y] w fun e w' => e = .returned (.int .i64 1) ∧ w = w' := by
  have h' : ¬ x < y := by omega
  go_enter Try.func88, Try.ntmps88
  go_wp2_with ((with_reducible refine (nan_any _ _).mono ?_); rintro e w' ⟨rfl, rfl⟩)
  go_ret
  exact ⟨rfl, rfl⟩
theorem cmp_eq (x : Int) (w : World) : Calls Try.prog 88 #[.int .i64 x, .int .i64 x] w fun e w' => e = .returned (.int .i64 0) ∧ w = w' := by
  have h' : ¬ x < x := by omega
  go_enter Try.func88, Try.ntmps88
  go_wp2_with ((with_reducible refine (nan_any _ _).mono ?_); rintro e w' ⟨rfl, rfl⟩)
  go_ret
  exact ⟨rfl, rfl⟩
theorem cmp_any (x y : Int) (w : World) : Calls Try.prog 88 #[.int .i64 x, .int .i64 y] w fun e w' => e = .returned (.int .i64 (cmpI x y)) ∧ w = w' := by
  unfold cmpI
  by_cases h1 : x < y
  · rw [if_pos h1]; exact cmp_lt x y h1 w
  · rw [if_neg h1]
    by_cases h2 : y < x
    · rw [if_pos h2]; exact cmp_gt x y h2 w
    · rw [if_neg h2]
      obtain rfl : x = y := by omega
      exact cmp_eq x w
set_option maxHeartbeats 400000 in
theorem compare_any (A A' : Option Addr) (n c B n' c' B' : Nat) (p q : List Int) (w : World) (h : Arg w B A n c p) (h' : Arg w B' A' n' c' q) :
    Calls Try.prog 89 #[.slice A n c, .slice A' n' c'] w fun e w' => e = .returned (.int .i64 (lexV p q)) ∧ w = w' := by
  obtain ⟨b, hb⟩ : ∃ b, lexV p q = b := ⟨_, rfl⟩
  have hl := h.len
  have hl' := h'.len
  have hn := h.le
  have hn' := h'.le
  have hr := h.reads
  have hr' := h'.reads
  clear h h'
  rw [hb]
  have HB := hide hb
  have HL := hide hl
  have HL' := hide hl'
  clear hb hl hl'
  go_enter Try.func89, Try.ntmps89
  go_wp2
  go_loop [5, 6, 7, 8, 11] (fun _ _ _ _ i => ∃ k : Nat, k ≤ n ∧ k ≤ n' ∧ i = .int .i64 k ∧ Hid (p.take k = q.take k)) (fun _ _ _ _ i => n - (intOf i).toNat)
  case atStart => exact ⟨0, Nat.zero_le _, Nat.zero_le _, rfl, by exact (rfl : p.take 0 = q.take 0)⟩
  case round =>
    obtain ⟨k, hk, hk', rfl, hs⟩ := hrel
    by_cases hlt : k < n
    · obtain ⟨ad, u, rfl, _, hu, hc⟩ := hr.at_ hlt
      obtain ⟨x, hx, rfl⟩ := i64_at hu
      by_cases hlt' : k < n'
      · obtain ⟨ad', u', rfl, _, hu', hc'⟩ := hr'.at_ hlt'
        obtain ⟨y, hy, rfl⟩ := i64_at hu'
        clear hu hu' hr hr'
        by_cases hxy : x = y
        · subst hxy
          have hnext := hide (take_same_step (unhide hs) hx hy)
          clear hx hy hs
          go_wp2_with ((with_reducible refine (cmp_eq _ _).mono ?_); rintro e w' ⟨rfl, rfl⟩)
          go_round
          case rel => exact ⟨k + 1, by omega, by omega, by go_num, hnext⟩
          case measure => simp [intOf]; omega
        · have hat := (unhide HB).symm.trans (lexV_at (unhide hs) hx hy hxy)
          by_cases hl : x < y
          · obtain rfl : b = -1 := by rw [hat]; simp [hl]
            clear hx hy hs HB hxy hat
            go_wp2_with ((with_reducible refine (cmp_lt _ _ hl _).mono ?_); rintro e w' ⟨rfl, rfl⟩)
            go_ret
            exact ⟨rfl, rfl⟩
          · have hg : y < x := by omega
            obtain rfl : b = 1 := by rw [hat]; simp [hl]
            clear hx hy hs HB hxy hat hl
            go_wp2_with ((with_reducible refine (cmp_gt _ _ hg _).mono ?_); rintro e w' ⟨rfl, rfl⟩)
            go_ret
            exact ⟨rfl, rfl⟩
      · obtain rfl : n' = k := by omega
        have hat := (unhide HB).symm.trans (lexV_end (unhide hs) (.inr (unhide HL').symm) (by rw [unhide HL]; omega) (by rw [unhide HL']; omega))
        rw [unhide HL, unhide HL', if_neg (by omega), if_pos hlt] at hat
        subst hat
        clear hu hx hs HB hr hr'
        go_wp2
        go_ret
        exact ⟨rfl, rfl⟩
    · obtain rfl : n = k := by omega
      have hat := (unhide HB).symm.trans (lexV_end (unhide hs) (.inl (unhide HL).symm) (by rw [unhide HL]; omega) (by rw [unhide HL']; omega))
      rw [unhide HL, unhide HL'] at hat
      clear HB hs hr hr'
      by_cases hlt' : n < n'
      · rw [if_pos hlt'] at hat
        subst hat
        go_wp2
        go_ret
        exact ⟨rfl, rfl⟩
      · rw [if_neg hlt', if_neg (by omega)] at hat
        subst hat
        go_wp2
        go_ret
        exact ⟨rfl, rfl⟩
def or2 (x y : Int) : Int := if x = 0 then y else x
theorem two_at {x y z : Int} {k : Nat} (h : [x, y][k]? = some z) : (k = 0 ∧ z = x) ∨ (k = 1 ∧ z = y) := by
  match k, h with
  | 0, h => simp at h; exact .inl ⟨rfl, h.symm⟩
  | 1, h => simp at h; exact .inr ⟨rfl, h.symm⟩
  | k + 2, h => simp at h
theorem cmpor_any (A : Option Addr) (c B : Nat) (x y : Int) (w : World) (hr : Reads w B A 2 (i64s [x, y])) :
    Calls Try.prog 87 #[.slice A 2 c] w fun e w' => e = .returned (.int .i64 (or2 x y)) ∧ w = w' := by
  obtain ⟨r, hrr⟩ : ∃ r, or2 x y = r := ⟨_, rfl⟩
  rw [hrr]
  have HR := hide hrr
  clear hrr
  go_enter Try.func87, Try.ntmps87
  go_wp2
  go_loop [5, 8] (fun _ i => ∃ k : Nat, k ≤ 2 ∧ i = .int .i64 k ∧ Hid (∀ j z, j < k → [x, y][j]? = some z → z = 0)) (fun _ i => 2 - (intOf i).toNat)
  case atStart => exact ⟨0, Nat.zero_le _, rfl, fun j z h => by omega⟩
  case round =>
    obtain ⟨k, hk, rfl, hz⟩ := hrel
    by_cases hlt : k < 2
    · obtain ⟨ad, u, rfl, _, hu, hc⟩ := hr.at_ hlt
      obtain ⟨v, hv, rfl⟩ := i64_at hu
      clear hu hr
      by_cases h0 : v = 0
      · subst h0
        have hn : Hid (∀ j z, j < k + 1 → [x, y][j]? = some z → z = 0) := fun j z hj h => by
          by_cases e : j = k
          · subst e
            rw [hv] at h
            exact (Option.some.inj h).symm
          · exact unhide hz j z (by omega) h
        clear hv hz
        go_wp2
        go_round
        case rel => exact ⟨k + 1, by omega, by go_num, hn⟩
        case measure => simp [intOf]; omega
      · obtain rfl : r = v := by
          rw [← unhide HR]
          unfold or2
          rcases two_at hv with ⟨rfl, rfl⟩ | ⟨rfl, rfl⟩
          · rw [if_neg h0]
          · rw [if_pos (unhide hz 0 x (by omega) rfl)]
        have hx' : (r != 0) = true := by simp [h0]
        clear h0 hv hz HR
        go_wp2
        go_ret
        exact ⟨rfl, rfl⟩
    · obtain rfl : k = 2 := by omega
      obtain rfl : r = 0 := by
        rw [← unhide HR]
        unfold or2
        rw [if_pos (unhide hz 0 x (by omega) rfl), unhide hz 1 y (by omega) rfl]
      clear hz HR hr
      go_wp2
      go_ret
      exact ⟨rfl, rfl⟩
theorem comparePerms_any (A A' : Option Addr) (n c B n' c' B' : Nat) (p q : List Int) (w : World) (h : Arg w B A n c p) (h' : Arg w B' A' n' c' q) :
    Calls Try.prog 67 #[.slice A n c, .slice A' n' c'] w fun e w' => e = .returned (.int .i64 (cmpV p q)) ∧ ∃ k os, w' = Sort.grow (w.drewN k) os := by
  have hv : or2 (cmpI n n') (lexV p q) = cmpV p q := by
    unfold or2 cmpV
    rw [h.len, h'.len]
  rw [← hv]
  have H1 := hide (cmp_any n n' w)
  have H2 := hide (compare_any A A' n c B n' c' B' p q w h h')
  clear hv h h'
  go_enter Try.func67, Try.ntmps67
  go_wp2_with fail
  refine (unhide H1).mono ?_
  rintro e w1 ⟨rfl, rfl⟩
  clear H1
  go_wp2_with fail
  refine (unhide H2).mono ?_
  rintro e w1 ⟨rfl, rfl⟩
  clear H2
  go_wp2_with fail
  have hR : Reads (w.alloc (.cells (i64s [cmpI n n', lexV p q]).toArray 3)) (w.heap.size + 1) (some ⟨w.heap.size, 0, none⟩) 2 (i64s [cmpI n n', lexV p q]) := ⟨rfl, fun _ => ⟨_, rfl, by simp, fun j u hu => by
    rw [show (⟨w.heap.size, 0, none⟩ : Addr).add j = ⟨w.heap.size, j, none⟩ by unfold Addr.add; split <;> simp_all, World.cell?_alloc_new]
    simpa using hu⟩⟩
  refine (cmpor_any _ 2 (w.heap.size + 1) _ _ _ hR).mono ?_
  rintro e w1 ⟨rfl, rfl⟩
  clear hR
  go_wp2
  go_ret
  exact ⟨rfl, 0, _, Sort.alloc_eq_grow _ _⟩
end Go.Proofs.Ytkjjjnkgkgdfkaa
