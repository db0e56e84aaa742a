/-
  Words and contracts that the laws lean on, bundled: Join, Cmp, Filled, Push, Put, Rev, OccS, OccF, OccR.
-/
import Derived.Test.YtcoegjhhhnfplaaB1
import Derived.Test.YtcoegjhhhnfplaaB3
import Derived.Test.YtcoegjhhhnfplaaB2
import Derived.Deep.RegionHeld3
import Derived.Sort.Grow
import Derived.Outline
import Derived.Maps.AppendAt
import Derived.Lib.SliceRun

/-
  spec.l4Fit, spec.l4Join, spec.SumOf, spec.SkewSumOf, by their contracts.
-/

namespace Go.Proofs.Ytcoegjhhhnfplaa
set_option maxRecDepth 100000
open Go.RowKit

def bitI (b : Bool) : Int := if b then 1 else 0
theorem bit_any (b : Bool) (w : World) : Calls Try.prog 64 #[.bool b] w fun e w' => e = .returned (.int .i64 (bitI b)) ∧ w' = w := by
  cases b with
  | true => exact bit_true w
  | false => exact bit_false w
theorem joinL_at1 {s : Bool} {p q : List Int} {k : Nat} {z : Int} (h : p[k]? = some z) : (joinL s p q)[k]? = some (z + bitI s * (q.length : Int)) := by
  have hk : k < p.length := (List.getElem?_eq_some_iff.1 h).1
  cases s with
  | true =>
    simp only [joinL, if_true, bitI]
    rw [List.getElem?_append_left (by simpa using hk), List.getElem?_map, h, Int.one_mul]; rfl
  | false =>
    simp only [joinL, bitI, Bool.false_eq_true, if_false]
    rw [List.getElem?_append_left hk, h, Int.zero_mul, Int.add_zero]
theorem joinL_at2 {s : Bool} {p q : List Int} {k : Nat} {z : Int} (h : q[k]? = some z) : (joinL s p q)[p.length + k]? = some (z + bitI (!s) * (p.length : Int)) := by
  cases s with
  | true =>
    simp only [joinL, if_true, bitI, Bool.not_true, Bool.false_eq_true, if_false]
    rw [List.getElem?_append_right (by simp), List.length_map, Nat.add_sub_cancel_left, h, Int.zero_mul, Int.add_zero]
  | false =>
    simp only [joinL, bitI, Bool.not_false, if_true, Bool.false_eq_true, if_false]
    rw [List.getElem?_append_right (by omega), Nat.add_sub_cancel_left, List.getElem?_map, h, Int.one_mul]; rfl
theorem bit_le (s : Bool) (n : Nat) : 0 ≤ bitI s * (n : Int) ∧ bitI s * (n : Int) ≤ n := by
  cases s
  · simp [bitI]
  · simp [bitI]

theorem keep_low {B : Nat} {wr w : World} {p : Addr} {v : Value} (h : wr.cell? p = some v) (hp : p.block < B) (hb : Below B wr w) : w.cell? p = some v ∧ Below B wr w := ⟨(hb.cell hp).trans h, hb⟩
end Go.Proofs.Ytcoegjhhhnfplaa


/-
  spec.l2Before, spec.l2Same; cmp.Compare, slices.Compare, cmp.Or, slices.Equal and impl.comparePerms, by their contracts.
-/

namespace Go.Proofs.Ytcoegjhhhnfplaa
set_option maxRecDepth 100000
open Go.RowKit

/-! plain -/
/-- slices.Compare's answer. -/
def lexV : List Int → List Int → Int
  | [], [] => 0
  | [], _ :: _ => -1
  | _ :: _, [] => 1
  | x :: xs, y :: ys => if x = y then lexV xs ys else if x < y then -1 else 1
theorem lexV_at : ∀ {p q : List Int} {k : Nat} {x y : Int}, p.take k = q.take k → p[k]? = some x → q[k]? = some y → x ≠ y → lexV p q = if x < y then -1 else 1
  | a :: p, b :: q, 0, x, y, _, hx, hy, hne => by
    simp at hx hy
    subst hx; subst hy
    rw [lexV, if_neg hne]
  | a :: p, b :: q, k + 1, x, y, h, hx, hy, hne => by
    simp at h
    obtain ⟨rfl, h⟩ := h
    rw [lexV, if_pos rfl]
    exact lexV_at h (by simpa using hx) (by simpa using hy) hne
  | [], _, k, _, _, _, hx, _, _ => by simp at hx
  | _ :: _, [], k, _, _, _, _, hy, _ => by simp at hy
theorem lexV_end : ∀ {p q : List Int} {k : Nat}, p.take k = q.take k → (k = p.length ∨ k = q.length) → k ≤ p.length → k ≤ q.length → lexV p q = if p.length < q.length then -1 else if q.length < p.length then 1 else 0
  | [], [], _, _, _, _, _ => by simp [lexV]
  | [], y :: q, _, _, _, _, _ => by simp [lexV]
  | x :: p, [], _, _, _, _, _ => by simp [lexV]
  | x :: p, y :: q, 0, _, h, _, _ => by simp at h
  | x :: p, y :: q, k + 1, h, hk, h1, h2 => by
    simp at h
    obtain ⟨rfl, h⟩ := h
    rw [lexV, if_pos rfl, lexV_end h (by simpa using hk) (by simpa using h1) (by simpa using h2)]
    simp
theorem lexV_lexL : ∀ {p q : List Int}, p.length = q.length → decide (lexV p q < 0) = lexL p q
  | [], [], _ => rfl
  | [], _ :: _, h => by simp at h
  | _ :: _, [], h => by simp at h
  | x :: p, y :: q, h => by
    rw [lexV, lexL]
    by_cases e : x = y
    · rw [if_pos e, if_pos e]
      exact lexV_lexL (by simpa using h)
    · rw [if_neg e, if_neg e]
      by_cases hl : x < y <;> simp [hl]
theorem lexV_small : ∀ (p q : List Int), -1 ≤ lexV p q ∧ lexV p q ≤ 1
  | [], [] => by simp [lexV]
  | [], _ :: _ => by simp [lexV]
  | _ :: _, [] => by simp [lexV]
  | x :: p, y :: q => by
    rw [lexV]
    split
    · exact lexV_small p q
    · split <;> omega
def cmpI (x y : Int) : Int := if x < y then -1 else if y < x then 1 else 0
/-- impl.comparePerms's answer. -/
def cmpV (p q : List Int) : Int := if cmpI p.length q.length = 0 then lexV p q else cmpI p.length q.length
theorem cmpV_befL (p q : List Int) : decide (cmpV p q < 0) = befL p q := by
  unfold cmpV cmpI befL
  by_cases h1 : (p.length : Int) < q.length
  · rw [if_pos h1, if_neg (by omega), if_neg (by omega)]
    simp; omega
  · rw [if_neg h1]
    by_cases h2 : (q.length : Int) < p.length
    · rw [if_pos h2, if_neg (by omega), if_neg (by omega)]
      simp; omega
    · rw [if_neg h2, if_pos rfl, if_pos (by omega)]
      exact lexV_lexL (by omega)
theorem cmpV_small (p q : List Int) : -1 ≤ cmpV p q ∧ cmpV p q ≤ 1 := by
  have h := lexV_small p q
  have h2 : -1 ≤ cmpI p.length q.length ∧ cmpI p.length q.length ≤ 1 := by
    unfold cmpI
    split
    · omega
    · split <;> omega
  unfold cmpV
  split
  · exact h
  · exact h2

theorem below_sgrow (w : World) (k : Nat) (os : Array Obj) : Below w.heap.size w (Sort.grow (w.drewN k) os) :=
  ⟨rfl, rfl, rfl, by unfold Sort.grow; simp [World.drewN], fun i hi => by unfold Sort.grow; exact Array.getElem?_append_left hi⟩

/-! contracts -/
set_option maxHeartbeats 400000 in
theorem l2bef_any (A A' : Option Addr) (n c B n' c' B' : Nat) (p q : List Int) (b : Bool) (hb : befL p q = b) (w : World) (h : Arg w B A n c p) (h' : Arg w B' A' n' c' q) :
    Calls Try.prog 61 #[.slice A n c, .slice A' n' c'] w fun e w' => e = .returned (.bool b) ∧ Drew w w' := by
  have hl := h.len
  have hl' := h'.len
  have hn := h.le
  have hn' := h'.le
  have hr := h.reads
  have hr' := h'.reads
  clear h h'
  by_cases he : n = n'
  · subst he
    rw [befL_eq (by omega)] at hb
    have HB := hide hb
    have HL := hide hl
    have HL' := hide hl'
    clear hb hl hl'
    go_enter Try.func61, Try.ntmps61
    go_wp2
    go_loopw [5] (fun i wr => ∃ k : Nat, k ≤ n ∧ i = .int .i64 k ∧ Drew w wr ∧ Hid (p.take k = q.take k)) (fun i _ => n - (intOf i).toNat)
    case atStart => exact ⟨0, Nat.zero_le _, rfl, Drew.refl _, by exact (rfl : p.take 0 = q.take 0)⟩
    case round =>
      obtain ⟨k, hk, rfl, hd, hs⟩ := hrel
      by_cases hlt : k < n
      · obtain ⟨ad, u, rfl, _, hu, hc⟩ := (hr.ofDrew hd).at_ hlt
        obtain ⟨ad', u', rfl, _, hu', hc'⟩ := (hr'.ofDrew hd).at_ hlt
        obtain ⟨x, hx, rfl⟩ := i64_at hu
        obtain ⟨y, hy, rfl⟩ := i64_at hu'
        have HD := hide hd
        clear hu hu' hr hr' hd
        by_cases hxy : x = y
        · subst hxy
          have hnext := hide (take_same_step (unhide hs) hx hy)
          clear hx hy hs
          go_wp2
          go_quiet (fail)
          go_wp2
          go_roundw
          case rel => exact ⟨k + 1, by omega, by go_num, (unhide HD).more _, hnext⟩
          case measure => simp [intOf]; omega
        · have hat := (unhide HB).symm.trans (lexL_at (unhide hs) hx hy hxy)
          have hne : (x == y) = false := by simpa using hxy
          clear hx hy hs HB hxy
          have hcc := hc
          have hcc' := hc'
          have HAT := hide hat
          clear hat
          go_wp2
          go_quiet (fail)
          go_wp2
          go_quiet (fail)
          go_wp2
          go_ret
          exact ⟨ret_bool (unhide HAT).symm, ((unhide HD).more _).more _⟩
      · obtain rfl : n = k := by omega
        obtain rfl : b = false := (unhide HB).symm.trans (lexL_end (unhide hs) (unhide HL) (unhide HL'))
        clear HB hs
        go_wp2
        go_ret
        exact ⟨rfl, hd⟩
  · rw [befL_ne (by omega), hl, hl'] at hb
    have hne : ((n : Int) == (n' : Int)) = false := by simp; omega
    have HB := hide hb
    clear hb hl hl' hr hr'
    go_enter Try.func61, Try.ntmps61
    go_wp2
    go_ret
    exact ⟨ret_bool (by rw [← unhide HB]), Drew.refl _⟩
theorem nan_any (x : Int) (w : World) : Calls Try.prog 115 #[.int .i64 x] w fun e w' => e = .returned (.bool false) ∧ w = w' := by
  go_enter Try.func115, Try.ntmps115
  go_wp2
  go_ret
  exact ⟨rfl, rfl⟩
theorem cmp_lt (x y : Int) (h : x < y) (w : World) : Calls Try.prog 90 #[.int .i64 x, .int .i64 y] w fun e w' => e = .returned (.int .i64 (-1)) ∧ w = w' := by
  go_enter Try.func90, Try.ntmps90
  go_wp2_with ((with_reducible refine (nan_any _ _).mono ?_); rintro e w' ⟨rfl, rfl⟩)
  go_ret
  exact ⟨rfl, rfl⟩
theorem cmp_gt (x y : Int) (h : y < x) (w : World) : Calls Try.prog 90 #[.int .i64 x, .int .i64 y] w fun e w' => e = .returned (.int .i64 1) ∧ w = w' := by
  have h' : ¬ x < y := by omega
  go_enter Try.func90, Try.ntmps90
  go_wp2_with ((with_reducible refine (nan_any _ _).mono ?_); rintro e w' ⟨rfl, rfl⟩)
  go_ret
  exact ⟨rfl, rfl⟩
theorem cmp_eq (x : Int) (w : World) : Calls Try.prog 90 #[.int .i64 x, .int .i64 x] w fun e w' => e = .returned (.int .i64 0) ∧ w = w' := by
  have h' : ¬ x < x := by omega
  go_enter Try.func90, Try.ntmps90
  go_wp2_with ((with_reducible refine (nan_any _ _).mono ?_); rintro e w' ⟨rfl, rfl⟩)
  go_ret
  exact ⟨rfl, rfl⟩
theorem cmp_any (x y : Int) (w : World) : Calls Try.prog 90 #[.int .i64 x, .int .i64 y] w fun e w' => e = .returned (.int .i64 (cmpI x y)) ∧ w = w' := by
  unfold cmpI
  by_cases h1 : x < y
  · rw [if_pos h1]; exact cmp_lt x y h1 w
  · rw [if_neg h1]
    by_cases h2 : y < x
    · rw [if_pos h2]; exact cmp_gt x y h2 w
    · rw [if_neg h2]
      obtain rfl : x = y := by omega
      exact cmp_eq x w
set_option maxHeartbeats 400000 in
theorem compare_any (A A' : Option Addr) (n c B n' c' B' : Nat) (p q : List Int) (w : World) (h : Arg w B A n c p) (h' : Arg w B' A' n' c' q) :
    Calls Try.prog 52 #[.slice A n c, .slice A' n' c'] w fun e w' => e = .returned (.int .i64 (lexV p q)) ∧ w = w' := by
  obtain ⟨b, hb⟩ : ∃ b, lexV p q = b := ⟨_, rfl⟩
  have hl := h.len
  have hl' := h'.len
  have hn := h.le
  have hn' := h'.le
  have hr := h.reads
  have hr' := h'.reads
  clear h h'
  rw [hb]
  have HB := hide hb
  have HL := hide hl
  have HL' := hide hl'
  clear hb hl hl'
  go_enter Try.func52, Try.ntmps52
  go_wp2
  go_loop [5, 6, 7, 8, 11] (fun _ _ _ _ i => ∃ k : Nat, k ≤ n ∧ k ≤ n' ∧ i = .int .i64 k ∧ Hid (p.take k = q.take k)) (fun _ _ _ _ i => n - (intOf i).toNat)
  case atStart => exact ⟨0, Nat.zero_le _, Nat.zero_le _, rfl, by exact (rfl : p.take 0 = q.take 0)⟩
  case round =>
    obtain ⟨k, hk, hk', rfl, hs⟩ := hrel
    by_cases hlt : k < n
    · obtain ⟨ad, u, rfl, _, hu, hc⟩ := hr.at_ hlt
      obtain ⟨x, hx, rfl⟩ := i64_at hu
      by_cases hlt' : k < n'
      · obtain ⟨ad', u', rfl, _, hu', hc'⟩ := hr'.at_ hlt'
        obtain ⟨y, hy, rfl⟩ := i64_at hu'
        clear hu hu' hr hr'
        by_cases hxy : x = y
        · subst hxy
          have hnext := hide (take_same_step (unhide hs) hx hy)
          clear hx hy hs
          go_wp2_with ((with_reducible refine (cmp_eq _ _).mono ?_); rintro e w' ⟨rfl, rfl⟩)
          go_round
          case rel => exact ⟨k + 1, by omega, by omega, by go_num, hnext⟩
          case measure => simp [intOf]; omega
        · have hat := (unhide HB).symm.trans (lexV_at (unhide hs) hx hy hxy)
          by_cases hl : x < y
          · obtain rfl : b = -1 := by rw [hat]; simp [hl]
            clear hx hy hs HB hxy hat
            go_wp2_with ((with_reducible refine (cmp_lt _ _ hl _).mono ?_); rintro e w' ⟨rfl, rfl⟩)
            go_ret
            exact ⟨rfl, rfl⟩
          · have hg : y < x := by omega
            obtain rfl : b = 1 := by rw [hat]; simp [hl]
            clear hx hy hs HB hxy hat hl
            go_wp2_with ((with_reducible refine (cmp_gt _ _ hg _).mono ?_); rintro e w' ⟨rfl, rfl⟩)
            go_ret
            exact ⟨rfl, rfl⟩
      · obtain rfl : n' = k := by omega
        have hat := (unhide HB).symm.trans (lexV_end (unhide hs) (.inr (unhide HL').symm) (by rw [unhide HL]; omega) (by rw [unhide HL']; omega))
        rw [unhide HL, unhide HL', if_neg (by omega), if_pos hlt] at hat
        subst hat
        clear hu hx hs HB hr hr'
        go_wp2
        go_ret
        exact ⟨rfl, rfl⟩
    · obtain rfl : n = k := by omega
      have hat := (unhide HB).symm.trans (lexV_end (unhide hs) (.inl (unhide HL).symm) (by rw [unhide HL]; omega) (by rw [unhide HL']; omega))
      rw [unhide HL, unhide HL'] at hat
      clear HB hs hr hr'
      by_cases hlt' : n < n'
      · rw [if_pos hlt'] at hat
        subst hat
        go_wp2
        go_ret
        exact ⟨rfl, rfl⟩
      · rw [if_neg hlt', if_neg (by omega)] at hat
        subst hat
        go_wp2
        go_ret
        exact ⟨rfl, rfl⟩
end Go.Proofs.Ytcoegjhhhnfplaa


/-
  WORDS FOR A LIST OF ROWS THAT IS FILLED PLACE BY PLACE. Nothing here speaks of a function of the program.
-/

namespace Go.Proofs.Ytcoegjhhhnfplaa
set_option maxRecDepth 100000
open Go.RowKit

/-! a list of rows that is filled place by place -/
def fillS (zss : List (List Int)) (k : Nat) : List (List Int) := zss.take k ++ List.replicate (zss.length - k) []
theorem fillS_zero (zss : List (List Int)) : fillS zss 0 = List.replicate zss.length [] := by simp [fillS]
theorem fillS_length (zss : List (List Int)) (k : Nat) (h : k ≤ zss.length) : (fillS zss k).length = zss.length := by simp [fillS]; omega
theorem fillS_all (zss : List (List Int)) : fillS zss zss.length = zss := by simp [fillS]
theorem fillS_set {zss : List (List Int)} {k : Nat} {z : List Int} (h : zss[k]? = some z) : (fillS zss k).set k z = fillS zss (k + 1) := by
  have hk : k < zss.length := (List.getElem?_eq_some_iff.1 h).1
  unfold fillS
  rw [List.set_append_right _ _ (by rw [List.length_take]; omega), List.length_take, Nat.min_eq_left (by omega), Nat.sub_self, show zss.length - k = (zss.length - (k + 1)) + 1 by omega, List.replicate_succ, List.set_cons_zero, List.take_add_one, h]
  simp
theorem Inner.zero (w : World) (B n : Nat) : Inner w B (List.replicate n (.slice none 0 0)) (List.replicate n []) := by
  refine ⟨by simp, fun i u zs hu hz => ?_, ?_⟩
  · obtain ⟨_, rfl⟩ := List.mem_replicate.1 (List.mem_of_getElem? hu)
    obtain ⟨_, rfl⟩ := List.mem_replicate.1 (List.mem_of_getElem? hz)
    exact Ints.nil w B
  · refine List.pairwise_of_forall_mem_list fun a ha b _ => ?_
    obtain ⟨_, rfl⟩ := List.mem_replicate.1 ha
    exact .inl rfl
theorem Inner.set {w : World} {B : Nat} {vs : List Value} {zss : List (List Int)} {u : Value} {z : List Int} (h : Inner w B vs zss) (k : Nat) (hu : Ints w B u z) (ha : ∀ x ∈ vs, Away x u) : Inner w B (vs.set k u) (zss.set k z) := by
  have hl := h.len
  refine ⟨by simp [hl], fun i x ys hx hy => ?_, ?_⟩
  · rw [List.getElem?_set] at hx hy
    by_cases e : k = i
    · subst e
      rw [if_pos rfl] at hx hy
      by_cases hk : k < vs.length
      · rw [if_pos hk] at hx
        rw [if_pos (by omega)] at hy
        cases hx; cases hy
        exact hu
      · rw [if_neg hk] at hx
        cases hx
    · rw [if_neg e] at hx hy
      exact h.row i x ys hx hy
  · rw [List.pairwise_iff_getElem]
    intro i j hi hj hij
    rw [List.length_set] at hi hj
    rw [List.getElem_set, List.getElem_set]
    by_cases e1 : k = i
    · rw [if_pos e1, if_neg (by omega)]
      exact (ha _ (List.getElem_mem hj)).symm
    · rw [if_neg e1]
      by_cases e2 : k = j
      · rw [if_pos e2]
        exact ha _ (List.getElem_mem hi)
      · rw [if_neg e2]
        exact List.pairwise_iff_getElem.1 h.away i j hi hj hij
/-- A row of rows that is filled up to k. -/
structure Filled (w wr : World) (g n : Nat) (zss : List (List Int)) (k : Nat) : Prop where
  below : Below w.heap.size w wr
  rows : ∃ vs, wr.ownsRow w.heap.size 24 1 (.slice (some ⟨g, 0, none⟩) n n) n vs ∧ Inner wr w.heap.size vs (fillS zss k)
theorem made_rows (n : Nat) : (madeCells (Value.slice none 0 0).cells (n * 1)).toList = List.replicate n (.slice none 0 0) := by
  rw [Nat.mul_one]
  exact toList_madeCells_one _ _
/-- One more row, made behind all that stands. -/
theorem Filled.put {w wr w' : World} {g n k : Nat} {zss : List (List Int)} {z : List Int} {u : Value} (h : Filled w wr g n zss k) (hz : zss[k]? = some z) (hb : Below wr.heap.size wr w') (hu : Ints w' wr.heap.size u z) :
    Filled w (w'.setCell ⟨g, k, none⟩ u) g n zss (k + 1) := by
  obtain ⟨h1, vs, h2, h3⟩ := h
  have o := own_below h2 hb
  have i := h3.keepI (KeepI.of_below hb)
  have ha := h3.away_new hu.since (Nat.le_refl _)
  have st := o.stored k u
  have hk := KeepI.of_grown o st.2
  have hg := (h2.lt g rfl).1
  refine ⟨(below_after h1 hb).setCell hg _, _, st.1, ?_⟩
  rw [← fillS_set hz]
  exact (i.keepI hk).set k ((hu.low h1.size).keepI hk) ha
theorem Filled.old {w wr w' : World} {g n k : Nat} {zss : List (List Int)} (h : Filled w wr g n zss k) (hb : Below wr.heap.size wr w') (hk : k < n) : (∃ old, w'.cell? ⟨g, k, none⟩ = some old) ∧ w'.frozen? ⟨g, k, none⟩ = false := by
  obtain ⟨_, vs, h2, _⟩ := h
  have o := own_below h2 hb
  have hl : vs.length = n := by simpa using o.1
  exact ⟨⟨_, by rw [o.cellAt k (by omega)]; exact List.getElem?_eq_getElem (by omega)⟩, o.frozenAt k⟩
theorem Filled.start {w w0 w1 : World} {g n : Nat} {zss : List (List Int)} (hl : zss.length = n) (hb : Below w.heap.size w w0) (hown : w1.ownsRow w.heap.size 24 1 (.slice (some ⟨g, 0, none⟩) n n) n (madeCells (Value.slice none 0 0).cells (n * 1)).toList) (hg : w0.grownBy w1 none) : Filled w w1 g n zss 0 := by
  refine ⟨hb.grown hg hb.size (by simp), _, hown, ?_⟩
  rw [made_rows, fillS_zero, hl]
  exact Inner.zero _ _ _

end Go.Proofs.Ytcoegjhhhnfplaa


/-
  WORDS: 'list = append(list, row)', row a list that was just made; a cut of an argument. Nothing here speaks of a function of the program.
-/

namespace Go.Proofs.Ytcoegjhhhnfplaa
set_option maxRecDepth 100000
open Go.RowKit

theorem wpList_push_row {ops : Array Oper} {rest : List Oper} {o : Oper} {a : Act} {W : World} {Q : Exit → Act → World → Prop} (hgd : o.guard = none) (sl x : Operand)
    (ho : o.op = .call { callee := .builtin .append, args := #[sl, x], argTypes := #[25, 25] })
    (base : Nat) (W0 w0 wr : World) (v u : Value) (zss : List (List Int)) (zs : List Int) (hs : a.eval sl = v) (hx : a.eval x = .slice (some ⟨wr.heap.size, 0, none⟩) 1 1) (hW : W = wr.alloc (.cells #[u] 24))
    (hS : IntsS w0 base v zss) (hb0 : Below w0.heap.size w0 wr) (hu : Ints wr w0.heap.size u zs) (hn : zss.length ≤ 1048576) (hb : Below base W0 wr) (hbase : base ≤ w0.heap.size)
    (K : ∀ v' w', IntsS w' base v' (zss ++ [zs]) → Below base W0 w' → wpList Try.prog ops Q rest (a.put o.dst v') w') : wpList Try.prog ops Q (o :: rest) a W := by
  obtain ⟨i0, hi, hz0, hz1, hz2⟩ := info_parts rowsInfo
  obtain ⟨vs, hown, hin⟩ := hS
  have hown1 := own_below hown hb0
  obtain ⟨A1, c1, rfl⟩ := hu.slice
  refine wpList_append_one hgd sl x 25 ho base 24 i0 (.slice none 0 0) 24 Try.underlying25 hi hz0 hz1 hz2 rfl W0 wr v _ _ hs hown1 _ hx hW rfl (by omega) (by unfold maxLen; omega) hb (Nat.le_trans hbase hb0.size) fun v' w' h1 h2 h3 => K v' w' ?_ h2
  have hk := KeepI.of_grown hown1 h3
  refine ⟨vs ++ [.slice A1 zs.length c1], by rw [List.length_append]; exact h1, ?_⟩
  exact ((hin.keepI (KeepI.of_below hb0)).keepI hk).push ((hu.low hbase).keepI hk) (hin.away_new hu.since (Nat.le_refl _))
/-- The same, with what it leaves of other lists of rows. -/
theorem wpList_push_row_at {ops : Array Oper} {rest : List Oper} {o : Oper} {a : Act} {W : World} {Q : Exit → Act → World → Prop} (hgd : o.guard = none) (sl x : Operand)
    (ho : o.op = .call { callee := .builtin .append, args := #[sl, x], argTypes := #[25, 25] })
    (base : Nat) (W0 w0 wr : World) (v u : Value) (zss : List (List Int)) (zs : List Int) (hs : a.eval sl = v) (hx : a.eval x = .slice (some ⟨wr.heap.size, 0, none⟩) 1 1) (hW : W = wr.alloc (.cells #[u] 24))
    (hS : IntsS w0 base v zss) (hb0 : Below w0.heap.size w0 wr) (hu : Ints wr w0.heap.size u zs) (hn : zss.length ≤ 1048576) (hb : Below base W0 wr) (hbase : base ≤ w0.heap.size)
    (K : ∀ v' w', IntsS w' base v' (zss ++ [zs]) → Below base W0 w' → (∀ B' l yss, IntsS w0 B' l yss → Away l v → IntsS w' B' l yss ∧ Away l v') → wpList Try.prog ops Q rest (a.put o.dst v') w') : wpList Try.prog ops Q (o :: rest) a W := by
  obtain ⟨i0, hi, hz0, hz1, hz2⟩ := info_parts rowsInfo
  obtain ⟨vs, hown, hin⟩ := hS
  have hown1 := own_below hown hb0
  have hal := (Below.refl wr.heap.size wr).alloc (Nat.le_refl _) (.cells #[u] 24)
  have hown2 := own_below hown1 hal
  obtain ⟨A1, c1, rfl⟩ := hu.slice
  subst hW
  refine wpList_append_own_at _ hgd sl x 25 ho base 24 i0 (.slice none 0 0) 1 24 Try.underlying25 hi hz0 hz1 hz2 rfl (by decide) v _ _ hs hown2 ⟨wr.heap.size, 0, none⟩ 1 1 [.slice A1 zs.length c1] hx rfl ?_ ?_ (by unfold maxLen; omega) (by omega) (by simp; have := hb0.size; omega) ?_
  · intro j u hj
    match j, hj with
    | 0, hj => simp at hj; subst hj; simp [Addr.add]
  · intro y hy
    obtain rfl := List.mem_singleton.1 hy
    rfl
  · intro v' w' h1 h2 _ h4
    have hk := (KeepI.of_below hal).trans (KeepI.of_grown hown2 h2)
    refine K v' w' ⟨vs ++ [.slice A1 zs.length c1], by rw [List.length_append]; exact h1, ?_⟩ ?_ ?_
    · exact ((hin.keepI (KeepI.of_below hb0)).keepI hk).push ((hu.low hbase).keepI hk) (hin.away_new hu.since (Nat.le_refl _))
    · exact (hb.trans (hal.mono (Nat.le_trans hbase hb0.size))).grown h2 (by simp; have := hb0.size; omega) (fun k hk => (hown.lt k hk).1)
    · rintro B' l yss ⟨ys, ho, hi'⟩ ha
      have ho1 := own_below ho hb0
      refine ⟨⟨ys, (own_below ho1 hal).kept h2 ha, (hi'.keepI (KeepI.of_below hb0)).keepI hk⟩, ?_⟩
      rcases h4 with h4 | h4
      · rcases ha with ha | ha
        · exact .inl ha
        · exact .inr (by rw [h4]; exact ha)
      · cases hl : l.ownBlock with
        | none => exact .inl hl
        | some g =>
          refine .inr ?_
          rw [hl, h4]
          intro e
          have h5 := (ho1.lt g hl).2
          simp at e
          omega
/-- A row of rows whose row k is made anew. -/
theorem IntsS.put {w w' : World} {B g n cap k : Nat} {zss : List (List Int)} {z : List Int} {u : Value} (h : IntsS w B (.slice (some ⟨g, 0, none⟩) n cap) zss) (hb : Below w.heap.size w w') (hu : Ints w' w.heap.size u z) (hB : B ≤ w.heap.size) :
    IntsS (w'.setCell ⟨g, k, none⟩ u) B (.slice (some ⟨g, 0, none⟩) n cap) (zss.set k z) := by
  have hl := h.len
  subst hl
  obtain ⟨vs, h2, h3⟩ := h
  have o := own_below h2 hb
  have i := h3.keepI (KeepI.of_below hb)
  have ha := h3.away_new hu.since (Nat.le_refl _)
  have st := o.stored k u
  have hk := KeepI.of_grown o st.2
  refine ⟨vs.set k u, by rw [List.length_set]; exact st.1, ?_⟩
  exact (i.keepI hk).set k ((hu.low hB).keepI hk) ha
theorem IntsS.old {w : World} {B g n cap k : Nat} {zss : List (List Int)} (h : IntsS w B (.slice (some ⟨g, 0, none⟩) n cap) zss) (hk : k < n) : (∃ old, w.cell? ⟨g, k, none⟩ = some old) ∧ w.frozen? ⟨g, k, none⟩ = false ∧ B ≤ g := by
  have hl := h.len
  subst hl
  obtain ⟨vs, h2, _⟩ := h
  have hv : vs.length = zss.length := by simpa using h2.1
  exact ⟨⟨_, by rw [h2.cellAt k (by omega)]; exact List.getElem?_eq_getElem (by omega)⟩, h2.frozenAt k, (h2.lt g rfl).1⟩
theorem IntsS.shape {w : World} {B n c : Nat} {A : Option Addr} {zss : List (List Int)} (h : IntsS w B (.slice A n c) zss) (h0 : 0 < n) : ∃ g, A = some ⟨g, 0, none⟩ := by
  obtain ⟨vs, h1, _⟩ := h
  rcases h1.2 with ⟨hv, hz⟩ | ⟨g, cap, cur, hv, _⟩
  · injection hv with _ h3; omega
  · injection hv with h3
    exact ⟨g, h3⟩
theorem cut_at {zs : List Int} {f m j : Nat} (hj : j < m) : ((zs.drop f).take m)[j]? = zs[f + j]? := by rw [List.getElem?_take_of_lt hj, List.getElem?_drop]
/-- 'p[f : f + m]' as an argument. -/
theorem Arg.cut {w : World} {B n c f m : Nat} {ad : Addr} {zs : List Int} (h : Arg w B (some ad) n c zs) (hm : f + m ≤ n) : Arg w B (some (ad.add f)) m (c - f) ((zs.drop f).take m) := by
  have hl := h.len
  have hcap := h.cap
  refine ⟨⟨by rw [i64_length, List.length_take, List.length_drop]; omega, fun h0 => ?_⟩, h.under, by have := h.le; omega, by omega, fun z hz => h.small z (List.mem_of_mem_drop (List.mem_of_mem_take hz)), fun e => by cases e⟩
  obtain ⟨ad', he, hb, hc⟩ := h.reads.2 (by omega)
  injection he with he
  subst he
  refine ⟨_, rfl, by rw [block_of_add]; exact hb, fun j u hu => ?_⟩
  obtain ⟨z, hz, rfl⟩ := i64_at hu
  have hj : j < m := by have := (List.getElem?_eq_some_iff.1 hz).1; rw [List.length_take] at this; omega
  rw [cut_at hj] at hz
  rw [add_of_add]
  exact hc _ _ (i64_get hz)
end Go.Proofs.Ytcoegjhhhnfplaa


/-
  spec.l3Put, by its contract.
-/

namespace Go.Proofs.Ytcoegjhhhnfplaa
set_option maxRecDepth 100000
open Go.RowKit

theorem Inner.put {w : World} {B s : Nat} {vs : List Value} {zss : List (List Int)} {u : Value} {z : List Int} (h : Inner w B vs zss) (hs : s ≤ zss.length) (hu : Ints w B u z) (ha : ∀ x ∈ vs, Away x u) : Inner w B (vs.take s ++ [u] ++ vs.drop s) (zss.take s ++ [z] ++ zss.drop s) := by
  have hl := h.len
  refine ⟨by simp; omega, fun i x ys hx hy => ?_, ?_⟩
  · by_cases h1 : i < s
    · rw [List.append_assoc, List.getElem?_append_left (by rw [List.length_take]; omega), List.getElem?_take_of_lt h1] at hx hy
      exact h.row i x ys hx hy
    · by_cases h2 : i = s
      · subst h2
        rw [List.append_assoc, List.getElem?_append_right (by rw [List.length_take]; omega), List.length_take, Nat.min_eq_left (by omega)] at hx hy
        simp at hx hy
        subst hx; subst hy
        exact hu
      · rw [List.getElem?_append_right (by simp; omega)] at hx hy
        simp only [List.length_append, List.length_take, List.length_singleton] at hx hy
        rw [List.getElem?_drop] at hx hy
        rw [Nat.min_eq_left (by omega)] at hx hy
        exact h.row _ x ys hx hy
  · have ht := h.away
    rw [← List.take_append_drop s vs, List.pairwise_append] at ht
    obtain ⟨h1, h2, h3⟩ := ht
    rw [List.append_assoc, List.pairwise_append]
    refine ⟨h1, ?_, fun a ha' b hb => ?_⟩
    · rw [List.singleton_append, List.pairwise_cons]
      exact ⟨fun b hb => (ha b (List.mem_of_mem_drop hb)).symm, h2⟩
    · rw [List.singleton_append, List.mem_cons] at hb
      rcases hb with rfl | hb
      · exact ha a (List.mem_of_mem_take ha')
      · exact h3 a ha' b hb
theorem own_news {w : World} {B n : Nat} {v : Value} {vs : List Value} {zss : List (List Int)} (_h : w.ownsRow B 24 1 v n vs) (hin : Inner w B vs zss) : ∀ u ∈ vs, u.oneCell' = true := fun u hu => by
  obtain ⟨zs, hz⟩ := hin.mem hu
  obtain ⟨A, c, rfl⟩ := hz.slice
  rfl

/-- A list of rows that lies at a block's head. -/
def PutS (w : World) (B : Nat) (v : Value) (zss : List (List Int)) : Prop := IntsS w B v zss ∧ ∃ g cap, v = .slice (some ⟨g, 0, none⟩) zss.length cap
def PutEnds (w : World) (B : Nat) (zss : List (List Int)) (e : Ending) (w' : World) : Prop := ∃ v', e = .returned v' ∧ PutS w' B v' zss ∧ Below B w w' ∧ KeepI w w'

theorem Arg.drew {w : World} {B n c : Nat} {A : Option Addr} {zs : List Int} (h : Arg w B A n c zs) : Arg w.drew B A n c zs := ⟨h.reads.drew, h.under, h.le, h.cap, h.small, h.nil⟩
theorem own_shape {w : World} {B n : Nat} {e : TypeId} {v : Value} {xs : List Value} (h : w.ownsRow B e 1 v n xs) (hv : v ≠ .slice none 0 0) : ∃ g cap, v = .slice (some ⟨g, 0, none⟩) n cap ∧ B ≤ g ∧ n ≤ cap := by
  rcases h.2 with ⟨h0, _⟩ | ⟨g, cap, cur, h1, h2, _, h3, _⟩
  · exact absurd h0 hv
  · exact ⟨g, cap, h1, h2, h3⟩

set_option maxHeartbeats 1600000 in
theorem l3putS_any (B : Nat) (zss : List (List Int)) (g n cap : Nat) (A : Option Addr) (m c B' : Nat) (p : List Int) (w : World) (hS : IntsS w B (.slice (some ⟨g, 0, none⟩) n cap) zss) (hp : Arg w B' A m c p) (hB : B ≤ w.heap.size)
    (hall : ∀ z ∈ zss, z.length ≤ 1048576 ∧ Small z) (hn : n ≤ 1048576) :
    Calls Try.prog 55 #[.slice (some ⟨g, 0, none⟩) n cap, .slice A m c] w (PutEnds w B (putL zss p)) := by
  have hl := hS.len
  have HL := hide hl
  have HALL := hide hall
  clear hl hall
  go_enter Try.func55, Try.ntmps55
  go_wp2
  go_loopw [5] (fun i wr => ∃ k : Nat, k ≤ n ∧ i = .int .i64 k ∧ Drew w wr ∧ Hid (scanL zss p n = scanL zss p k)) (fun i _ => (intOf i).toNat)
  case atStart => exact ⟨n, Nat.le_refl _, rfl, Drew.refl _, by exact rfl⟩
  case round =>
    obtain ⟨k, hk, rfl, hd, hsc⟩ := hrel
    cases k with
    | zero =>
      have hput : Hid (putL zss p = zss.take 0 ++ [p] ++ zss.drop 0) := by
        have h := unhide hsc
        rw [← unhide HL] at h
        show putL zss p = _
        unfold putL
        rw [h, scanL, if_neg (by omega)]
      have hbW := hd.below w.heap.size
      have hkw := hd.keepI
      have hp := hp.below hbW
      have hS := hS.below hbW
      have hks : 0 ≤ n := Nat.zero_le n
      clear hsc
      obtain ⟨vs, hown, hin⟩ := hS
      rw [unhide HL] at hown
      have hgl := (hown.lt g rfl).2
      have hst := ownS0 wr wr.heap.size (Nat.le_refl _)
      have hbel := (Below.refl wr.heap.size wr).alloc (Nat.le_refl _) (.cells #[] 24)
      have hrest := ((own_rest hown hks).below hbel)
      have hones : ∀ u ∈ vs.drop (0), u.oneCell' = true := fun u hu => own_news hown hin u (List.mem_of_mem_drop hu)
      have HONES := hide hones
      go_wp2_with (at_builtin; refine wpList_append_rows rfl (.tmp 34) (.tmp 37) rfl wr.heap.size wr.heap.size 0 (n) (cap) wr _ (some ⟨g, 0, none⟩) [] (vs.drop (0)) rfl rfl hst hrest (fun h => by cases h) hones (by omega) (by omega) hbel hbel.size ?_; intro v6 w6 hown6 hb6 hg6 hnil6)
      rw [Nat.zero_add, List.nil_append] at hown6
      obtain ⟨g6, cap6, rfl, hg6l, hcap6⟩ := own_shape hown6 (fun h => by cases hnil6 h)
      have hA6 := hp.below hb6
      have hst6 := own0 w6 w6.heap.size (Nat.le_refl _)
      have hbel6 := (Below.refl w6.heap.size w6).alloc (Nat.le_refl _) (.cells #[] 3)
      have hA7 := (hA6.below hbel6).drew
      have hs6 := hbel6.size
      have hown7 := own_below hown hb6
      have hin7 := hin.keepI (KeepI.of_below hb6)
      have hkw6 := hkw.trans (KeepI.of_below hb6)
      have hbw6 := (hbW.mono hB).trans (hb6.mono (Nat.le_trans hB hbW.size))
      clear hst hbel hrest hones hp hkw hin hown hg6 hnil6
      go_region_held3 (fun _ => True) (trivial)
        (first
         | ((refine step_append_arg (by rfl) (.tmp 42) (.tmp 43) (by rfl) w6.heap.size B' 0 m c w6 _ A [] p (by rfl) (by rfl) hst6 hA7 (by omega) hbel6.drew hs6 ?_); intro v7 w7 hw7 hb7 hg7; clear hg7;
            have hI7 : Ints w7 w6.heap.size v7 p := Ints.of_own hw7;
            obtain ⟨A7, c7, rfl⟩ := hI7.slice;
            have hone7 : ∀ u ∈ [Value.slice A7 p.length c7], u.oneCell' = true := (fun u hu => by (rw [List.mem_singleton] at hu; subst hu; rfl));
            have haw7 := hin7.away_new hI7.since (Nat.le_refl _);
            have hin8 := hin7.keepI (KeepI.of_below hb7);
            have hown8 := own_cut (own_below hown7 hb7) hks;
            have hrest8 := own_below hown6 hb7;
            have hkw8 := hkw6.trans (KeepI.of_below hb7);
            have hbw8 := hbw6.trans (hb7.mono (Nat.le_trans hB (Nat.le_trans hbW.size hb6.size)));
            have hsz8 : B ≤ w7.heap.size := Nat.le_trans hB (Nat.le_trans hbW.size (Nat.le_trans hb6.size hb7.size));
            have hx8 := reads_new w7 (.slice A7 p.length c7) 24;
            have hal := (Below.refl w7.heap.size w7).alloc (Nat.le_refl _) (.cells #[.slice A7 p.length c7] 24);
            clear hst6 hbel6 hA7 hs6 hown7 hown6 hin7 hkw6 hbw6 hw7 hb7)
         | ((refine step_append_rows (by rfl) (.tmp 41) (.tmp 45) (by rfl) B (w7.heap.size + 1) (0) 1 1 w _ (some ⟨w7.heap.size, 0, none⟩) (vs.take (0)) [.slice A7 p.length c7] (by rfl) (by rfl) (own_below hown8 hal) hx8 (fun h => by cases h) hone7 (by omega) (by omega) (hbw8.trans (hal.mono hsz8)) (Nat.le_trans hsz8 hal.size) ?_); intro v9 w9 hown9 hb9 hg9 hnil9;
            have hk9 := (hkw8.trans (KeepI.of_below hal)).trans (KeepI.of_grown (own_below hown8 hal) hg9);
            have hin9 := (hin8.keepI (KeepI.of_below hal)).keepI (KeepI.of_grown (own_below hown8 hal) hg9);
            have hI9 := (hI7.keepI (KeepI.of_below hal)).keepI (KeepI.of_grown (own_below hown8 hal) hg9);
            have hrest9 := (own_below hrest8 hal).kept hg9 (.inr (fun e => by (have e2 : g6 = g := by simpa [Value.ownBlock] using e); omega));
            have hsz9 := Nat.le_trans hsz8 (Nat.le_trans hal.size hg9.size);
            clear hown8 hrest8 hkw8 hbw8 hsz8 hx8 hal hin8 hI7 hone7 hg9)
         | ((refine step_append_rows (by rfl) (.tmp 46) (.tmp 47) (by rfl) B w9.heap.size (0 + 1) (n) cap6 w _ (some ⟨g6, 0, none⟩) (vs.take (0) ++ [.slice A7 p.length c7]) (vs.drop (0)) (by rfl) (by rfl) hown9 (Reads.of_own_at hrest9) (fun h => by cases h) (unhide HONES) (by omega) (by omega) hb9 hsz9 ?_); intro v10 w10 hown10 hb10 hg10 hnil10;
            have hk10 := hk9.trans (KeepI.of_grown hown9 hg10);
            have hin10 := hin9.keepI (KeepI.of_grown hown9 hg10);
            have hI10 := hI9.keepI (KeepI.of_grown hown9 hg10);
            clear hk9 hin9 hI9 hown9 hrest9))
      have hfin : PutS w10 B v10 (putL zss p) := by
        have hz := unhide HL
        have hin := hin10.put (s := 0) (by rw [hz]; exact hks) (hI10.low (Nat.le_trans hB (Nat.le_trans hbW.size hb6.size))) haw7
        have hlen : (zss.take (0) ++ [p] ++ zss.drop (0)).length = 0 + 1 + (n) := by
          simp only [List.length_append, List.length_take, List.length_drop, List.length_singleton]
          omega
        rw [unhide hput]
        obtain ⟨g10, cap10, h10, _, _⟩ := own_shape hown10 (fun h => by cases hnil9 (hnil10 h))
        exact ⟨⟨_, by rw [hlen]; exact hown10, hin⟩, g10, cap10, by rw [hlen]; exact h10⟩
      clear hown10 hin10 hI10 hnil9 hnil10 haw7
      go_wp2
      go_ret
      exact ⟨v10, rfl, hfin, hb10, hk10⟩
    | succ k =>
      obtain ⟨ad, A1, c1, z, he, hz, hcell, hI⟩ := (hS.below (hd.below _)).at_ (show k < n by omega)
      injection he with he
      subst he
      have hcell : wr.cell? ⟨g, k, none⟩ = some (.slice A1 z.length c1) := by
        rwa [show (⟨g, 0, none⟩ : Addr).add k = ⟨g, k, none⟩ by unfold Addr.add; split <;> simp_all] at hcell
      have hzP := unhide HALL z (List.mem_of_getElem? hz)
      have hAz := hI.arg hzP.1 hI.cap hzP.2
      obtain ⟨b, hb⟩ : ∃ b, befL p z = b := ⟨_, rfl⟩
      have hpW := hp.below (hd.below _)
      have H1 := hide (l2bef_any A A1 m c B' z.length c1 wr.heap.size p z b hb wr hpW hAz)
      have hki : ((k + 1 : Nat) : Int) - 1 = (k : Int) := by omega
      cases b with
      | true =>
        have hnext := hide ((unhide hsc).trans (scanL_yes hz hb))
        clear hz hb hI hAz hsc hpW hS hp
        go_wp2_with fail
        refine (unhide H1).mono ?_
        rintro e w1 ⟨rfl, hd1⟩
        have hd2 := hd.trans hd1
        clear H1 hd hd1
        go_wp2
        go_roundw
        case rel => exact ⟨k, by omega, by go_num, hd2, hnext⟩
        case measure => simp [intOf]
      | false =>
        have hsc1 := (unhide hsc).trans (scanL_no hz hb)
        rw [← unhide HL] at hsc1
        obtain ⟨b2, hb2⟩ : ∃ b, decide (z = p) = b := ⟨_, rfl⟩
        have H2 := hide (fun w' (hb' : Below wr.heap.size wr w') => l2same_any A1 A z.length c1 wr.heap.size m c B' z p b2 hb2 w' ((hI.below hb').arg hzP.1 (hI.below hb').cap hzP.2 |>.more (Nat.le_refl _) (Nat.le_refl _) |> fun h => ⟨hI.reads.below hb', hb'.size, h.le, h.cap, h.small, h.nil⟩) (hpW.below hb'))
        have hput : Hid (putL zss p = if b2 = true then zss else zss.take (k + 1) ++ [p] ++ zss.drop (k + 1)) := by
          show putL zss p = _
          unfold putL
          rw [hsc1, show k + 1 - 1 = k by omega, getD_of hz]
          cases b2 with
          | true => rw [if_pos ⟨by omega, of_decide_eq_true hb2⟩, if_pos rfl]
          | false => rw [if_neg (fun h => of_decide_eq_false hb2 h.2), if_neg (by simp)]
        clear hz hb hI hAz hsc hsc1 hb2 hpW
        go_wp2_with fail
        refine (unhide H1).mono ?_
        rintro e w1 ⟨rfl, hd1⟩
        have H3 := hide (unhide H2 w1 (hd1.below _))
        have hcell1 := (hd1.cell ⟨g, k, none⟩).trans hcell
        replace hd := hd.trans hd1
        clear H1 H2 hd1 hcell
        go_wp2_with fail
        refine (unhide H3).mono ?_
        rintro e w2 ⟨rfl, hd2⟩
        replace hd := hd.trans hd2
        have hbW := hd.below w.heap.size
        have hkw := hd.keepI
        replace hp := hp.below hbW
        replace hS := hS.below hbW
        clear H3 hd2 hcell1
        cases b2 with
        | true =>
          replace hput := hide ((unhide hput).trans (if_pos rfl))
          go_wp2
          go_ret
          rw [← unhide hput] at hS
          exact ⟨.slice (some ⟨g, 0, none⟩) n cap, rfl, ⟨hS, g, cap, by rw [hS.len]⟩, hbW.mono hB, hkw⟩
        | false =>
          replace hput := hide ((unhide hput).trans (if_neg (by simp)))
          have hcn : n ≤ cap := by
            obtain ⟨vs, hown, _⟩ := hS
            rw [unhide HL] at hown
            rcases hown.2 with ⟨hv, _⟩ | ⟨g', cap', cur, hv, _, _, h3, _⟩
            · cases hv
            · injection hv with _ _ h4; omega
          by_cases hcap : cap = k + 1
          · subst hcap
            obtain rfl : n = k + 1 := by omega
            have hbd0 : (0 : Int) ≤ (k : Int) + 1 := by omega
            have hbd1 : (k : Int) + 1 ≤ ((k + 1 : Nat) : Int) := by omega
            have hks : k + 1 ≤ k + 1 := Nat.le_refl _
            obtain ⟨vs, hown, hin⟩ := hS
            rw [unhide HL] at hown
            have hgl := (hown.lt g rfl).2
            have hst := ownS0 w2 w2.heap.size (Nat.le_refl _)
            have hbel := (Below.refl w2.heap.size w2).alloc (Nat.le_refl _) (.cells #[] 24)
            have hrest : Reads (w2.alloc (.cells #[] 24)) w2.heap.size (some ⟨g, 0, none⟩) 0 (vs.drop (k + 1)) := ⟨by rw [List.length_drop]; have := hown.1; omega, fun h => by omega⟩
            have hones : ∀ u ∈ vs.drop (k + 1), u.oneCell' = true := fun u hu => own_news hown hin u (List.mem_of_mem_drop hu)
            have HONES := hide hones
            go_wp2_with (at_builtin; refine wpList_append_rows rfl (.tmp 34) (.tmp 37) rfl w2.heap.size w2.heap.size 0 (0) (0) w2 _ (some ⟨g, 0, none⟩) [] (vs.drop (k + 1)) rfl rfl hst hrest (fun h => by cases h) hones (by omega) (by omega) hbel hbel.size ?_; intro v6 w6 hown6 hb6 hg6 hnil6)
            rw [Nat.zero_add, List.nil_append] at hown6
            obtain ⟨g6, cap6, rfl, hg6l, hcap6⟩ := own_shape hown6 (fun h => by cases hnil6 h)
            have hA6 := hp.below hb6
            have hst6 := own0 w6 w6.heap.size (Nat.le_refl _)
            have hbel6 := (Below.refl w6.heap.size w6).alloc (Nat.le_refl _) (.cells #[] 3)
            have hA7 := (hA6.below hbel6).drew
            have hs6 := hbel6.size
            have hown7 := own_below hown hb6
            have hin7 := hin.keepI (KeepI.of_below hb6)
            have hkw6 := hkw.trans (KeepI.of_below hb6)
            have hbw6 := (hbW.mono hB).trans (hb6.mono (Nat.le_trans hB hbW.size))
            clear hst hbel hrest hones hp hkw hin hown hg6 hnil6
            go_region_held3 (fun _ => True) (trivial)
              (first
               | ((refine step_append_arg (by rfl) (.tmp 42) (.tmp 43) (by rfl) w6.heap.size B' 0 m c w6 _ A [] p (by rfl) (by rfl) hst6 hA7 (by omega) hbel6.drew hs6 ?_); intro v7 w7 hw7 hb7 hg7; clear hg7;
                  have hI7 : Ints w7 w6.heap.size v7 p := Ints.of_own hw7;
                  obtain ⟨A7, c7, rfl⟩ := hI7.slice;
                  have hone7 : ∀ u ∈ [Value.slice A7 p.length c7], u.oneCell' = true := (fun u hu => by (rw [List.mem_singleton] at hu; subst hu; rfl));
                  have haw7 := hin7.away_new hI7.since (Nat.le_refl _);
                  have hin8 := hin7.keepI (KeepI.of_below hb7);
                  have hown8 := own_cut (own_below hown7 hb7) hks;
                  have hrest8 := own_below hown6 hb7;
                  have hkw8 := hkw6.trans (KeepI.of_below hb7);
                  have hbw8 := hbw6.trans (hb7.mono (Nat.le_trans hB (Nat.le_trans hbW.size hb6.size)));
                  have hsz8 : B ≤ w7.heap.size := Nat.le_trans hB (Nat.le_trans hbW.size (Nat.le_trans hb6.size hb7.size));
                  have hx8 := reads_new w7 (.slice A7 p.length c7) 24;
                  have hal := (Below.refl w7.heap.size w7).alloc (Nat.le_refl _) (.cells #[.slice A7 p.length c7] 24);
                  clear hst6 hbel6 hA7 hs6 hown7 hown6 hin7 hkw6 hbw6 hw7 hb7)
               | ((refine step_append_rows (by rfl) (.tmp 41) (.tmp 45) (by rfl) B (w7.heap.size + 1) (k + 1) 1 1 w _ (some ⟨w7.heap.size, 0, none⟩) (vs.take (k + 1)) [.slice A7 p.length c7] (by rfl) (by rfl) (own_below hown8 hal) hx8 (fun h => by cases h) hone7 (by omega) (by omega) (hbw8.trans (hal.mono hsz8)) (Nat.le_trans hsz8 hal.size) ?_); intro v9 w9 hown9 hb9 hg9 hnil9;
                  have hk9 := (hkw8.trans (KeepI.of_below hal)).trans (KeepI.of_grown (own_below hown8 hal) hg9);
                  have hin9 := (hin8.keepI (KeepI.of_below hal)).keepI (KeepI.of_grown (own_below hown8 hal) hg9);
                  have hI9 := (hI7.keepI (KeepI.of_below hal)).keepI (KeepI.of_grown (own_below hown8 hal) hg9);
                  have hrest9 := (own_below hrest8 hal).kept hg9 (.inr (fun e => by (have e2 : g6 = g := by simpa [Value.ownBlock] using e); omega));
                  have hsz9 := Nat.le_trans hsz8 (Nat.le_trans hal.size hg9.size);
                  clear hown8 hrest8 hkw8 hbw8 hsz8 hx8 hal hin8 hI7 hone7 hg9)
               | ((refine step_append_rows (by rfl) (.tmp 46) (.tmp 47) (by rfl) B w9.heap.size (k + 1 + 1) (0) cap6 w _ (some ⟨g6, 0, none⟩) (vs.take (k + 1) ++ [.slice A7 p.length c7]) (vs.drop (k + 1)) (by rfl) (by rfl) hown9 (Reads.of_own_at hrest9) (fun h => by cases h) (unhide HONES) (by omega) (by omega) hb9 hsz9 ?_); intro v10 w10 hown10 hb10 hg10 hnil10;
                  have hk10 := hk9.trans (KeepI.of_grown hown9 hg10);
                  have hin10 := hin9.keepI (KeepI.of_grown hown9 hg10);
                  have hI10 := hI9.keepI (KeepI.of_grown hown9 hg10);
                  clear hk9 hin9 hI9 hown9 hrest9))
            have hfin : PutS w10 B v10 (putL zss p) := by
              have hz := unhide HL
              have hin := hin10.put (s := k + 1) (by rw [hz]; exact hks) (hI10.low (Nat.le_trans hB (Nat.le_trans hbW.size hb6.size))) haw7
              have hlen : (zss.take (k + 1) ++ [p] ++ zss.drop (k + 1)).length = k + 1 + 1 + (0) := by
                simp only [List.length_append, List.length_take, List.length_drop, List.length_singleton]
                omega
              rw [unhide hput]
              obtain ⟨g10, cap10, h10, _, _⟩ := own_shape hown10 (fun h => by cases hnil9 (hnil10 h))
              exact ⟨⟨_, by rw [hlen]; exact hown10, hin⟩, g10, cap10, by rw [hlen]; exact h10⟩
            clear hown10 hin10 hI10 hnil9 hnil10 haw7
            go_wp2
            go_ret
            exact ⟨v10, rfl, hfin, hb10, hk10⟩
          · have hbd0 : (0 : Int) ≤ (k : Int) + 1 := by omega
            have hbd1 : (k : Int) + 1 ≤ (cap : Int) := by omega
            have hks : k + 1 ≤ n := hk
            clear hcn
            obtain ⟨vs, hown, hin⟩ := hS
            rw [unhide HL] at hown
            have hgl := (hown.lt g rfl).2
            have hst := ownS0 w2 w2.heap.size (Nat.le_refl _)
            have hbel := (Below.refl w2.heap.size w2).alloc (Nat.le_refl _) (.cells #[] 24)
            have hrest := ((own_rest hown hks).below hbel)
            have hones : ∀ u ∈ vs.drop (k + 1), u.oneCell' = true := fun u hu => own_news hown hin u (List.mem_of_mem_drop hu)
            have HONES := hide hones
            go_wp2_with (at_builtin; refine wpList_append_rows rfl (.tmp 34) (.tmp 37) rfl w2.heap.size w2.heap.size 0 (n - (k + 1)) (cap - (k + 1)) w2 _ (some ⟨g, k + 1, none⟩) [] (vs.drop (k + 1)) rfl rfl hst hrest (fun h => by cases h) hones (by omega) (by omega) hbel hbel.size ?_; intro v6 w6 hown6 hb6 hg6 hnil6)
            rw [Nat.zero_add, List.nil_append] at hown6
            obtain ⟨g6, cap6, rfl, hg6l, hcap6⟩ := own_shape hown6 (fun h => by cases hnil6 h)
            have hA6 := hp.below hb6
            have hst6 := own0 w6 w6.heap.size (Nat.le_refl _)
            have hbel6 := (Below.refl w6.heap.size w6).alloc (Nat.le_refl _) (.cells #[] 3)
            have hA7 := (hA6.below hbel6).drew
            have hs6 := hbel6.size
            have hown7 := own_below hown hb6
            have hin7 := hin.keepI (KeepI.of_below hb6)
            have hkw6 := hkw.trans (KeepI.of_below hb6)
            have hbw6 := (hbW.mono hB).trans (hb6.mono (Nat.le_trans hB hbW.size))
            clear hst hbel hrest hones hp hkw hin hown hg6 hnil6
            go_region_held3 (fun _ => True) (trivial)
              (first
               | ((refine step_append_arg (by rfl) (.tmp 42) (.tmp 43) (by rfl) w6.heap.size B' 0 m c w6 _ A [] p (by rfl) (by rfl) hst6 hA7 (by omega) hbel6.drew hs6 ?_); intro v7 w7 hw7 hb7 hg7; clear hg7;
                  have hI7 : Ints w7 w6.heap.size v7 p := Ints.of_own hw7;
                  obtain ⟨A7, c7, rfl⟩ := hI7.slice;
                  have hone7 : ∀ u ∈ [Value.slice A7 p.length c7], u.oneCell' = true := (fun u hu => by (rw [List.mem_singleton] at hu; subst hu; rfl));
                  have haw7 := hin7.away_new hI7.since (Nat.le_refl _);
                  have hin8 := hin7.keepI (KeepI.of_below hb7);
                  have hown8 := own_cut (own_below hown7 hb7) hks;
                  have hrest8 := own_below hown6 hb7;
                  have hkw8 := hkw6.trans (KeepI.of_below hb7);
                  have hbw8 := hbw6.trans (hb7.mono (Nat.le_trans hB (Nat.le_trans hbW.size hb6.size)));
                  have hsz8 : B ≤ w7.heap.size := Nat.le_trans hB (Nat.le_trans hbW.size (Nat.le_trans hb6.size hb7.size));
                  have hx8 := reads_new w7 (.slice A7 p.length c7) 24;
                  have hal := (Below.refl w7.heap.size w7).alloc (Nat.le_refl _) (.cells #[.slice A7 p.length c7] 24);
                  clear hst6 hbel6 hA7 hs6 hown7 hown6 hin7 hkw6 hbw6 hw7 hb7)
               | ((refine step_append_rows (by rfl) (.tmp 41) (.tmp 45) (by rfl) B (w7.heap.size + 1) (k + 1) 1 1 w _ (some ⟨w7.heap.size, 0, none⟩) (vs.take (k + 1)) [.slice A7 p.length c7] (by rfl) (by rfl) (own_below hown8 hal) hx8 (fun h => by cases h) hone7 (by omega) (by omega) (hbw8.trans (hal.mono hsz8)) (Nat.le_trans hsz8 hal.size) ?_); intro v9 w9 hown9 hb9 hg9 hnil9;
                  have hk9 := (hkw8.trans (KeepI.of_below hal)).trans (KeepI.of_grown (own_below hown8 hal) hg9);
                  have hin9 := (hin8.keepI (KeepI.of_below hal)).keepI (KeepI.of_grown (own_below hown8 hal) hg9);
                  have hI9 := (hI7.keepI (KeepI.of_below hal)).keepI (KeepI.of_grown (own_below hown8 hal) hg9);
                  have hrest9 := (own_below hrest8 hal).kept hg9 (.inr (fun e => by (have e2 : g6 = g := by simpa [Value.ownBlock] using e); omega));
                  have hsz9 := Nat.le_trans hsz8 (Nat.le_trans hal.size hg9.size);
                  clear hown8 hrest8 hkw8 hbw8 hsz8 hx8 hal hin8 hI7 hone7 hg9)
               | ((refine step_append_rows (by rfl) (.tmp 46) (.tmp 47) (by rfl) B w9.heap.size (k + 1 + 1) (n - (k + 1)) cap6 w _ (some ⟨g6, 0, none⟩) (vs.take (k + 1) ++ [.slice A7 p.length c7]) (vs.drop (k + 1)) (by rfl) (by rfl) hown9 (Reads.of_own_at hrest9) (fun h => by cases h) (unhide HONES) (by omega) (by omega) hb9 hsz9 ?_); intro v10 w10 hown10 hb10 hg10 hnil10;
                  have hk10 := hk9.trans (KeepI.of_grown hown9 hg10);
                  have hin10 := hin9.keepI (KeepI.of_grown hown9 hg10);
                  have hI10 := hI9.keepI (KeepI.of_grown hown9 hg10);
                  clear hk9 hin9 hI9 hown9 hrest9))
            have hfin : PutS w10 B v10 (putL zss p) := by
              have hz := unhide HL
              have hin := hin10.put (s := k + 1) (by rw [hz]; exact hks) (hI10.low (Nat.le_trans hB (Nat.le_trans hbW.size hb6.size))) haw7
              have hlen : (zss.take (k + 1) ++ [p] ++ zss.drop (k + 1)).length = k + 1 + 1 + (n - (k + 1)) := by
                simp only [List.length_append, List.length_take, List.length_drop, List.length_singleton]
                omega
              rw [unhide hput]
              obtain ⟨g10, cap10, h10, _, _⟩ := own_shape hown10 (fun h => by cases hnil9 (hnil10 h))
              exact ⟨⟨_, by rw [hlen]; exact hown10, hin⟩, g10, cap10, by rw [hlen]; exact h10⟩
            clear hown10 hin10 hI10 hnil9 hnil10 haw7
            go_wp2
            go_ret
            exact ⟨v10, rfl, hfin, hb10, hk10⟩
theorem l3put_any (B : Nat) (zss : List (List Int)) (g n cap : Nat) (A : Option Addr) (m c B' : Nat) (p : List Int) (w : World) (hS : IntsS w B (.slice (some ⟨g, 0, none⟩) n cap) zss) (hp : Arg w B' A m c p) (hB : B ≤ w.heap.size)
    (hall : ∀ z ∈ zss, isP z = true) (hn : n ≤ 1048576) :
    Calls Try.prog 55 #[.slice (some ⟨g, 0, none⟩) n cap, .slice A m c] w (PutEnds w B (putL zss p)) :=
  l3putS_any B zss g n cap A m c B' p w hS hp hB (fun z hz => ⟨by have := isP_le (hall z hz); omega, isP_small (hall z hz)⟩) hn
end Go.Proofs.Ytcoegjhhhnfplaa


/-
  spec.l3Reverse, spec.l3Complement, spec.ReversePerm, spec.ComplementPerm; slices.Clone, impl.ComplementPerm, by their contracts.
-/

namespace Go.Proofs.Ytcoegjhhhnfplaa
set_option maxRecDepth 100000
open Go.RowKit

theorem rev_step {zs : List Int} {k : Nat} {z : Int} (h : zs[k]? = some z) : (zs.drop k).reverse = (zs.drop (k + 1)).reverse ++ [z] := by
  have hk : k < zs.length := (List.getElem?_eq_some_iff.1 h).1
  rw [List.drop_eq_getElem_cons hk, List.reverse_cons]
  rw [List.getElem?_eq_getElem hk] at h
  rw [Option.some.inj h]
theorem i64_snoc (xs : List Int) (z : Int) : i64s xs ++ [Value.int .i64 z] = i64s (xs ++ [z]) := by unfold i64s; simp
set_option maxHeartbeats 400000 in
theorem clone_any (A : Option Addr) (n c B : Nat) (zs : List Int) (w : World) (h : Arg w B A n c zs) :
    Calls Try.prog 49 #[.slice A n c] w (GivesI w zs) := by
  obtain ⟨i0, hi, hz0, hz1, hz2⟩ := info_parts intInfo
  have hl := h.len
  have hn := h.le
  have hr := h.reads
  have q22 : ∀ (w : World) (a : Option Addr) (n c n' c' : Nat), (binOp .eql 24 (.slice a n c) (.slice none n' c')).run Try.prog w = .ok (.bool a.isNone) w := fun w a n c n' c' => Lib.run_eql_slice_nil w _ _ a n c n' c' Try.underlying24
  cases A with
  | none =>
    obtain rfl : n = 0 := by
      by_cases h0 : 0 < n
      · obtain ⟨ad, he, _⟩ := hr.2 h0
        cases he
      · omega
    obtain rfl := List.eq_nil_of_length_eq_zero hl
    clear h hr hl
    go_enter Try.func49, Try.ntmps49
    go_wp2
    go_ret
    exact GivesI.mk (Ints.nil _ _) (Below.refl _ _)
  | some ad =>
    have hcl : ∀ j u, (i64s zs)[j]? = some u → w.cell? (ad.add j) = some u := fun j u hu => by
      have hj : j < n := by have := (List.getElem?_eq_some_iff.1 hu).1; rw [i64_length, hl] at this; exact this
      obtain ⟨ad', he, _, hc⟩ := hr.2 (by omega)
      injection he with he
      subst he
      exact hc j u hu
    have hbl : 0 < n → ad.block < w.heap.size := fun h0 => by
      obtain ⟨ad', he, hb', _⟩ := hr.2 h0
      injection he with he
      subst he
      exact Nat.lt_of_lt_of_le hb' h.under
    have hcl2 : ∀ j u, (i64s zs)[j]? = some u → (w.alloc (.cells #[] 3)).cell? (ad.add j) = some u := fun j u hu => by
      have hj : j < n := by have := (List.getElem?_eq_some_iff.1 hu).1; rw [i64_length, hl] at this; exact this
      rw [World.cell?_alloc_lt]
      · exact hcl j u hu
      · rw [block_of_add]; exact hbl (by omega)
    have hone : ∀ u ∈ i64s zs, u.oneCell' = true := fun u hu => by
      unfold i64s at hu
      obtain ⟨z, _, rfl⟩ := List.mem_map.1 hu
      rfl
    have hln : (i64s zs).length = n * 1 := by rw [i64_length, hl]; omega
    have HCL := hide hcl2
    have HONE := hide hone
    have HLN := hide hln
    have HL := hide hl
    have hst := own0 w w.heap.size (Nat.le_refl _)
    have hbel := (Below.refl w.heap.size w).alloc (Nat.le_refl _) (.cells #[] 3)
    clear h hr hl hcl hcl2 hbl hone hln
    go_enter Try.func49, Try.ntmps49
    go_wp2_with (at_builtin; refine wpList_append_own _ rfl (.tmp 5) (.tmp 6) 24 rfl w.heap.size 3 i0 (.int .i64 0) 1 8 Try.underlying24 hi hz0 hz1 hz2 rfl (by decide) _ _ _ rfl hst ad n c (i64s zs) rfl ?_ ?_ ?_ ?_ ?_ ?_ ?_)
    · exact unhide HLN
    · exact unhide HCL
    · exact unhide HONE
    · unfold maxLen; omega
    · omega
    · simp
    intro v1 w1 hown1 hg1 _
    have hb1 : Below w.heap.size w w1 := hbel.grown hg1 (by simp) (fun q hq => by simp [Value.ownBlock] at hq; omega)
    have hI : Ints w1 w.heap.size v1 zs := by
      have h := hown1
      rw [← unhide HL] at h
      exact Ints.of_own h
    clear hg1 hown1
    go_wp2
    go_ret
    exact GivesI.mk hI hb1
end Go.Proofs.Ytcoegjhhhnfplaa


/-
  spec.l7At, spec.l7Fits, spec.l7Find, spec.OccurrencesOf, spec.CountPattern, spec.HasPattern, by their contracts.
-/

namespace Go.Proofs.Ytcoegjhhhnfplaa
set_option maxRecDepth 100000
open Go.RowKit

theorem Arg.stay {w w' : World} {B B' n c : Nat} {A : Option Addr} {zs : List Int} (h : Arg w B A n c zs) (hb : Below B' w w') (hB : B ≤ B') : Arg w' B A n c zs :=
  ⟨h.reads.below (hb.mono hB), Nat.le_trans h.under hb.size, h.le, h.cap, h.small, h.nil⟩
theorem Arg.at_ {w : World} {B n c k : Nat} {A : Option Addr} {zs : List Int} (h : Arg w B A n c zs) (hk : k < n) : ∃ ad, A = some ad ∧ ad.block < B ∧ zs[k]? = some (at0 zs k) ∧ w.cell? (ad.add k) = some (.int .i64 (at0 zs k)) := by
  obtain ⟨ad, u, hA, hb, hu, hc⟩ := h.reads.at_ hk
  obtain ⟨z, hz, rfl⟩ := i64_at hu
  have e := at0_of hz
  subst e
  exact ⟨ad, hA, hb, hz, hc⟩
theorem isP_rng {p : List Int} (h : isP p = true) {k : Nat} (hk : k < p.length) : 1 ≤ at0 p k ∧ at0 p k ≤ (p.length : Int) := by
  have := (isP_true.1 h).2.1 _ (at0_mem hk)
  exact this
theorem place_nat {n : Nat} {x : Int} (h : 1 ≤ x ∧ x ≤ (n : Int)) : ∃ X : Nat, x = ((X + 1 : Nat) : Int) ∧ X < n := ⟨x.toNat - 1, by omega, by omega⟩

set_option maxHeartbeats 1600000 in
theorem l7fits_any (A A' A2 : Option Addr) (n c B n' c' B' n2 c2 B2 : Nat) (p q pl : List Int) (b : Bool) (hb : fitL p q pl = b) (w : World) (h : Arg w B A n c p) (h' : Arg w B' A' n' c' q) (h2 : Arg w B2 A2 n2 c2 pl) (hr : PlOK p.length pl) (hlt : 0 < n2) (hle : n2 ≤ n') :
    Calls Try.prog 116 #[.slice A n c, .slice A' n' c', .slice A2 n2 c2] w fun e w' => e = .returned (.bool b) ∧ Drew w w' := by
  have hl := h.len
  have hl' := h'.len
  have hl2 := h2.len
  obtain ⟨L, rfl⟩ : ∃ L, n2 = L + 1 := ⟨n2 - 1, by omega⟩
  have hn2 := h2.le
  have hL1 : ((L + 1 : Nat) : Int) - 1 = (L : Int) := by omega
  have HB := hide hb
  have HL := hide hl2
  have HR := hide hr
  clear hb hr
  go_enter Try.func116, Try.ntmps116
  go_wp2
  go_loopw [8] (fun i wr => ∃ k : Nat, k ≤ L ∧ i = .int .i64 k ∧ Drew w wr ∧ Hid (∀ j, j < k → decide (at0 q j < at0 q L) = decide (at0 (nums p pl) j < at0 (nums p pl) L))) (fun i _ => L - (intOf i).toNat)
  case atStart => exact ⟨0, Nat.zero_le _, rfl, Drew.refl _, fun j hj => by omega⟩
  case round =>
    obtain ⟨k, hk, rfl, hd, hx⟩ := hrel
    by_cases hkl : k < L
    · have hdb := hd.below w.heap.size
      obtain ⟨ad', rfl, _, _, ca⟩ := (h'.below hdb).at_ (show k < n' by omega)
      obtain ⟨_, he, _, _, cb⟩ := (h'.below hdb).at_ (show L < n' by omega)
      obtain rfl := Option.some.inj he
      obtain ⟨ad2, rfl, _, _, cx⟩ := (h2.below hdb).at_ (show k < L + 1 by omega)
      obtain ⟨_, he2, _, _, cy⟩ := (h2.below hdb).at_ (show L < L + 1 by omega)
      obtain rfl := Option.some.inj he2
      obtain ⟨X, hX, hXn⟩ := place_nat ((unhide HR).rng (i := k) (by omega))
      obtain ⟨Y, hY, hYn⟩ := place_nat ((unhide HR).rng (i := L) (by omega))
      obtain ⟨ad, rfl, _, _, cc⟩ := (h.below hdb).at_ (show X < n by omega)
      obtain ⟨_, he3, _, _, cd⟩ := (h.below hdb).at_ (show Y < n by omega)
      obtain rfl := Option.some.inj he3
      have e1 : at0 (nums p pl) k = at0 p X := by rw [nums_at0 (by omega), hX]; simp
      have e2 : at0 (nums p pl) L = at0 p Y := by rw [nums_at0 (by omega), hY]; simp
      rw [hX] at cx
      rw [hY] at cy
      have k1 : ((X + 1 : Nat) : Int) - 1 = (X : Int) := by omega
      have k2 : ((Y + 1 : Nat) : Int) - 1 = (Y : Int) := by omega
      have hnn := h.le
      have w1 : IntKind.i64.wrap (X : Int) = X := by rw [IntKind.wrap_i64]; omega
      have w2 : IntKind.i64.wrap (Y : Int) = Y := by rw [IntKind.wrap_i64]; omega
      have HE := hide (And.intro e1 e2)
      have HD := hide hd
      have HX := hide (And.intro hX hY)
      clear e1 e2 hd hdb hX hY he he2 he3
      obtain ⟨a, ha⟩ : ∃ a, at0 q k = a := ⟨_, rfl⟩
      obtain ⟨b', hb'⟩ : ∃ b', at0 q L = b' := ⟨_, rfl⟩
      obtain ⟨y, hy⟩ : ∃ y, at0 p X = y := ⟨_, rfl⟩
      obtain ⟨z, hz⟩ : ∃ z, at0 p Y = z := ⟨_, rfl⟩
      have HA := hide (And.intro ha (And.intro hb' (And.intro hy hz)))
      rw [ha] at ca
      rw [hb'] at cb
      rw [hy] at cc
      rw [hz] at cd
      clear ha hb' hy hz
      by_cases t1 : a < b'
      · have d1 := decide_eq_true t1
        by_cases t2 : y < z
        · have d2 := decide_eq_true t2
          have hnext : Hid (∀ j, j < k + 1 → decide (at0 q j < at0 q L) = decide (at0 (nums p pl) j < at0 (nums p pl) L)) := hide (fun j hj => by
            by_cases hjk : j < k
            · exact unhide hx j hjk
            · obtain rfl : j = k := by omega
              rw [(unhide HE).1, (unhide HE).2, (unhide HA).1, (unhide HA).2.1, (unhide HA).2.2.1, (unhide HA).2.2.2, decide_eq_true t1, decide_eq_true t2])
          clear hx
          go_wp2
          go_quiet (fail)
          go_wp2
          go_roundw
          case rel => exact ⟨k + 1, by omega, by go_num, (unhide HD).more _, hnext⟩
          case measure => simp [intOf]; omega
        · have d2 := decide_eq_false t2
          obtain rfl : b = false := (unhide HB).symm.trans (fitL_no (k := k) (by rw [unhide HL]; omega) (by rw [unhide HL, Nat.add_sub_cancel, (unhide HE).1, (unhide HE).2, (unhide HA).1, (unhide HA).2.1, (unhide HA).2.2.1, (unhide HA).2.2.2, decide_eq_true t1, decide_eq_false t2]; decide))
          clear hx HB
          go_wp2
          go_quiet (fail)
          go_wp2
          go_ret
          exact ⟨rfl, (unhide HD).more _⟩
      · have d1 := decide_eq_false t1
        by_cases t2 : y < z
        · have d2 := decide_eq_true t2
          obtain rfl : b = false := (unhide HB).symm.trans (fitL_no (k := k) (by rw [unhide HL]; omega) (by rw [unhide HL, Nat.add_sub_cancel, (unhide HE).1, (unhide HE).2, (unhide HA).1, (unhide HA).2.1, (unhide HA).2.2.1, (unhide HA).2.2.2, decide_eq_false t1, decide_eq_true t2]; decide))
          clear hx HB
          go_wp2
          go_quiet (fail)
          go_wp2
          go_ret
          exact ⟨rfl, (unhide HD).more _⟩
        · have d2 := decide_eq_false t2
          have hnext : Hid (∀ j, j < k + 1 → decide (at0 q j < at0 q L) = decide (at0 (nums p pl) j < at0 (nums p pl) L)) := hide (fun j hj => by
            by_cases hjk : j < k
            · exact unhide hx j hjk
            · obtain rfl : j = k := by omega
              rw [(unhide HE).1, (unhide HE).2, (unhide HA).1, (unhide HA).2.1, (unhide HA).2.2.1, (unhide HA).2.2.2, decide_eq_false t1, decide_eq_false t2])
          clear hx
          go_wp2
          go_quiet (fail)
          go_wp2
          go_roundw
          case rel => exact ⟨k + 1, by omega, by go_num, (unhide HD).more _, hnext⟩
          case measure => simp [intOf]; omega
    · obtain rfl : L = k := by omega
      obtain rfl : b = true := (unhide HB).symm.trans (fitL_yes fun k hk => by
        rw [unhide HL, Nat.add_sub_cancel] at hk ⊢
        exact unhide hx k hk)
      clear hx HB
      go_wp2
      go_ret
      exact ⟨rfl, hd⟩
end Go.Proofs.Ytcoegjhhhnfplaa


/-
  spec.l7Find, spec.OccurrencesOf, spec.CountPattern, spec.HasPattern, by their contracts.
-/

namespace Go.Proofs.Ytcoegjhhhnfplaa
set_option maxRecDepth 100000
open Go.RowKit

theorem extK_len {p q : List Int} {m : Nat} {head : List Int} (ih : ∀ x, (extL p q m (head ++ [x])).length ≤ 2 ^ (p.length - x.toNat)) : ∀ j, j ≤ p.length - lastP head → (extK p q m head j).length + 2 ^ (p.length - lastP head - j) ≤ 2 ^ (p.length - lastP head)
  | 0, _ => by rw [extK_zero]; simp
  | j + 1, hj => by
    have h1 := extK_len ih j (by omega)
    have e : p.length - lastP head - j = (p.length - lastP head - (j + 1)) + 1 := by omega
    rw [e, Nat.pow_succ] at h1
    cases hf : fitL p q (head ++ [((lastP head + j + 1 : Nat) : Int)]) with
    | false => rw [extK_no hf]; omega
    | true =>
      have h2 := ih ((lastP head + j + 1 : Nat) : Int)
      rw [show p.length - ((lastP head + j + 1 : Nat) : Int).toNat = p.length - lastP head - (j + 1) by omega] at h2
      rw [extK_yes hf, List.length_append]
      omega
theorem extL_size {p q : List Int} : ∀ (m : Nat) (head : List Int), (extL p q m head).length ≤ 2 ^ (p.length - lastP head)
  | 0, head => by rw [extL, List.length_singleton]; exact Nat.one_le_two_pow
  | m + 1, head => by
    have h := extK_len (p := p) (q := q) (m := m) (head := head) (fun x => by
      have := extL_size (p := p) (q := q) m (head ++ [x])
      rwa [lastP_snoc] at this) (p.length - lastP head) (Nat.le_refl _)
    rw [extK_all] at h
    exact Nat.le_trans (Nat.le_add_right _ _) h
theorem extK_mono {p q : List Int} {m : Nat} {head : List Int} (j : Nat) : (extK p q m head j).length ≤ (extK p q m head (j + 1)).length := by
  cases hf : fitL p q (head ++ [((lastP head + j + 1 : Nat) : Int)]) with
  | false => rw [extK_no hf]; exact Nat.le_refl _
  | true => rw [extK_yes hf, List.length_append]; omega
theorem extK_le {p q : List Int} {m : Nat} {head : List Int} {j : Nat} (k : Nat) : (extK p q m head j).length ≤ (extK p q m head (j + k)).length := by
  induction k with
  | zero => exact Nat.le_refl _
  | succ k ih => exact Nat.le_trans ih (extK_mono _)
theorem occ_size (p q : List Int) (hp : isP p = true) : (occR p q).length ≤ 256 := by
  have h8 := isP_le hp
  unfold occR
  split
  · have := extL_size (p := p) (q := q) q.length []
    rw [lastP_nil] at this
    exact Nat.le_trans this (Nat.pow_le_pow_right (n := 2) (by decide) (show p.length - 0 ≤ 8 by omega))
  · simp

/-- What l7Find leaves: the list with more rows, of which none but head's own is older than the call. -/
def FindEnds (w : World) (B : Nat) (vs : List Value) (zss : List (List Int)) (hv : Value) (L : List (List Int)) (e : Ending) (w' : World) : Prop :=
  ∃ v' us, e = .returned v' ∧ w'.ownsRow B 24 1 v' (zss.length + L.length) (vs ++ us) ∧ Inner w' B (vs ++ us) (zss ++ L) ∧ (∀ x ∈ us, x = hv ∨ Since w.heap.size x) ∧ Below B w w' ∧ KeepI w w'

set_option maxHeartbeats 1600000 in
theorem l7find_any : ∀ (m : Nat) (A A' : Option Addr) (n c Bp n' c' Bq B : Nat) (p q : List Int) (Ah : Option Addr) (nh ch : Nat) (head : List Int) (v : Value) (vs : List Value) (zss : List (List Int)) (w : World)
    (_ : Arg w Bp A n c p) (_ : Arg w Bq A' n' c' q) (_ : Bp ≤ B) (_ : Bq ≤ B) (_ : B ≤ w.heap.size) (_ : isP p = true) (_ : isP q = true) (_ : head.length + m = q.length) (_ : PlOK p.length head) (_ : Ints w B (.slice Ah nh ch) head)
    (_ : w.ownsRow B 24 1 v zss.length vs) (_ : Inner w B vs zss) (_ : ∀ x ∈ vs, Away x (.slice Ah nh ch)) (_ : zss.length + (extL p q m head).length ≤ 1048576),
    Calls Try.prog 93 #[.slice A n c, .slice A' n' c', .slice Ah nh ch, v] w (FindEnds w B vs zss (.slice Ah nh ch) (extL p q m head)) := by
  intro m
  induction m with
  | zero =>
    intro A A' n c Bp n' c' Bq B p q Ah nh ch head v vs zss w h h' hBp hBq hB hp hq hm hP hh hown hin haw hlen
    obtain ⟨i0, hi, hz0, hz1, hz2⟩ := info_parts rowsInfo
    have hl' := h'.len
    have hnh := hh.len
    have heq : (nh : Int) = (n' : Int) := by omega
    obtain ⟨Av, cv, rfl, _⟩ := Reads.of_own hown
    rw [extL, List.length_singleton] at hlen
    rw [extL]
    have HH := hide (And.intro hin (And.intro haw hh))
    have HO := hide hown
    clear h h' hp hq hP hm hl' hin haw hh hnh
    go_enter Try.func93, Try.ntmps93
    go_wp2_with (first
      | (at_builtin; refine wpList_append_one rfl (.tmp 17) (.tmp 19) 25 rfl B 24 i0 (.slice none 0 0) 24 Try.underlying25 hi hz0 hz1 hz2 rfl w w _ _ _ rfl hown (.slice Ah nh ch) rfl rfl rfl (by omega) (by unfold maxLen; omega) (Below.refl _ _) hB ?_))
    intro v2 w2 hown2 hb2 hg2
    obtain ⟨hin, haw, hh⟩ := unhide HH
    have hk := KeepI.of_grown (unhide HO) hg2
    have hin2 := (hin.keepI hk).push (hh.keepI hk) haw
    clear hg2 hin haw hh
    go_wp2
    go_ret
    exact ⟨v2, [.slice Ah nh ch], rfl, hown2, hin2, fun x hx => .inl (List.mem_singleton.1 hx), hb2, hk⟩
  | succ m ih =>
    intro A A' n c Bp n' c' Bq B p q Ah nh ch head v vs zss w h h' hBp hBq hB hp hq hm hP hh hown hin haw hlen
    obtain ⟨i0, hi, hz0, hz1, hz2⟩ := info_parts intInfo
    have hl := h.len
    have hl' := h'.len
    have hnh := hh.len
    have h8 := isP_le hp
    have hq8 := isP_le hq
    have hne : ¬ (nh : Int) = (n' : Int) := by omega
    have hnh8 : nh ≤ 8 := by omega
    have hn8 : n ≤ 8 := by omega
    have hlast := lastP_le hP
    obtain ⟨Av, cv, rfl, _⟩ := Reads.of_own hown
    have hu0 := hh.until_
    have HX := hide (fun (j : Nat) (hj : j < p.length - lastP head) => show zss.length + (extK p q m head (j + 1)).length ≤ 1048576 from by
      have := extK_le (p := p) (q := q) (m := m) (head := head) (j := j + 1) (p.length - lastP head - (j + 1))
      rw [show j + 1 + (p.length - lastP head - (j + 1)) = p.length - lastP head by omega, extK_all] at this
      omega)
    have HC : Hid (Ints w B (.slice Ah nh ch) head ∧ w.ownsRow B 24 1 (.slice Av zss.length cv) (zss.length + (extK p q m head 0).length) (vs ++ []) ∧ Inner w B (vs ++ []) (zss ++ extK p q m head 0) ∧ (∀ x ∈ ([] : List Value), Since w.heap.size x) ∧ Below B w w ∧ KeepI w w) :=
      hide ⟨hh, by rw [extK_zero, List.append_nil]; exact hown, by rw [extK_zero, List.append_nil, List.append_nil]; exact hin, fun x hx => by simp at hx, Below.refl _ _, KeepI.refl _⟩
    have HA := hide (And.intro haw (And.intro hP (And.intro hp hq)))
    obtain ⟨f, hf⟩ : ∃ f, lastP head = f := ⟨_, rfl⟩
    have hf0 : (∀ k, nh = k + 1 → ∃ ad, Ah = some ad ∧ w.cell? (ad.add k) = some (.int .i64 (f : Int))) ∧ (nh = 0 → f = 0) := by
      constructor
      · intro k hk
        obtain ⟨ad, u, rfl, _, hu, hc⟩ := hh.reads.at_ (show k < nh by omega)
        obtain ⟨z, hz, rfl⟩ := i64_at hu
        have hr := hP.rng (i := k) (by omega)
        rw [at0_of hz] at hr
        rw [lastP_at (by omega), show head.length - 1 = k by omega, at0_of hz] at hf
        exact ⟨ad, rfl, by rw [hc, show z = (f : Int) by omega]⟩
      · intro h0
        have : head = [] := List.eq_nil_of_length_eq_zero (by omega)
        subst this
        exact hf.symm
    have HF := hide hf
    have HL := hide hlen
    have HM := hide (And.intro hm hnh)
    rw [hf] at hlast
    clear hh hown hin haw hP hp hq hlen hf hm hnh
    cases nh with
    | zero =>
      have HZ := hide (hf0.2 rfl)
      have e0 : ((0 : Int) == (n' : Int)) = false := by rw [beq_eq_false_iff_ne]; omega
      clear hf0
      go_enter Try.func93, Try.ntmps93
      go_wp2
      go_loopw [3, 10, 11] (fun o i _ wr => ∃ (j : Nat) (us : List Value), j ≤ p.length - f ∧ i = .int .i64 ((f + j + 1 : Nat) : Int) ∧ Hid (Ints wr B (.slice Ah 0 ch) head ∧ wr.ownsRow B 24 1 o (zss.length + (extK p q m head j).length) (vs ++ us) ∧ Inner wr B (vs ++ us) (zss ++ extK p q m head j) ∧ (∀ x ∈ us, Since w.heap.size x) ∧ Below B w wr ∧ KeepI w wr)) (fun _ i _ _ => (p.length + 1 - (intOf i).toNat))
      case atStart => exact ⟨0, [], Nat.zero_le _, by rw [unhide HZ]; rfl, HC⟩
      case round =>
        obtain ⟨j, us, hj, rfl, HCr⟩ := hrel
        clear HC
        obtain ⟨Ao, co, rfl, _⟩ := Reads.of_own (unhide HCr).2.1
        by_cases hlt : j < p.length - f
        · have hst := own0 wr wr.heap.size (Nat.le_refl _)
          have hal := (Below.refl wr.heap.size wr).alloc (Nat.le_refl _) (.cells #[] 3)
          have hArg := ((unhide HCr).1.arg (by omega) (unhide HCr).1.cap (fun z hz => by have := (unhide HA).2.1.1 z hz; omega)).below hal
          have hBw : B ≤ wr.heap.size := Nat.le_trans hB (unhide HCr).2.2.2.2.1.size
          go_wp2_with (first
            | (at_builtin; refine wpList_append_arg rfl (.tmp 38) (.tmp 39) rfl wr.heap.size _ 0 (0) ch _ _ Ah [] head rfl rfl hst hArg (by omega) hal (by simp) ?_))
          intro v5 w5 hown5 hb5 hg5
          have hs5 := hb5.size
          clear hg5 hst hal hArg
          go_wp2_with (first
            | (at_builtin; refine wpList_append_one rfl (.tmp 40) (.tmp 42) 24 rfl wr.heap.size 3 i0 (.int .i64 0) 8 Try.underlying24 hi hz0 hz1 hz2 rfl wr w5 _ _ _ rfl hown5 (.int .i64 ((f + j + 1 : Nat) : Int)) rfl rfl rfl (by omega) (by unfold maxLen; omega) hb5 hs5 ?_))
          intro v6 w6 hown6 hb6 hg6
          rw [i64_snoc] at hown6
          clear hg6 hown5 hb5 hs5
          have hI6 : Ints w6 wr.heap.size v6 (head ++ [((f + j + 1 : Nat) : Int)]) := Ints.of_own hown6
          obtain ⟨A6, c6, rfl, _⟩ := Reads.of_own hown6
          obtain ⟨x1, x2, x3, x4, x5, x6⟩ := unhide HCr
          have y5 : Below B w w6 := x5.trans (hb6.mono hBw)
          have hP6 : PlOK p.length (head ++ [((f + j + 1 : Nat) : Int)]) := PlOK.snoc.2 ⟨(unhide HA).2.1, by rw [unhide HF]; omega, by omega⟩
          have hA6 : Arg w6 w6.heap.size A6 (0 + 1) c6 (head ++ [((f + j + 1 : Nat) : Int)]) := hI6.arg (by omega) hI6.cap (fun z hz => by have := hP6.1 z hz; omega)
          obtain ⟨b, hb⟩ : ∃ b, fitL p q (head ++ [((f + j + 1 : Nat) : Int)]) = b := ⟨_, rfl⟩
          have H1 := hide (l7fits_any A A' A6 n c Bp n' c' Bq _ c6 _ p q _ b hb w6 (h.stay y5 hBp) (h'.stay y5 hBq) hA6 hP6 (by omega) (by have := (unhide HM).1; have := (unhide HM).2; omega))
          have hsn := hI6.since
          have haw6 : ∀ x ∈ vs ++ us, Away x (.slice A6 (0 + 1) c6) := x3.away_new hsn (Nat.le_refl _)
          have hws : w.heap.size ≤ wr.heap.size := x5.size
          have HEX := hide (unhide HX j (by rw [unhide HF]; omega))
          cases b with
          | false =>
            have HE : Hid (extK p q m head (j + 1) = extK p q m head j) := hide (extK_no (by rw [unhide HF]; exact hb))
            have HC6 : Hid (Ints w6 B (.slice Ah 0 ch) head ∧ w6.ownsRow B 24 1 (.slice Ao (zss.length + (extK p q m head j).length) co) (zss.length + (extK p q m head j).length) (vs ++ us) ∧ Inner w6 B (vs ++ us) (zss ++ extK p q m head j) ∧ (∀ x ∈ us, Since w.heap.size x) ∧ Below B w w6 ∧ KeepI w w6) :=
              hide ⟨x1.below hb6, own_below x2 hb6, x3.keepI (KeepI.of_below hb6), x4, y5, x6.trans (KeepI.of_below hb6)⟩
            clear hI6 hown6 hb6 x1 x2 x3 x4 x5 x6 y5 hP6 hA6 hb hsn haw6 HCr HEX
            go_wp2_with fail
            refine (unhide H1).mono ?_
            rintro e w7 ⟨rfl, hd⟩
            have HC7 : Hid (Ints w7 B (.slice Ah 0 ch) head ∧ w7.ownsRow B 24 1 (.slice Ao (zss.length + (extK p q m head j).length) co) (zss.length + (extK p q m head (j + 1)).length) (vs ++ us) ∧ Inner w7 B (vs ++ us) (zss ++ extK p q m head (j + 1)) ∧ (∀ x ∈ us, Since w.heap.size x) ∧ Below B w w7 ∧ KeepI w w7) := hide (by
              obtain ⟨x1, x2, x3, x4, x5, x6⟩ := unhide HC6
              rw [unhide HE]
              exact ⟨x1.below (hd.below _), own_below x2 (hd.below _), x3.keepI hd.keepI, x4, x5.trans (hd.below _), x6.trans hd.keepI⟩)
            clear H1 hd HC6 HE
            go_wp2
            go_roundw
            case rel => exact ⟨j + 1, us, by omega, by go_num, HC7⟩
            case measure => simp [intOf]; omega
          | true =>
            have HE : Hid (extK p q m head (j + 1) = extK p q m head j ++ extL p q m (head ++ [((f + j + 1 : Nat) : Int)])) := hide (by have := extK_yes (p := p) (q := q) (m := m) (head := head) (j := j) (by rw [unhide HF]; exact hb); rwa [unhide HF] at this)
            have H2 := hide (fun (w7 : World) (hd : Below w6.heap.size w6 w7) => ih A A' n c Bp n' c' Bq B p q A6 _ c6 (head ++ [((f + j + 1 : Nat) : Int)]) (.slice Ao (zss.length + (extK p q m head j).length) co) (vs ++ us) (zss ++ extK p q m head j) w7 (h.stay (y5.trans (hd.mono (Nat.le_trans hBw hb6.size))) hBp) (h'.stay (y5.trans (hd.mono (Nat.le_trans hBw hb6.size))) hBq) hBp hBq (Nat.le_trans hBw (Nat.le_trans hb6.size hd.size)) (unhide HA).2.2.1 (unhide HA).2.2.2 (by have := (unhide HM).1; rw [List.length_append, List.length_singleton]; omega) hP6 ((hI6.below hd).low hBw)
              (by rw [List.length_append]; exact own_below (own_below x2 hb6) hd) ((x3.keepI (KeepI.of_below hb6)).keepI (KeepI.of_below hd)) haw6 (by have := unhide HEX; rw [unhide HE, List.length_append] at this; rw [List.length_append]; omega))
            have HC6 := hide (And.intro (x1.below hb6) (And.intro x4 (And.intro y5 (x6.trans (KeepI.of_below hb6)))))
            have hb6s := hb6.size
            clear hI6 hown6 hb6 x1 x2 x3 x4 x5 x6 y5 hP6 hA6 hb haw6 HCr HEX
            go_wp2_with fail
            refine (unhide H1).mono ?_
            rintro e w7 ⟨rfl, hd⟩
            have H3 := hide (unhide H2 w7 (hd.below _))
            clear H1 H2
            go_wp2_with fail
            refine (unhide H3).mono ?_
            rintro e w8 ⟨v8, us2, rfl, o8, i8, hu8, hb8, hk8⟩
            have HC8 : Hid (Ints w8 B (.slice Ah 0 ch) head ∧ w8.ownsRow B 24 1 v8 (zss.length + (extK p q m head (j + 1)).length) (vs ++ (us ++ us2)) ∧ Inner w8 B (vs ++ (us ++ us2)) (zss ++ extK p q m head (j + 1)) ∧ (∀ x ∈ us ++ us2, Since w.heap.size x) ∧ Below B w w8 ∧ KeepI w w8) := hide (by
              obtain ⟨x1, x4, x5, x6⟩ := unhide HC6
              rw [List.append_assoc] at o8 i8
              rw [List.append_assoc, ← unhide HE] at i8
              rw [List.length_append, Nat.add_assoc, ← List.length_append, ← unhide HE] at o8
              refine ⟨(x1.below (hd.below _)).keepI hk8, o8, i8, fun x hx => ?_, (x5.trans (hd.below _)).trans hb8, (x6.trans hd.keepI).trans hk8⟩
              rcases List.mem_append.1 hx with hx | hx
              · exact x4 x hx
              · rcases hu8 x hx with rfl | hx
                · exact hsn.mono hws
                · exact hx.mono (by have := hd.size; omega))
            clear H3 o8 i8 hu8 hb8 hk8 hd HC6 hsn HE
            go_wp2
            go_roundw
            case rel => exact ⟨j + 1, us ++ us2, by omega, by go_num, HC8⟩
            case measure => simp [intOf]; omega
        · obtain rfl : j = p.length - f := by omega
          obtain ⟨x1, x2, x3, x4, x5, x6⟩ := unhide HCr
          have hE : extK p q m head (p.length - f) = extL p q (m + 1) head := by have := extK_all p q m head; rwa [unhide HF] at this
          have HR : Hid (wr.ownsRow B 24 1 (.slice Ao (zss.length + (extK p q m head (p.length - f)).length) co) (zss.length + (extL p q (m + 1) head).length) (vs ++ us) ∧ Inner wr B (vs ++ us) (zss ++ extL p q (m + 1) head) ∧ (∀ x ∈ us, Since w.heap.size x) ∧ Below B w wr ∧ KeepI w wr) :=
            hide ⟨by rw [← hE]; exact x2, by rw [← hE]; exact x3, x4, x5, x6⟩
          clear x1 x2 x3 x4 x5 x6 HCr hE
          go_wp2
          go_ret
          obtain ⟨x2, x3, x4, x5, x6⟩ := unhide HR
          exact ⟨_, us, rfl, x2, x3, fun x hx => .inr (x4 x hx), x5, x6⟩
    | succ nh =>
      obtain ⟨adh, rfl, hcl⟩ := hf0.1 nh rfl
      have hki : ((nh + 1 : Nat) : Int) - 1 = (nh : Int) := by omega
      have e0 : ((nh : Int) + 1 == (n' : Int)) = false := by rw [beq_eq_false_iff_ne]; omega
      clear hf0
      go_enter Try.func93, Try.ntmps93
      go_wp2
      clear hcl hki
      go_loopw [3, 10, 11] (fun o i _ wr => ∃ (j : Nat) (us : List Value), j ≤ p.length - f ∧ i = .int .i64 ((f + j + 1 : Nat) : Int) ∧ Hid (Ints wr B (.slice (some adh) (nh + 1) ch) head ∧ wr.ownsRow B 24 1 o (zss.length + (extK p q m head j).length) (vs ++ us) ∧ Inner wr B (vs ++ us) (zss ++ extK p q m head j) ∧ (∀ x ∈ us, Since w.heap.size x) ∧ Below B w wr ∧ KeepI w wr)) (fun _ i _ _ => (p.length + 1 - (intOf i).toNat))
      case atStart => exact ⟨0, [], Nat.zero_le _, by go_num, HC⟩
      case round =>
        obtain ⟨j, us, hj, rfl, HCr⟩ := hrel
        clear HC
        obtain ⟨Ao, co, rfl, _⟩ := Reads.of_own (unhide HCr).2.1
        by_cases hlt : j < p.length - f
        · have hst := own0 wr wr.heap.size (Nat.le_refl _)
          have hal := (Below.refl wr.heap.size wr).alloc (Nat.le_refl _) (.cells #[] 3)
          have hArg := ((unhide HCr).1.arg (by omega) (unhide HCr).1.cap (fun z hz => by have := (unhide HA).2.1.1 z hz; omega)).below hal
          have hBw : B ≤ wr.heap.size := Nat.le_trans hB (unhide HCr).2.2.2.2.1.size
          go_wp2_with (first
            | (at_builtin; refine wpList_append_arg rfl (.tmp 38) (.tmp 39) rfl wr.heap.size _ 0 ((nh + 1)) ch _ _ (some adh) [] head rfl rfl hst hArg (by omega) hal (by simp) ?_))
          intro v5 w5 hown5 hb5 hg5
          have hs5 := hb5.size
          clear hg5 hst hal hArg
          go_wp2_with (first
            | (at_builtin; refine wpList_append_one rfl (.tmp 40) (.tmp 42) 24 rfl wr.heap.size 3 i0 (.int .i64 0) 8 Try.underlying24 hi hz0 hz1 hz2 rfl wr w5 _ _ _ rfl hown5 (.int .i64 ((f + j + 1 : Nat) : Int)) rfl rfl rfl (by omega) (by unfold maxLen; omega) hb5 hs5 ?_))
          intro v6 w6 hown6 hb6 hg6
          rw [i64_snoc] at hown6
          clear hg6 hown5 hb5 hs5
          have hI6 : Ints w6 wr.heap.size v6 (head ++ [((f + j + 1 : Nat) : Int)]) := Ints.of_own hown6
          obtain ⟨A6, c6, rfl, _⟩ := Reads.of_own hown6
          obtain ⟨x1, x2, x3, x4, x5, x6⟩ := unhide HCr
          have y5 : Below B w w6 := x5.trans (hb6.mono hBw)
          have hP6 : PlOK p.length (head ++ [((f + j + 1 : Nat) : Int)]) := PlOK.snoc.2 ⟨(unhide HA).2.1, by rw [unhide HF]; omega, by omega⟩
          have hA6 : Arg w6 w6.heap.size A6 ((nh + 1) + 1) c6 (head ++ [((f + j + 1 : Nat) : Int)]) := hI6.arg (by omega) hI6.cap (fun z hz => by have := hP6.1 z hz; omega)
          obtain ⟨b, hb⟩ : ∃ b, fitL p q (head ++ [((f + j + 1 : Nat) : Int)]) = b := ⟨_, rfl⟩
          have H1 := hide (l7fits_any A A' A6 n c Bp n' c' Bq _ c6 _ p q _ b hb w6 (h.stay y5 hBp) (h'.stay y5 hBq) hA6 hP6 (by omega) (by have := (unhide HM).1; have := (unhide HM).2; omega))
          have hsn := hI6.since
          have haw6 : ∀ x ∈ vs ++ us, Away x (.slice A6 ((nh + 1) + 1) c6) := x3.away_new hsn (Nat.le_refl _)
          have hws : w.heap.size ≤ wr.heap.size := x5.size
          have HEX := hide (unhide HX j (by rw [unhide HF]; omega))
          cases b with
          | false =>
            have HE : Hid (extK p q m head (j + 1) = extK p q m head j) := hide (extK_no (by rw [unhide HF]; exact hb))
            have HC6 : Hid (Ints w6 B (.slice (some adh) (nh + 1) ch) head ∧ w6.ownsRow B 24 1 (.slice Ao (zss.length + (extK p q m head j).length) co) (zss.length + (extK p q m head j).length) (vs ++ us) ∧ Inner w6 B (vs ++ us) (zss ++ extK p q m head j) ∧ (∀ x ∈ us, Since w.heap.size x) ∧ Below B w w6 ∧ KeepI w w6) :=
              hide ⟨x1.below hb6, own_below x2 hb6, x3.keepI (KeepI.of_below hb6), x4, y5, x6.trans (KeepI.of_below hb6)⟩
            clear hI6 hown6 hb6 x1 x2 x3 x4 x5 x6 y5 hP6 hA6 hb hsn haw6 HCr HEX
            go_wp2_with fail
            refine (unhide H1).mono ?_
            rintro e w7 ⟨rfl, hd⟩
            have HC7 : Hid (Ints w7 B (.slice (some adh) (nh + 1) ch) head ∧ w7.ownsRow B 24 1 (.slice Ao (zss.length + (extK p q m head j).length) co) (zss.length + (extK p q m head (j + 1)).length) (vs ++ us) ∧ Inner w7 B (vs ++ us) (zss ++ extK p q m head (j + 1)) ∧ (∀ x ∈ us, Since w.heap.size x) ∧ Below B w w7 ∧ KeepI w w7) := hide (by
              obtain ⟨x1, x2, x3, x4, x5, x6⟩ := unhide HC6
              rw [unhide HE]
              exact ⟨x1.below (hd.below _), own_below x2 (hd.below _), x3.keepI hd.keepI, x4, x5.trans (hd.below _), x6.trans hd.keepI⟩)
            clear H1 hd HC6 HE
            go_wp2
            go_roundw
            case rel => exact ⟨j + 1, us, by omega, by go_num, HC7⟩
            case measure => simp [intOf]; omega
          | true =>
            have HE : Hid (extK p q m head (j + 1) = extK p q m head j ++ extL p q m (head ++ [((f + j + 1 : Nat) : Int)])) := hide (by have := extK_yes (p := p) (q := q) (m := m) (head := head) (j := j) (by rw [unhide HF]; exact hb); rwa [unhide HF] at this)
            have H2 := hide (fun (w7 : World) (hd : Below w6.heap.size w6 w7) => ih A A' n c Bp n' c' Bq B p q A6 _ c6 (head ++ [((f + j + 1 : Nat) : Int)]) (.slice Ao (zss.length + (extK p q m head j).length) co) (vs ++ us) (zss ++ extK p q m head j) w7 (h.stay (y5.trans (hd.mono (Nat.le_trans hBw hb6.size))) hBp) (h'.stay (y5.trans (hd.mono (Nat.le_trans hBw hb6.size))) hBq) hBp hBq (Nat.le_trans hBw (Nat.le_trans hb6.size hd.size)) (unhide HA).2.2.1 (unhide HA).2.2.2 (by have := (unhide HM).1; rw [List.length_append, List.length_singleton]; omega) hP6 ((hI6.below hd).low hBw)
              (by rw [List.length_append]; exact own_below (own_below x2 hb6) hd) ((x3.keepI (KeepI.of_below hb6)).keepI (KeepI.of_below hd)) haw6 (by have := unhide HEX; rw [unhide HE, List.length_append] at this; rw [List.length_append]; omega))
            have HC6 := hide (And.intro (x1.below hb6) (And.intro x4 (And.intro y5 (x6.trans (KeepI.of_below hb6)))))
            have hb6s := hb6.size
            clear hI6 hown6 hb6 x1 x2 x3 x4 x5 x6 y5 hP6 hA6 hb haw6 HCr HEX
            go_wp2_with fail
            refine (unhide H1).mono ?_
            rintro e w7 ⟨rfl, hd⟩
            have H3 := hide (unhide H2 w7 (hd.below _))
            clear H1 H2
            go_wp2_with fail
            refine (unhide H3).mono ?_
            rintro e w8 ⟨v8, us2, rfl, o8, i8, hu8, hb8, hk8⟩
            have HC8 : Hid (Ints w8 B (.slice (some adh) (nh + 1) ch) head ∧ w8.ownsRow B 24 1 v8 (zss.length + (extK p q m head (j + 1)).length) (vs ++ (us ++ us2)) ∧ Inner w8 B (vs ++ (us ++ us2)) (zss ++ extK p q m head (j + 1)) ∧ (∀ x ∈ us ++ us2, Since w.heap.size x) ∧ Below B w w8 ∧ KeepI w w8) := hide (by
              obtain ⟨x1, x4, x5, x6⟩ := unhide HC6
              rw [List.append_assoc] at o8 i8
              rw [List.append_assoc, ← unhide HE] at i8
              rw [List.length_append, Nat.add_assoc, ← List.length_append, ← unhide HE] at o8
              refine ⟨(x1.below (hd.below _)).keepI hk8, o8, i8, fun x hx => ?_, (x5.trans (hd.below _)).trans hb8, (x6.trans hd.keepI).trans hk8⟩
              rcases List.mem_append.1 hx with hx | hx
              · exact x4 x hx
              · rcases hu8 x hx with rfl | hx
                · exact hsn.mono hws
                · exact hx.mono (by have := hd.size; omega))
            clear H3 o8 i8 hu8 hb8 hk8 hd HC6 hsn HE
            go_wp2
            go_roundw
            case rel => exact ⟨j + 1, us ++ us2, by omega, by go_num, HC8⟩
            case measure => simp [intOf]; omega
        · obtain rfl : j = p.length - f := by omega
          obtain ⟨x1, x2, x3, x4, x5, x6⟩ := unhide HCr
          have hE : extK p q m head (p.length - f) = extL p q (m + 1) head := by have := extK_all p q m head; rwa [unhide HF] at this
          have HR : Hid (wr.ownsRow B 24 1 (.slice Ao (zss.length + (extK p q m head (p.length - f)).length) co) (zss.length + (extL p q (m + 1) head).length) (vs ++ us) ∧ Inner wr B (vs ++ us) (zss ++ extL p q (m + 1) head) ∧ (∀ x ∈ us, Since w.heap.size x) ∧ Below B w wr ∧ KeepI w wr) :=
            hide ⟨by rw [← hE]; exact x2, by rw [← hE]; exact x3, x4, x5, x6⟩
          clear x1 x2 x3 x4 x5 x6 HCr hE
          go_wp2
          go_ret
          obtain ⟨x2, x3, x4, x5, x6⟩ := unhide HR
          exact ⟨_, us, rfl, x2, x3, fun x hx => .inr (x4 x hx), x5, x6⟩
end Go.Proofs.Ytcoegjhhhnfplaa


/-
  spec.OccurrencesOf, spec.CountPattern, spec.HasPattern, spec.IsOccurrence, by their contracts.
-/

namespace Go.Proofs.Ytcoegjhhhnfplaa
set_option maxRecDepth 100000
open Go.RowKit

set_option maxHeartbeats 800000 in
theorem soccs_any (A A' : Option Addr) (n c B n' c' B' : Nat) (p q : List Int) (w : World) (h : Arg w B A n c p) (h' : Arg w B' A' n' c' q) :
    Calls Try.prog 63 #[.slice A n c, .slice A' n' c'] w (GivesSS w (occR p q)) := by
  obtain ⟨b, hb⟩ : ∃ b, isP p = b := ⟨_, rfl⟩
  obtain ⟨b', hb'⟩ : ∃ b, isP q = b := ⟨_, rfl⟩
  have H0 := hide (sisperm_any A n c B p b hb w h.reads h.le h.cap)
  cases b with
  | false =>
    have HR := hide (occR_no (p := p) (q := q) (.inl hb))
    rw [unhide HR]
    clear h h' hb hb'
    go_enter Try.func63, Try.ntmps63
    go_wp2_with fail
    refine (unhide H0).mono ?_
    rintro e w1 ⟨rfl, hd⟩
    have hb1 := hd.below w.heap.size
    have hm := IntsS.made0 w1 w.heap.size hb1.size
    clear H0 hd
    go_wp2
    go_ret
    exact GivesSS.mk hm (hb1.alloc hb1.size _)
  | true =>
    have H1 := hide (fun w' (hb'' : Below w.heap.size w w') => sisperm_any A' n' c' B' q b' hb' w' (h'.below hb'').reads h'.le h'.cap)
    cases b' with
    | false =>
      have HR := hide (occR_no (p := p) (q := q) (.inr hb'))
      rw [unhide HR]
      clear h h' hb hb'
      go_enter Try.func63, Try.ntmps63
      go_wp2_with fail
      refine (unhide H0).mono ?_
      rintro e w1 ⟨rfl, hd⟩
      have hb1 := hd.below w.heap.size
      have H2 := hide (unhide H1 w1 hb1)
      clear H0 H1 hd
      go_wp2_with fail
      refine (unhide H2).mono ?_
      rintro e w2 ⟨rfl, hd2⟩
      have hb2 := hb1.trans (hd2.below _)
      have hm := IntsS.made0 w2 w.heap.size hb2.size
      clear H2 hd2 hb1
      go_wp2
      go_ret
      exact GivesSS.mk hm (hb2.alloc hb2.size _)
    | true =>
      have HR := hide (occR_yes hb hb')
      have hsz := occ_size p q hb
      rw [unhide HR] at hsz ⊢
      have H3 := hide (fun (w' : World) (hx : Below w.heap.size w w') => l7find_any q.length A A' n c B n' c' B' w.heap.size p q (some ⟨w'.heap.size, 0, none⟩) 0 0 [] (.slice (some ⟨w'.heap.size + 1, 0, none⟩) 0 0) [] []
        ((w'.alloc (.cells #[] 3)).alloc (.cells #[] 24)) (h.below ((hx.alloc hx.size _).alloc (by have := hx.size; simp; omega) _)) (h'.below ((hx.alloc hx.size _).alloc (by have := hx.size; simp; omega) _)) h.under h'.under (by have := hx.size; simp; omega) hb hb' (by simp) (PlOK.nil _)
        ((Ints.made0 w' w.heap.size hx.size).below ((Below.refl _ _).alloc (Nat.le_refl _) _)) (by have := ownS0 (w'.alloc (.cells #[] 3)) w.heap.size (by have := hx.size; simp; omega); rw [World.size_alloc] at this; exact this) (Inner.nil _ _) (fun x hx => by cases hx) (by simp only [List.length_nil]; omega))
      clear h h' hb hb' hsz
      go_enter Try.func63, Try.ntmps63
      go_wp2_with fail
      refine (unhide H0).mono ?_
      rintro e w1 ⟨rfl, hd⟩
      have hb1 := hd.below w.heap.size
      have H2 := hide (unhide H1 w1 hb1)
      clear H0 H1 hd
      go_wp2_with fail
      refine (unhide H2).mono ?_
      rintro e w2 ⟨rfl, hd2⟩
      have hb2 := hb1.trans (hd2.below _)
      have H4 := hide (unhide H3 w2 hb2)
      clear H2 H3 hd2 hb1
      go_wp2_with fail
      refine (unhide H4).mono ?_
      rintro e w5 ⟨v, us, rfl, o5, i5, _, hb5, _⟩
      have hS : IntsS w5 w.heap.size v (extL p q q.length []) := ⟨us, by simpa using o5, by simpa using i5⟩
      have hb6 := ((hb2.alloc hb2.size (.cells #[] 3)).alloc (by have := hb2.size; simp; omega) (.cells #[] 24)).trans hb5
      clear H4 o5 i5 hb5
      go_wp2
      go_ret
      exact GivesSS.mk hS hb6
/-- How often q occurs in p. -/
def numOcc (p q : List Int) : Int := if isP p && isP q then ((occR p q).length : Int) else -1
set_option maxHeartbeats 800000 in
theorem scnt_any (A A' : Option Addr) (n c B n' c' B' : Nat) (p q : List Int) (w : World) (h : Arg w B A n c p) (h' : Arg w B' A' n' c' q) :
    Calls Try.prog 25 #[.slice A n c, .slice A' n' c'] w fun e w' => e = .returned (.int .i64 (numOcc p q)) ∧ Below w.heap.size w w' := by
  obtain ⟨b, hb⟩ : ∃ b, isP p = b := ⟨_, rfl⟩
  obtain ⟨b', hb'⟩ : ∃ b, isP q = b := ⟨_, rfl⟩
  have H0 := hide (sisperm_any A n c B p b hb w h.reads h.le h.cap)
  have H1 := hide (fun w' (hx : Below w.heap.size w w') => sisperm_any A' n' c' B' q b' hb' w' (h'.below hx).reads h'.le h'.cap)
  cases b with
  | false =>
    have e : numOcc p q = -1 := by unfold numOcc; rw [hb]; rfl
    rw [e]
    clear h h' hb hb' e H1
    go_enter Try.func25, Try.ntmps25
    go_wp2_with fail
    refine (unhide H0).mono ?_
    rintro e w1 ⟨rfl, hd⟩
    have hb1 := hd.below w.heap.size
    clear H0 hd
    go_wp2
    go_ret
    exact ⟨rfl, hb1⟩
  | true =>
    cases b' with
    | false =>
      have e : numOcc p q = -1 := by unfold numOcc; rw [hb, hb']; rfl
      rw [e]
      clear h h' hb hb' e
      go_enter Try.func25, Try.ntmps25
      go_wp2_with fail
      refine (unhide H0).mono ?_
      rintro e w1 ⟨rfl, hd⟩
      have hb1 := hd.below w.heap.size
      have H2 := hide (unhide H1 w1 hb1)
      clear H0 H1 hd
      go_wp2_with fail
      refine (unhide H2).mono ?_
      rintro e w2 ⟨rfl, hd2⟩
      have hb2 := hb1.trans (hd2.below _)
      clear H2 hd2 hb1
      go_wp2
      go_ret
      exact ⟨rfl, hb2⟩
    | true =>
      have e : numOcc p q = ((occR p q).length : Int) := by unfold numOcc; rw [hb, hb']; rfl
      rw [e]
      have H3 := hide (fun w' (hx : Below w.heap.size w w') => soccs_any A A' n c B n' c' B' p q w' (h.below hx) (h'.below hx))
      have hsz := occ_size p q hb
      obtain ⟨R, hR⟩ : ∃ R, occR p q = R := ⟨_, rfl⟩
      rw [hR] at H3 hsz ⊢
      clear h h' hb hb' e hR
      go_enter Try.func25, Try.ntmps25
      go_wp2_with fail
      refine (unhide H0).mono ?_
      rintro e w1 ⟨rfl, hd⟩
      have hb1 := hd.below w.heap.size
      have H2 := hide (unhide H1 w1 hb1)
      clear H0 H1 hd
      go_wp2_with fail
      refine (unhide H2).mono ?_
      rintro e w2 ⟨rfl, hd2⟩
      have hb2 := hb1.trans (hd2.below _)
      have H4 := hide (unhide H3 w2 hb2)
      clear H2 H3 hd2 hb1
      go_wp2_with fail
      refine (unhide H4).mono ?_
      rintro e w3 ⟨A3, c3, rfl, hS, hb3⟩
      have hb4 := below_after hb2 hb3
      clear H4 hS hb3
      go_wp2
      go_ret
      exact ⟨rfl, hb4⟩
def hasR (p q : List Int) : Bool := decide (1 ≤ numOcc p q)
theorem numOcc_rng (p q : List Int) : -1 ≤ numOcc p q ∧ numOcc p q ≤ 256 := by
  unfold numOcc
  by_cases h : (isP p && isP q) = true
  · rw [if_pos h]
    have := occ_size p q (by simp at h; exact h.1)
    omega
  · rw [if_neg h]; omega
end Go.Proofs.Ytcoegjhhhnfplaa
