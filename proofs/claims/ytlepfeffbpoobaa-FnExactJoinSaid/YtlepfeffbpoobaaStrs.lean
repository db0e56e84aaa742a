/-
  CONTRACTS OF THE LAWS' HELPERS OVER []string THAT ONLY READ: szStringS, eqStringS.
-/
import Derived.Test.YtlepfeffbpoobaaProg
import Derived.Test.YtlepfeffbpoobaaMem
import Derived.WalkKit
import Derived.Deep.QuietTactic
import Derived.BigQuiet
namespace Go.Proofs.Ytlepfeffbpoobaa
open Go.RowKit

def szGo : Int → List ByteArray → Int
  | l, [] => l
  | l, s :: r => if l - s.size < 0 then -1 else szGo (l - s.size) r

theorem strs_at {ss : List ByteArray} {k : Nat} {u : Value} (h : (ss.map Value.string)[k]? = some u) : ∃ s, ss[k]? = some s ∧ u = .string s := by
  rw [List.getElem?_map] at h
  cases hs : ss[k]? with
  | none => simp [hs] at h
  | some s => simp [hs] at h; exact ⟨s, rfl, h.symm⟩
theorem drop_at {α : Type} {l : List α} {k : Nat} {x : α} (h : l[k]? = some x) : l.drop k = x :: l.drop (k + 1) := by
  obtain ⟨hk, rfl⟩ := List.getElem?_eq_some_iff.1 h
  exact List.drop_eq_getElem_cons hk

theorem szGo_step {lk : Int} {ss : List ByteArray} {k : Nat} {s : ByteArray} {r : Int} (hs : ss[k]? = some s) (h : szGo lk (ss.drop k) = r) : (0 ≤ lk - s.size → szGo (lk - s.size) (ss.drop (k + 1)) = r) ∧ (lk - s.size < 0 → r = -1) := by
  rw [drop_at hs, szGo] at h
  refine ⟨fun h0 => ?_, fun h0 => ?_⟩
  · rwa [if_neg (by omega)] at h
  · rw [if_pos h0] at h; exact h.symm

set_option maxHeartbeats 400000 in
theorem sz_any (A : Option Addr) (n c B : Nat) (ss : List ByteArray) (L : Int) (w : World) (hr : Reads w B A n (ss.map Value.string)) (hn : n ≤ maxLen) (hss : ∀ s ∈ ss, s.size ≤ maxLen) (h0 : 0 ≤ L) (h1 : L ≤ 1048576) :
    Calls Try.prog 4 #[.slice A n c, .int .i64 L] w fun e w' => e = .returned (.int .i64 (if L - n < 0 then -1 else szGo (L - n) ss)) ∧ w = w' := by
  unfold maxLen at hn
  by_cases hneg : L - n < 0
  · rw [if_pos hneg]
    go_enter Try.func4, Try.ntmps4
    go_wp2
    go_ret
    exact ⟨rfl, rfl⟩
  rw [if_neg hneg]
  obtain ⟨R, hR⟩ : ∃ R, R = szGo (L - n) ss := ⟨_, rfl⟩
  rw [← hR]
  have HR := hide hR
  clear hR
  have HS := hide hss
  clear hss
  have hneg' : 0 ≤ L - n := by omega
  go_enter Try.func4, Try.ntmps4
  go_wp2
  go_loop [1, 5] (fun l i => ∃ (k : Nat) (lk : Int), k ≤ n ∧ 0 ≤ lk ∧ lk ≤ L ∧ l = .int .i64 lk ∧ i = .int .i64 k ∧ Hid (szGo lk (ss.drop k) = R)) (fun _ i => n - (intOf i).toNat)
  case atStart => exact ⟨0, _, Nat.zero_le _, hneg', by omega, rfl, rfl, by rw [unhide HR]; exact rfl⟩
  case round =>
    obtain ⟨k, lk, hk, hl0, hl1, rfl, rfl, hg⟩ := hrel
    by_cases hlt : k < n
    · obtain ⟨ad, u, rfl, _, hx, hc⟩ := hr.at_ hlt
      obtain ⟨s, hs, rfl⟩ := strs_at hx
      have hsz : s.size ≤ 9223372036854775807 := unhide HS s (List.mem_of_getElem? hs)
      have hst := hide (szGo_step hs (unhide hg))
      clear hx hg
      have hs' := hide hs
      clear hs
      go_wp2
      · go_ret
        exact ⟨ret_int ((unhide hst).2 (by assumption)).symm, rfl⟩
      · go_round
        case rel => exact ⟨k + 1, _, by omega, by omega, by omega, rfl, by go_num, (unhide hst).1 (by omega)⟩
        case measure => simp [intOf]; omega
    · obtain rfl : n = k := by omega
      have hnil : szGo lk (ss.drop n) = lk := by
        have : ss.length = n := by simpa using hr.1
        rw [List.drop_of_length_le (by omega)]; rfl
      have hN := hide hnil
      clear hnil
      go_wp2
      go_ret
      exact ⟨ret_int (by rw [← unhide hg, unhide hN]), rfl⟩

/-- eqStringS: equal lists. -/
theorem eqs_any (A A' : Option Addr) (n c n' c' B B' : Nat) (ss ts : List ByteArray) (w : World) (hr : Reads w B A n (ss.map Value.string)) (hr' : Reads w B' A' n' (ts.map Value.string))
    (hn : n ≤ maxLen) (hn' : n' ≤ maxLen) (he : ss = ts) :
    Calls Try.prog 8 #[.slice A n c, .slice A' n' c'] w fun e w' => e = .returned (.bool true) ∧ Drew w w' := by
  subst he
  unfold maxLen at hn hn'
  have e1 : ss.length = n := by simpa using hr.1
  have e2 : ss.length = n' := by simpa using hr'.1
  obtain rfl : n = n' := by omega
  clear e1 e2
  go_enter Try.func8, Try.ntmps8
  go_wp2
  go_loopw [5] (fun i wr => ∃ k : Nat, k ≤ n ∧ i = .int .i64 k ∧ Drew w wr) (fun i _ => n - (intOf i).toNat)
  case atStart => exact ⟨0, Nat.zero_le _, rfl, Drew.refl _⟩
  case round =>
    obtain ⟨k, hk, rfl, hd⟩ := hrel
    by_cases hlt : k < n
    · obtain ⟨ad, u, rfl, _, hx, hc⟩ := (hr.ofDrew hd).at_ hlt
      obtain ⟨ad', u', rfl, _, hx', hc'⟩ := (hr'.ofDrew hd).at_ hlt
      obtain ⟨s, hs, rfl⟩ := strs_at hx
      obtain ⟨s', hs', rfl⟩ := strs_at hx'
      obtain rfl : s = s' := by rw [hs] at hs'; exact Option.some.inj hs'
      clear hx hx' hs hs' hr hr'
      have HD := hide hd
      clear hd
      go_wp2
      go_quiet (fail)
      go_wp2
      go_roundw
      case rel => exact ⟨k + 1, by omega, by go_num, (unhide HD).more _⟩
      case measure => simp [intOf]; omega
    · go_wp2
      go_ret
      exact ⟨rfl, hd⟩

theorem below_set_own {B : Nat} {w w' : World} {e : TypeId} {size : Nat} {g cap n : Nat} {xs : List Value} (hb : Below B w w') (hown : w'.ownsRow B e size (.slice (some ⟨g, 0, none⟩) n cap) n xs) (j : Nat) (u : Value) : Below B w (w'.setCell ⟨g, j, none⟩ u) :=
  hb.setCell (hown.lt g rfl).1 _

theorem strInfo : (Try.prog.info? 9).map (fun i => (i.zero, i.size, i.bytes)) = some (some (.string ByteArray.empty), 1, 16) := by kernel_rfl

theorem take_set_eq {α : Type} {xs ys : List α} {k : Nat} {u : α} (h : xs.take k = ys.take k) (hu : ys[k]? = some u) (hl : k < xs.length) : (xs.set k u).take (k + 1) = ys.take (k + 1) := by
  rw [List.take_add_one, List.take_add_one, List.take_set_of_le (Nat.le_refl _), h]
  simp [hu, hl]

set_option maxHeartbeats 400000 in
/-- toStringS: a row of the call's own with the same strings. -/
theorem tos_any (A : Option Addr) (n c B : Nat) (ss : List ByteArray) (w : World) (hr : Reads w B A n (ss.map Value.string)) (hB : B ≤ w.heap.size) (hn : n ≤ 1099511627776) :
    Calls Try.prog 6 #[.slice A n c] w fun e w' => e = .returned (.slice (some ⟨w.heap.size, 0, none⟩) n n) ∧ w'.ownsRow w.heap.size 9 1 (.slice (some ⟨w.heap.size, 0, none⟩) n n) n (ss.map Value.string) ∧ Below w.heap.size w w' := by
  obtain ⟨i0, hi, hz0, hz1, hz2⟩ := info_parts strInfo
  go_enter Try.func6, Try.ntmps6
  go_wp2_with (first
    | (at_make; refine wpList_make_full _ rfl (.tmp 6) (.tmp 6) 22 rfl w.heap.size 9 i0 (.string ByteArray.empty) 1 Try.underlying22 hi hz0 hz1 _ _ _ _ n rfl rfl (by first | rfl | omega) (by first | rfl | omega) (by rw [hz2]; omega) (by unfold maxLen; omega) (Nat.le_refl _) ?_; intro w1 hown hg))
  have hb1 : Below w.heap.size w w1 := (Below.refl _ _).grown hg (Nat.le_refl _) (by simp)
  clear hg
  go_loopw [4] (fun i wr => ∃ (k : Nat) (xs : List Value), k ≤ n ∧ i = .int .i64 k ∧ Below w.heap.size w wr ∧ wr.ownsRow w.heap.size 9 1 (.slice (some ⟨w.heap.size, 0, none⟩) n n) n xs ∧ Hid (xs.take k = (ss.map Value.string).take k)) (fun i _ => n - (intOf i).toNat)
  case atStart => exact ⟨0, _, Nat.zero_le _, rfl, hb1, hown, by exact rfl⟩
  case round =>
    obtain ⟨k, xs, hk, rfl, hb, hown', hx⟩ := hrel
    clear hown hb1
    by_cases hlt : k < n
    · obtain ⟨ad, u, rfl, had, hu, hc⟩ := ((hr.more hB).below hb).at_ hlt
      obtain ⟨s, hs, rfl⟩ := strs_at hu
      have hl : xs.length = n := by simpa using hown'.1
      obtain ⟨old, hold⟩ : ∃ old, wr.cell? ⟨w.heap.size, k, none⟩ = some old := ⟨_, by rw [hown'.cellAt k (by omega)]; exact List.getElem?_eq_getElem (by omega)⟩
      have hfz := hown'.frozenAt k
      have hst := hide (take_set_eq (unhide hx) hu (by omega))
      have ho2 := (hown'.stored k (.string s)).1
      have hb2 := below_set_own hb hown' k (.string s)
      have hkn : k + 1 ≤ n := by omega
      clear hx hu hs hown' hb hl
      go_wp2
      go_roundw
      case rel => exact ⟨k + 1, _, hkn, by go_num, hb2, ho2, hst⟩
      case measure => simp [intOf]; omega
    · obtain rfl : n = k := by omega
      have hlx : xs.length = n := by simpa using hown'.1
      have hlr := hr.1
      have : xs = ss.map Value.string := by
        have h := unhide hx
        rwa [List.take_of_length_le (by omega), List.take_of_length_le (by omega)] at h
      subst this
      clear hx hlx hlr
      go_wp2
      go_ret
      exact ⟨rfl, hown', hb⟩
end Go.Proofs.Ytlepfeffbpoobaa
