/-
  CONTRACTS OF THE LAWS' HELPERS OVER []string THAT ONLY READ: szStringS, eqStringS.
-/
import Derived.Test.YtlepfeffbpoobaaDoorProg
import Derived.Test.YtlepfeffbpoobaaDoorMem
import Derived.WalkKit
import Derived.Deep.QuietTactic
import Derived.BigQuiet
namespace Go.Proofs.YtlepfeffbpoobaaDoor
open Go.RowKit

def szGo : Int → List ByteArray → Int
  | l, [] => l
  | l, s :: r => if l - s.size < 0 then -1 else szGo (l - s.size) r

theorem strs_at {ss : List ByteArray} {k : Nat} {u : Value} (h : (ss.map Value.string)[k]? = some u) : ∃ s, ss[k]? = some s ∧ u = .string s := by
  rw [List.getElem?_map] at h
  cases hs : ss[k]? with
  | none => simp [hs] at h
  | some s => simp [hs] at h; exact ⟨s, rfl, h.symm⟩
theorem drop_at {α : Type} {l : List α} {k : Nat} {x : α} (h : l[k]? = some x) : l.drop k = x :: l.drop (k + 1) := by
  obtain ⟨hk, rfl⟩ := List.getElem?_eq_some_iff.1 h
  exact List.drop_eq_getElem_cons hk

/-- eqStringS: equal lists. -/
theorem eqs_any (A A' : Option Addr) (n c n' c' B B' : Nat) (ss ts : List ByteArray) (w : World) (hr : Reads w B A n (ss.map Value.string)) (hr' : Reads w B' A' n' (ts.map Value.string))
    (hn : n ≤ maxLen) (hn' : n' ≤ maxLen) (he : ss = ts) :
    Calls Tryd.prog 22 #[.slice A n c, .slice A' n' c'] w fun e w' => e = .returned (.bool true) ∧ Drew w w' := by
  subst he
  unfold maxLen at hn hn'
  have e1 : ss.length = n := by simpa using hr.1
  have e2 : ss.length = n' := by simpa using hr'.1
  obtain rfl : n = n' := by omega
  clear e1 e2
  go_enter Tryd.func22, Tryd.ntmps22
  go_wp2
  go_loopw [5] (fun i wr => ∃ k : Nat, k ≤ n ∧ i = .int .i64 k ∧ Drew w wr) (fun i _ => n - (intOf i).toNat)
  case atStart => exact ⟨0, Nat.zero_le _, rfl, Drew.refl _⟩
  case round =>
    obtain ⟨k, hk, rfl, hd⟩ := hrel
    by_cases hlt : k < n
    · obtain ⟨ad, u, rfl, _, hx, hc⟩ := (hr.ofDrew hd).at_ hlt
      obtain ⟨ad', u', rfl, _, hx', hc'⟩ := (hr'.ofDrew hd).at_ hlt
      obtain ⟨s, hs, rfl⟩ := strs_at hx
      obtain ⟨s', hs', rfl⟩ := strs_at hx'
      obtain rfl : s = s' := by rw [hs] at hs'; exact Option.some.inj hs'
      clear hx hx' hs hs' hr hr'
      have HD := hide hd
      clear hd
      go_wp2
      go_quiet (fail)
      go_wp2
      go_roundw
      case rel => exact ⟨k + 1, by omega, by go_num, (unhide HD).more _⟩
      case measure => simp [intOf]; omega
    · go_wp2
      go_ret
      exact ⟨rfl, hd⟩

theorem below_set_own {B : Nat} {w w' : World} {e : TypeId} {size : Nat} {g cap n : Nat} {xs : List Value} (hb : Below B w w') (hown : w'.ownsRow B e size (.slice (some ⟨g, 0, none⟩) n cap) n xs) (j : Nat) (u : Value) : Below B w (w'.setCell ⟨g, j, none⟩ u) :=
  hb.setCell (hown.lt g rfl).1 _

theorem strInfo : (Tryd.prog.info? 9).map (fun i => (i.zero, i.size, i.bytes)) = some (some (.string ByteArray.empty), 1, 16) := by kernel_rfl

theorem take_set_eq {α : Type} {xs ys : List α} {k : Nat} {u : α} (h : xs.take k = ys.take k) (hu : ys[k]? = some u) (hl : k < xs.length) : (xs.set k u).take (k + 1) = ys.take (k + 1) := by
  rw [List.take_add_one, List.take_add_one, List.take_set_of_le (Nat.le_refl _), h]
  simp [hu, hl]

end Go.Proofs.YtlepfeffbpoobaaDoor
