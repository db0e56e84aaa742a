/-
  impl.Join at a row of the call's own, by its contract: the library's Join.
-/
import Derived.Test.YtlepfeffbpoobaaDoorStrs
import Derived.Test.YtlepfeffbpoobaaDoorShelfJ
import Derived.Lib.Join
namespace Go.Proofs.YtlepfeffbpoobaaDoor
open Go.RowKit

theorem ijoin_row (g n c : Nat) (ss : List ByteArray) (sep : ByteArray) (w : World) (base : Nat) (hown : w.ownsRow base 9 1 (.slice (some ⟨g, 0, none⟩) n c) n (ss.map Value.string)) (hn : n ≤ 1099511627776) (hc : n ≤ c)
    (hlen : (Lib.join (ss.map (·.data.toList)) sep.data.toList).length ≤ 4398046511104) :
    Calls Tryd.prog 19 #[.slice (some ⟨g, 0, none⟩) n c, .string sep] w fun e w' => e = .returned (.string ⟨(Lib.join (ss.map (·.data.toList)) sep.data.toList).toArray⟩) ∧ Below w.heap.size w w' := by
  have hl : ss.length = n := by simpa using hown.1
  subst hl
  have hcells : ∀ (j : Nat) x, ss[j]? = some x → w.cell? ⟨g, 0 + j, none⟩ = some (.string x) := fun j x hx => by
    have := hown.cells (g := g) rfl j (.string x) (by rw [List.getElem?_map, hx]; rfl)
    rw [← this]
    congr 1
    unfold Addr.add
    split <;> simp_all
  have H := hide (Tryd.strings_Join g 0 c ss sep w hcells (hown.lt g rfl).2 (by omega) hc (by omega))
  clear hcells hown hlen hn hc
  go_enter Tryd.func19, Tryd.ntmps19
  go_wp2_with fail
  refine (unhide H).mono ?_
  rintro e w' ⟨rfl, hb⟩
  clear H
  go_wp2
  go_ret
  exact ⟨rfl, hb⟩
theorem own_cap {w : World} {base n c g : Nat} {xs : List Value} {e : TypeId} (h : w.ownsRow base e 1 (.slice (some ⟨g, 0, none⟩) n c) n xs) : n ≤ c := by
  rcases h.2 with ⟨h0, _⟩ | ⟨g', cap, cur, hv, _, _, hnc, _⟩
  · cases h0
  · injection hv with _ _ h3
    omega
theorem own_head {w : World} {base n : Nat} {v : Value} {xs : List Value} {e : TypeId} (h : w.ownsRow base e 1 v n xs) (hn : 0 < n) : ∃ g c, v = .slice (some ⟨g, 0, none⟩) n c := by
  rcases h.2 with ⟨_, h0⟩ | ⟨g, cap, cur, rfl, _⟩
  · omega
  · exact ⟨g, cap, rfl⟩
end Go.Proofs.YtlepfeffbpoobaaDoor
