
/-
  PLAIN: inflations. Nothing here speaks of the program.
-/
import Derived.Test.YtoiflglccbemeaaIvM
namespace Go.Proofs.Ytoiflglccbemeaa
set_option maxRecDepth 100000

/-- How many numbers the first k elements at places with lesser numbers than v have. -/
def baseK (p : List Int) (l : List (List Int)) (v : Int) : Nat → Nat
  | 0 => 0
  | k + 1 => baseK p l v k + (if at0 p k < v then ((l[k]?).getD []).length else 0)
theorem baseK_yes {p : List Int} {l : List (List Int)} {v x : Int} {k : Nat} {z : List Int} (hx : p[k]? = some x) (hz : l[k]? = some z) (h : x < v) : baseK p l v (k + 1) = baseK p l v k + z.length := by
  rw [baseK, at0_of hx, hz, if_pos h]; rfl
theorem baseK_no {p : List Int} {l : List (List Int)} {v x : Int} {k : Nat} (hx : p[k]? = some x) (h : ¬ x < v) : baseK p l v (k + 1) = baseK p l v k := by
  rw [baseK, at0_of hx, if_neg h]; rfl
theorem baseK_le (p : List Int) (l : List (List Int)) (v : Int) (m : Nat) (h : ∀ z ∈ l, z.length ≤ m) : ∀ k, baseK p l v k ≤ k * m
  | 0 => by simp [baseK]
  | k + 1 => by
    have ih := baseK_le p l v m h k
    have h1 : ((l[k]?).getD []).length ≤ m := by
      cases hz : l[k]? with
      | none => simp
      | some z => exact h z (List.mem_of_getElem? hz)
    rw [baseK, Nat.add_mul]
    split <;> omega
theorem baseK_tot (p : List Int) (l : List (List Int)) (v : Int) : ∀ k, baseK p l v k ≤ tot (l.take k)
  | 0 => by simp [baseK, tot]
  | k + 1 => by
    have ih := baseK_tot p l v k
    rw [baseK]
    cases hz : l[k]? with
    | none => rw [List.take_add_one, hz]; simp; omega
    | some z =>
      have := tot_step hz
      simp only [Option.getD_some]
      split <;> omega
/-- The inflation, its first k elements. -/
def inflK (p : List Int) (l : List (List Int)) : Nat → List Int
  | 0 => []
  | k + 1 => inflK p l k ++ ((l[k]?).getD []).map (fun v => v + (baseK p l (at0 p k) p.length : Int))
theorem inflK_step {p : List Int} {l : List (List Int)} {k : Nat} {x : Int} {z : List Int} (hx : p[k]? = some x) (hz : l[k]? = some z) : inflK p l (k + 1) = inflK p l k ++ z.map (fun v => v + (baseK p l x p.length : Int)) := by
  rw [inflK, at0_of hx, hz]; rfl
theorem inflK_length (p : List Int) (l : List (List Int)) : ∀ k, (inflK p l k).length = tot (l.take k)
  | 0 => by simp [inflK, tot]
  | k + 1 => by
    rw [inflK, List.length_append, inflK_length p l k, List.length_map]
    cases hz : l[k]? with
    | none => rw [List.take_add_one, hz]; simp
    | some z => rw [tot_step hz]; rfl
def noNil (l : List (List Int)) : Bool := l.all fun z => decide (z.length ≠ 0)
theorem noNil_no {l : List (List Int)} {z : List Int} (h : z ∈ l) (hz : z.length = 0) : noNil l = false := by
  unfold noNil
  rw [List.all_eq_false]
  exact ⟨z, h, by simp [hz]⟩
theorem noNil_at {l : List (List Int)} {z : List Int} (h : noNil l = true) (hz : z ∈ l) : z.length ≠ 0 := by
  unfold noNil at h
  rw [List.all_eq_true] at h
  simpa using h z hz
theorem noNil_yes {l : List (List Int)} (h : ∀ z ∈ l, z.length ≠ 0) : noNil l = true := by
  unfold noNil
  rw [List.all_eq_true]
  exact fun z hz => by simpa using h z hz
def inflOK (p : List Int) (l : List (List Int)) : Bool := isP p && decide (l.length = p.length) && allP l && noNil l && decide (tot l ≤ 8)
def inflR (p : List Int) (l : List (List Int)) : List Int := if inflOK p l then inflK p l p.length else []
theorem inflR_yes {p : List Int} {l : List (List Int)} (h : inflOK p l = true) : inflR p l = inflK p l p.length := by unfold inflR; rw [if_pos h]
theorem inflR_no {p : List Int} {l : List (List Int)} (h : inflOK p l = false) : inflR p l = [] := by unfold inflR; rw [if_neg (by simp [h])]
theorem inflOK_all {p : List Int} {l : List (List Int)} (h : inflOK p l = true) : isP p = true ∧ l.length = p.length ∧ allP l = true ∧ noNil l = true ∧ tot l ≤ 8 := by
  simpa [inflOK, and_assoc] using h
theorem inflOK_no1 {p : List Int} {l : List (List Int)} (h : isP p = false) : inflOK p l = false := by simp [inflOK, h]
theorem inflOK_no2 {p : List Int} {l : List (List Int)} (h : l.length ≠ p.length) : inflOK p l = false := by simp [inflOK, h]
theorem inflOK_no3 {p : List Int} {l : List (List Int)} (h : allP l = false) : inflOK p l = false := by simp [inflOK, h]
theorem inflOK_no4 {p : List Int} {l : List (List Int)} (h : noNil l = false) : inflOK p l = false := by simp [inflOK, h]
theorem inflOK_no5 {p : List Int} {l : List (List Int)} (h : ¬ tot l ≤ 8) : inflOK p l = false := by simp [inflOK, h]
theorem inflOK_yes {p : List Int} {l : List (List Int)} (h1 : isP p = true) (h2 : l.length = p.length) (h3 : allP l = true) (h4 : noNil l = true) (h5 : tot l ≤ 8) : inflOK p l = true := by simp [inflOK, h1, h2, h3, h4, h5]
theorem inflR_le (p : List Int) (l : List (List Int)) : (inflR p l).length ≤ 8 := by
  cases h : inflOK p l with
  | true =>
    obtain ⟨_, h2, _, _, h5⟩ := inflOK_all h
    rw [inflR_yes h, inflK_length, List.take_of_length_le (by omega)]
    exact h5
  | false => rw [inflR_no h]; simp
end Go.Proofs.Ytoiflglccbemeaa
