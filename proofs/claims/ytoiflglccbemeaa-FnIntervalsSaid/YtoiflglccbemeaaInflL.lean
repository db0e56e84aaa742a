
/-
  PLAIN: an inflation is a permutation, and its parts are intervals of it; a closure is an interval around both places.
-/
import Derived.Test.YtoiflglccbemeaaInflM
import Derived.Test.YtoiflglccbemeaaCloM
namespace Go.Proofs.Ytoiflglccbemeaa
set_option maxRecDepth 100000

theorem baseK_room {p : List Int} {l : List (List Int)} {i : Nat} {v : Int} {z : List Int} (hv : p[i]? = some v) (hz : l[i]? = some z) : ∀ k, i < k → baseK p l v k + z.length ≤ tot (l.take k)
  | 0, h => absurd h (by omega)
  | k + 1, h => by
    by_cases hi : i = k
    · subst hi
      rw [baseK_no hv (by omega), tot_step hz]
      have := baseK_tot p l v i
      omega
    · have ih := baseK_room hv hz k (by omega)
      rw [baseK]
      cases hk : l[k]? with
      | none => rw [List.take_add_one, hk]; simp; omega
      | some y =>
        have := tot_step hk
        simp only [Option.getD_some]
        split <;> omega
theorem baseK_up {p : List Int} {l : List (List Int)} {i : Nat} {v v' : Int} {z : List Int} (hv : p[i]? = some v) (hz : l[i]? = some z) (hlt : v < v') : ∀ k, (i < k → baseK p l v k + z.length ≤ baseK p l v' k) ∧ baseK p l v k ≤ baseK p l v' k
  | 0 => ⟨fun h => absurd h (by omega), Nat.le_refl _⟩
  | k + 1 => by
    obtain ⟨h1, h2⟩ := baseK_up hv hz hlt k
    by_cases hi : i = k
    · subst hi
      rw [baseK_no (l := l) hv (by omega), baseK_yes hv hz hlt]
      exact ⟨fun _ => by omega, by omega⟩
    · rw [baseK, baseK]
      have h3 : (if at0 p k < v then ((l[k]?).getD []).length else 0) ≤ (if at0 p k < v' then ((l[k]?).getD []).length else 0) := by
        by_cases h4 : at0 p k < v
        · rw [if_pos h4, if_pos (by omega)]; exact Nat.le_refl _
        · rw [if_neg h4]; exact Nat.zero_le _
      refine ⟨fun h => ?_, by omega⟩
      have := h1 (by omega)
      omega
theorem mem_inflK {p : List Int} {l : List (List Int)} {x : Int} (hl : l.length = p.length) : ∀ k, k ≤ p.length → x ∈ inflK p l k → ∃ i v z y, i < k ∧ p[i]? = some v ∧ l[i]? = some z ∧ y ∈ z ∧ x = y + (baseK p l v p.length : Int)
  | 0, _, h => by simp [inflK] at h
  | k + 1, hk, h => by
    have hv := at0_some (l := p) (k := k) (by omega)
    have hz : l[k]? = some (l[k]'(by omega)) := List.getElem?_eq_getElem _
    rw [inflK_step hv hz] at h
    rcases List.mem_append.1 h with h | h
    · obtain ⟨i, v, z, y, h1, h2⟩ := mem_inflK hl k (by omega) h
      exact ⟨i, v, z, y, by omega, h2⟩
    · obtain ⟨y, hy, rfl⟩ := List.mem_map.1 h
      exact ⟨k, _, _, y, by omega, hv, hz, hy, rfl⟩
section
variable {p : List Int} {l : List (List Int)} (h : inflOK p l = true)
include h
theorem infl_nodup : ∀ k, k ≤ p.length → (inflK p l k).Nodup := fun k => by
  obtain ⟨hp, hl, hall, _, _⟩ := inflOK_all h
  induction k with
  | zero => intro _; simp [inflK]
  | succ k ih =>
    intro hk
    have hv := at0_some (l := p) (k := k) (by omega)
    have hz : l[k]? = some (l[k]'(by omega)) := List.getElem?_eq_getElem _
    have hzP := allP_at hall (List.mem_of_getElem? hz)
    rw [inflK_step hv hz]
    refine List.nodup_append.2 ⟨ih (by omega), nodup_map (fun a _ b _ e => by omega) (isP_nodup hzP), fun a ha b hb e => ?_⟩
    obtain ⟨i, v, z, y, h1, h2, h3, h4, rfl⟩ := mem_inflK hl k (by omega) ha
    obtain ⟨y', hy', rfl⟩ := List.mem_map.1 hb
    have hzi := allP_at hall (List.mem_of_getElem? h3)
    have r1 := (isP_true.1 hzi).2.1 y h4
    have r2 := (isP_true.1 hzP).2.1 y' hy'
    have hne : v ≠ at0 p k := fun e => by
      subst e
      have := isP_same hp h2 hv
      omega
    by_cases hlt : v < at0 p k
    · have := (baseK_up h2 h3 hlt p.length).1 (by omega)
      omega
    · have := (baseK_up hv hz (show at0 p k < v by omega) p.length).1 (by omega)
      omega
theorem infl_isP : isP (inflR p l) = true := by
  obtain ⟨hp, hl, hall, _, h8⟩ := inflOK_all h
  have hlen : (inflK p l p.length).length = tot l := by rw [inflK_length, List.take_of_length_le (by omega)]
  rw [inflR_yes h]
  refine isP_true.2 ⟨by omega, fun x hx => ?_, infl_nodup h _ (Nat.le_refl _)⟩
  obtain ⟨i, v, z, y, h1, h2, h3, h4, rfl⟩ := mem_inflK hl _ (Nat.le_refl _) hx
  have r1 := (isP_true.1 (allP_at hall (List.mem_of_getElem? h3))).2.1 y h4
  have r2 := baseK_room h2 h3 p.length h1
  rw [List.take_of_length_le (by omega)] at r2
  rw [hlen]
  omega
end
theorem inflK_more (p : List Int) (l : List (List Int)) (k : Nat) : ∀ j, ∃ r, inflK p l (k + j) = inflK p l k ++ r
  | 0 => ⟨[], by simp⟩
  | j + 1 => by
    obtain ⟨r, hr⟩ := inflK_more p l k j
    rw [← Nat.add_assoc, inflK, hr, List.append_assoc]
    exact ⟨_, rfl⟩
theorem infl_part {p : List Int} {l : List (List Int)} (h : inflOK p l = true) {k : Nat} {z : List Int} (hz : l[k]? = some z) : isIv (inflR p l) ((tot (l.take k) : Int) + 1) ((tot (l.take k) : Int) + (z.length : Int)) = true := by
  have hP := infl_isP h
  obtain ⟨hp, hl, hall, hnn, h8⟩ := inflOK_all h
  have hkl : k < l.length := (List.getElem?_eq_some_iff.1 hz).1
  have hv := at0_some (l := p) (k := k) (by omega)
  have hzP := allP_at hall (List.mem_of_getElem? hz)
  have hm0 := noNil_at hnn (List.mem_of_getElem? hz)
  have hts := tot_step hz
  have htt := tot_take l (k + 1)
  have hlen : (inflK p l p.length).length = tot l := by rw [inflK_length, List.take_of_length_le (by omega)]
  have hroom := baseK_room hv hz p.length (by omega)
  rw [List.take_of_length_le (by omega)] at hroom
  rw [inflR_yes h] at hP ⊢
  have e := isIv_at (p := inflK p l p.length) (a := tot (l.take k)) (k := z.length - 1) hP (by omega)
  rw [show ((tot (l.take k) : Nat) : Int) + (z.length : Int) = (tot (l.take k) : Int) + 1 + ((z.length - 1 : Nat) : Int) by omega, e]
  obtain ⟨r, hr⟩ := inflK_more p l (k + 1) (p.length - (k + 1))
  rw [show k + 1 + (p.length - (k + 1)) = p.length by omega, inflK_step hv hz] at hr
  have hseg : seg (inflK p l p.length) (tot (l.take k)) z.length = z.map (fun v => v + (baseK p l (at0 p k) p.length : Int)) := by
    unfold seg
    rw [hr, List.append_assoc, ← inflK_length p l k, List.drop_left, ← List.length_map (f := fun v => v + (baseK p l (at0 p k) p.length : Int)), List.take_left]
  obtain ⟨b, hb⟩ : ∃ b, b = baseK p l (at0 p k) p.length := ⟨_, rfl⟩
  rw [← hb] at hseg hroom
  rw [iv_true, show z.length - 1 + 1 = z.length by omega, hseg]
  have i1 : (1 : Int) + (b : Int) ∈ z.map (fun v => v + (b : Int)) := List.mem_map.2 ⟨1, isP_has hzP (by omega) (by omega), rfl⟩
  have i2 : (z.length : Int) + (b : Int) ∈ z.map (fun v => v + (b : Int)) := List.mem_map.2 ⟨_, isP_has hzP (by omega) (Int.le_refl _), rfl⟩
  have l1 := (lo_le (z.map (fun v => v + (b : Int)))).1 _ i1
  have l2 := (le_hi (z.map (fun v => v + (b : Int)))).1 _ i2
  have l3 := le_lo (l := z.map (fun v => v + (b : Int))) (m := 1 + (b : Int)) (by omega) fun x hx => by
    obtain ⟨y, hy, rfl⟩ := List.mem_map.1 hx
    have := (isP_true.1 hzP).2.1 y hy
    omega
  have l4 := hi_le (l := z.map (fun v => v + (b : Int))) (m := (z.length : Int) + (b : Int)) (by omega) fun x hx => by
    obtain ⟨y, hy, rfl⟩ := List.mem_map.1 hx
    have := (isP_true.1 hzP).2.1 y hy
    omega
  omega

theorem clo_exists {p : List Int} {x y : Int} (hp : isP p = true) : ∀ (m a b : Nat), p.length - (b - a) ≤ m → CInv p x y a b → ∃ a1 b1, CInv p x y a1 b1 ∧ iv p a1 (b1 - a1) = true
  | 0, a, b, hm, h => by
    have h1 : b < p.length := h.1.2.2.2
    exact absurd hm (by omega)
  | m + 1, a, b, hm, h => by
    have h0 := h.1.2.2
    cases hv : iv p a (b - a) with
    | true => exact ⟨a, b, h, hv⟩
    | false =>
      by_cases hall : ∀ (c : Nat) v, p[c]? = some v → lo (seg p a (b - a + 1)) ≤ v → v ≤ hi (seg p a (b - a + 1)) → a ≤ c ∧ c ≤ b
      · exact absurd (run_lacks hp h0.1 h0.2 hv (Nat.le_refl a) (Nat.le_refl b) hall) (by omega)
      · simp only [Classical.not_forall] at hall
        obtain ⟨c, v, hc, h1, h2, h3⟩ := hall
        have hcl : c < p.length := (List.getElem?_eq_some_iff.1 hc).1
        exact clo_exists hp m (min a c) (max b c) (by omega) (h.widen hcl (h.holds hp hc h1 h2))
theorem clo_around {p : List Int} {f t : Int} (h : cloOK p f t = true) : ∃ F L : Int, cloR p f t = [F, L] ∧ isIv p F L = true ∧ F ≤ f ∧ F ≤ t ∧ f ≤ L ∧ t ≤ L ∧ 1 ≤ F ∧ L ≤ 8 := by
  obtain ⟨hp, ⟨f1, f2⟩, t1, t2⟩ := cloOK_all h
  have h8 := isP_le hp
  obtain ⟨a, b, hI, hv⟩ := clo_exists (x := min f t) (y := max f t) hp p.length _ _ (by omega) (CInv.start (p := p) (by omega) (by omega) (by omega))
  have hd := hI.done hv
  obtain ⟨h1, h2, h3, h4⟩ := hI.1
  refine ⟨(a : Int) + 1, (b : Int) + 1, by rw [cloR_yes h, hd]; rfl, ?_, by omega, by omega, by omega, by omega, by omega, by omega⟩
  rw [isIv_mem, hp, Bool.true_and]
  exact decide_eq_true (mem_ivL.2 ⟨a, b - a, by omega, by rw [Prod.mk.injEq]; omega, hv⟩)
theorem simple_count {p : List Int} (h : simpleP p = true) : cntR p = (p.length : Int) + 1 ∨ p.length = 1 := by
  simp only [simpleP, Bool.and_eq_true, decide_eq_true_eq] at h
  have e := cntR_sum h.1.1
  rw [h.2] at e
  by_cases h1 : 1 < p.length
  · rw [if_pos h1] at e; left; omega
  · right; omega
end Go.Proofs.Ytoiflglccbemeaa
