
/-
  PLAIN: a permutation is parsed from its text, is undone by its inverse, is its own pattern.
-/
import Derived.Test.YtkjjjnkgkgdfkaaSymG
import Derived.Test.YtkjjjnkgkgdfkaaPermT
namespace Go.Proofs.Ytkjjjnkgkgdfkaa

theorem comp_inv {p : List Int} (h : isP p = true) : compOK p (invL p) = true ∧ compR p (invL p) = upTo p.length := by
  have hok := compOK_yes h (invL_isP h) (invL_length p).symm
  refine ⟨hok, ?_⟩
  rw [compR_yes hok, invL_length]
  refine List.ext_getElem? fun j => ?_
  by_cases hj : j < p.length
  · obtain ⟨i, hi, h1, h2⟩ := invL_get h hj
    rw [compL_at hj h2 (y := (j : Int) + 1) (by rw [show ((i : Int) + 1).toNat - 1 = i by omega]; exact h1)]
    unfold upTo
    rw [List.getElem?_map, List.getElem?_range hj]
    rfl
  · rw [List.getElem?_eq_none (by rw [compL_length]; omega), List.getElem?_eq_none (by rw [upTo_length]; omega)]
theorem invR_inv {p : List Int} (h : isP p = true) : invR p = invL p := by rw [invR_yes h]; rfl
theorem pat_self {p : List Int} (h : isP p = true) : patOK p = true ∧ patR p = p := by
  have hok := patOK_yes (isP_le h) (isP_true.1 h).2.2
  refine ⟨hok, ?_⟩
  rw [patR_yes hok]
  unfold patL
  refine (List.map_congr_left fun v hv => ?_).trans (List.map_id _)
  have := cnt_isP h hv
  simp only [id]; omega
theorem nums_text {p : List Int} (h : isP p = true) : nums ⟨(textL p).toArray⟩ = p := by
  unfold nums textL
  rw [List.map_map]
  refine (List.map_congr_left fun z hz => ?_).trans (List.map_id _)
  have hr := (isP_true.1 h).2.1 z hz
  have h8 := isP_le h
  simp only [Function.comp, id, dgt]
  rw [UInt8.toNat_ofNat']
  omega
theorem pp_text (p : List Int) : ppOK (ptext p) = isP p ∧ (isP p = true → ppR (ptext p) = p) := by
  cases h : isP p with
  | false =>
    rw [ptext_no h]
    refine ⟨?_, fun e => by cases e⟩
    exact ppOK_none (by decide) rfl
  | true =>
    by_cases h0 : p.length = 0
    · rw [ptext_nil h h0, List.eq_nil_of_length_eq_zero h0]
      exact ⟨ppOK_dash, fun _ => ppR_dash⟩
    · have hn := nums_text h
      rw [ptext_yes h h0]
      have hne : (⟨(textL p).toArray⟩ : ByteArray) ≠ ⟨#[45]⟩ := fun e => by
        rw [e] at hn
        have h1 : p = [-3] := by rw [← hn]; decide
        rw [h1] at h
        revert h
        decide
      have hsz : 0 < (⟨(textL p).toArray⟩ : ByteArray).size := by
        rw [← nums_length, hn]; omega
      have hok : ppOK ⟨(textL p).toArray⟩ = true := by rw [ppOK_else hne hsz, hn, h]
      exact ⟨hok, fun _ => by rw [ppR_yes hne hok, hn]⟩
theorem ptext_size (p : List Int) : (ptext p).size ≤ 8 := by
  cases h : isP p with
  | false => rw [ptext_no h]; decide
  | true =>
    by_cases h0 : p.length = 0
    · rw [ptext_nil h h0]; decide
    · rw [ptext_yes h h0]
      show (textL p).toArray.size ≤ 8
      rw [List.size_toArray, textL_length]
      exact isP_le h
end Go.Proofs.Ytkjjjnkgkgdfkaa
