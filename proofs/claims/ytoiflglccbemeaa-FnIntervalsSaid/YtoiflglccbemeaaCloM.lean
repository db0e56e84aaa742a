
/-
  PLAIN: the closure of two places. Nothing here speaks of the program.
-/
import Derived.Test.YtoiflglccbemeaaIvM
namespace Go.Proofs.Ytoiflglccbemeaa
set_option maxRecDepth 100000

/-- What two intervals share, if the second one has both places. -/
def cloStep (x y : Int) (c q : Int × Int) : Int × Int := if q.1 ≤ x ∧ y ≤ q.2 then (max c.1 q.1, min c.2 q.2) else c
def cloF (p : List Int) (x y : Int) (k : Nat) : Int × Int := ((ivL p).take k).foldl (cloStep x y) (1, (p.length : Int))
def cloOK (p : List Int) (f t : Int) : Bool := isP p && decide (1 ≤ f ∧ f ≤ (p.length : Int)) && decide (1 ≤ t ∧ t ≤ (p.length : Int))
def cloR (p : List Int) (f t : Int) : List Int := if cloOK p f t then two (cloF p (min f t) (max f t) (ivL p).length) else []
theorem cloR_yes {p : List Int} {f t : Int} (h : cloOK p f t = true) : cloR p f t = two (cloF p (min f t) (max f t) (ivL p).length) := by unfold cloR; rw [if_pos h]
theorem cloR_no {p : List Int} {f t : Int} (h : cloOK p f t = false) : cloR p f t = [] := by unfold cloR; rw [if_neg (by simp [h])]
theorem cloR_le (p : List Int) (f t : Int) : (cloR p f t).length ≤ 2 := by
  cases h : cloOK p f t with
  | true => rw [cloR_yes h]; simp [two]
  | false => rw [cloR_no h]; simp
theorem cloOK_all {p : List Int} {f t : Int} (h : cloOK p f t = true) : isP p = true ∧ (1 ≤ f ∧ f ≤ (p.length : Int)) ∧ (1 ≤ t ∧ t ≤ (p.length : Int)) := by
  simp only [cloOK, Bool.and_eq_true, decide_eq_true_eq] at h
  exact ⟨h.1.1, h.1.2, h.2⟩
theorem cloOK_no1 {p : List Int} {f t : Int} (h : isP p = false) : cloOK p f t = false := by simp [cloOK, h]
theorem cloOK_no2 {p : List Int} {f t : Int} (h : ¬ (1 ≤ f ∧ f ≤ (p.length : Int))) : cloOK p f t = false := by
  unfold cloOK; rw [show decide (1 ≤ f ∧ f ≤ (p.length : Int)) = false from decide_eq_false h]; simp
theorem cloOK_no3 {p : List Int} {f t : Int} (h : ¬ (1 ≤ t ∧ t ≤ (p.length : Int))) : cloOK p f t = false := by
  unfold cloOK; rw [show decide (1 ≤ t ∧ t ≤ (p.length : Int)) = false from decide_eq_false h]; simp
theorem cloOK_yes {p : List Int} {f t : Int} (h1 : isP p = true) (h2 : 1 ≤ f ∧ f ≤ (p.length : Int)) (h3 : 1 ≤ t ∧ t ≤ (p.length : Int)) : cloOK p f t = true := by
  simp [cloOK, h1, h2, h3]
theorem cloF_zero (p : List Int) (x y : Int) : cloF p x y 0 = (1, (p.length : Int)) := by simp [cloF]
theorem cloF_step {p : List Int} {x y : Int} {k : Nat} {q : Int × Int} (h : (ivL p)[k]? = some q) : cloF p x y (k + 1) = cloStep x y (cloF p x y k) q := by
  unfold cloF
  rw [List.take_add_one, h]
  simp
theorem fold_clo (x y M N : Int) : ∀ (l : List (Int × Int)) (c : Int × Int), c.1 ≤ M → N ≤ c.2 → (∀ q ∈ l, q.1 ≤ x → y ≤ q.2 → q.1 ≤ M ∧ N ≤ q.2) →
    c.1 ≤ (l.foldl (cloStep x y) c).1 ∧ (l.foldl (cloStep x y) c).1 ≤ M ∧ N ≤ (l.foldl (cloStep x y) c).2 ∧ (l.foldl (cloStep x y) c).2 ≤ c.2 ∧
      ∀ q ∈ l, q.1 ≤ x → y ≤ q.2 → q.1 ≤ (l.foldl (cloStep x y) c).1 ∧ (l.foldl (cloStep x y) c).2 ≤ q.2
  | [], c, h1, h2, _ => ⟨Int.le_refl _, h1, h2, Int.le_refl _, fun q hq => by simp at hq⟩
  | q :: l, c, h1, h2, h => by
    rw [List.foldl_cons]
    have hl : ∀ q ∈ l, q.1 ≤ x → y ≤ q.2 → q.1 ≤ M ∧ N ≤ q.2 := fun r hr => h r (by simp [hr])
    by_cases hc : q.1 ≤ x ∧ y ≤ q.2
    · have hq := h q (by simp) hc.1 hc.2
      have e : cloStep x y c q = (max c.1 q.1, min c.2 q.2) := by unfold cloStep; rw [if_pos hc]
      have ih := fold_clo x y M N l (cloStep x y c q) (by rw [e]; simp only; omega) (by rw [e]; simp only; omega) hl
      rw [e] at ih ⊢
      simp only at ih
      refine ⟨by omega, ih.2.1, ih.2.2.1, by omega, fun r hr h1 h2 => ?_⟩
      rcases List.mem_cons.1 hr with rfl | hr
      · omega
      · exact ih.2.2.2.2 r hr h1 h2
    · have e : cloStep x y c q = c := by unfold cloStep; rw [if_neg hc]
      have ih := fold_clo x y M N l c h1 h2 hl
      rw [e]
      refine ⟨ih.1, ih.2.1, ih.2.2.1, ih.2.2.2.1, fun r hr h1 h2 => ?_⟩
      rcases List.mem_cons.1 hr with rfl | hr
      · exact absurd ⟨h1, h2⟩ hc
      · exact ih.2.2.2.2 r hr h1 h2
theorem cloF_bnd (p : List Int) (x y : Int) (k : Nat) : 1 ≤ (cloF p x y k).1 ∧ (cloF p x y k).2 ≤ (p.length : Int) := by
  have : ∀ (l : List (Int × Int)) (c : Int × Int), c.1 ≤ (l.foldl (cloStep x y) c).1 ∧ (l.foldl (cloStep x y) c).2 ≤ c.2 := fun l => by
    induction l with
    | nil => intro c; exact ⟨Int.le_refl _, Int.le_refl _⟩
    | cons q l ih =>
      intro c
      have h := ih (cloStep x y c q)
      have h2 : c.1 ≤ (cloStep x y c q).1 ∧ (cloStep x y c q).2 ≤ c.2 := by
        unfold cloStep; split <;> (try simp only) <;> omega
      rw [List.foldl_cons]; omega
  have h := this ((ivL p).take k) (1, (p.length : Int))
  exact h
theorem cloF_up {p : List Int} (h : isP p = true) (x y : Int) (k : Nat) : (cloF p x y k).1 ≤ 8 ∧ 0 ≤ (cloF p x y k).2 := by
  have hq : ∀ q ∈ ivL p, 1 ≤ q.1 ∧ q.1 ≤ 8 ∧ 1 ≤ q.2 ∧ q.2 ≤ 8 := fun q hq => by
    obtain ⟨a, j, h1, rfl, _⟩ := mem_ivL.1 hq
    have := isP_le h
    simp only; omega
  have := fold_clo x y 8 0 ((ivL p).take k) (1, (p.length : Int)) (by simp) (by simp) (fun q hm _ _ => by have := hq q (List.mem_of_mem_take hm); omega)
  exact ⟨this.2.1, this.2.2.1⟩

/-- Where the search for the least interval stands. -/
def CInv (p : List Int) (x y : Int) (a b : Nat) : Prop :=
  ((a : Int) + 1 ≤ x ∧ y ≤ (b : Int) + 1 ∧ a ≤ b ∧ b < p.length) ∧ ∀ q ∈ ivL p, q.1 ≤ x → y ≤ q.2 → q.1 ≤ (a : Int) + 1 ∧ (b : Int) + 1 ≤ q.2
theorem CInv.start {p : List Int} {x y : Int} (h1 : 1 ≤ x) (h2 : x ≤ y) (h3 : y ≤ (p.length : Int)) : CInv p x y (x - 1).toNat (y - 1).toNat :=
  ⟨by omega, fun q _ hq1 hq2 => by omega⟩
theorem CInv.done {p : List Int} {x y : Int} {a b : Nat} (h : CInv p x y a b) (hv : iv p a (b - a) = true) : cloF p x y (ivL p).length = ((a : Int) + 1, (b : Int) + 1) := by
  obtain ⟨⟨h1, h2, h3, h4⟩, h5⟩ := h
  have hm : ((a : Int) + 1, (b : Int) + 1) ∈ ivL p := mem_ivL.2 ⟨a, b - a, by omega, by rw [Prod.mk.injEq]; omega, hv⟩
  have hf := fold_clo x y ((a : Int) + 1) ((b : Int) + 1) (ivL p) (1, (p.length : Int)) (by simp only; omega) (by simp only; omega) h5
  obtain ⟨_, f2, f3, _, f5⟩ := hf
  have f6 := f5 _ hm h1 h2
  simp only at f6
  unfold cloF
  rw [List.take_length]
  exact Prod.ext (by simp only; omega) (by simp only; omega)
/-- A place whose number lies between two numbers of the run lies in every interval around it. -/
theorem CInv.holds {p : List Int} {x y : Int} {a b : Nat} (hp : isP p = true) (h : CInv p x y a b) {c : Nat} {v : Int} (hc : p[c]? = some v) (h1 : lo (seg p a (b - a + 1)) ≤ v) (h2 : v ≤ hi (seg p a (b - a + 1))) :
    ∀ q ∈ ivL p, q.1 ≤ x → y ≤ q.2 → q.1 ≤ (c : Int) + 1 ∧ (c : Int) + 1 ≤ q.2 := fun q hq hq1 hq2 => by
  obtain ⟨⟨g1, g2, g3, g4⟩, g5⟩ := h
  have g6 := g5 q hq hq1 hq2
  obtain ⟨a', j, i1, rfl, i3⟩ := mem_ivL.1 hq
  simp only at g6 ⊢
  have sub : ∀ z ∈ seg p a (b - a + 1), z ∈ seg p a' (j + 1) := fun z hz => by
    obtain ⟨i, e1, e2, e3⟩ := mem_seg.1 hz
    exact mem_seg.2 ⟨i, by omega, by omega, e3⟩
  have l1 := (lo_le (seg p a' (j + 1))).1 _ (sub _ (lo_in hp (by omega) (by omega)))
  have l2 := (le_hi (seg p a' (j + 1))).1 _ (sub _ (hi_in hp (by omega) (by omega)))
  obtain ⟨i, e1, e2, e3⟩ := mem_seg.1 (iv_has hp i1 i3 (x := v) (by omega) (by omega))
  have := isP_same hp hc e3
  omega
theorem CInv.widen {p : List Int} {x y : Int} {a b : Nat} (h : CInv p x y a b) {c : Nat} (hc : c < p.length) (hq : ∀ q ∈ ivL p, q.1 ≤ x → y ≤ q.2 → q.1 ≤ (c : Int) + 1 ∧ (c : Int) + 1 ≤ q.2) : CInv p x y (min a c) (max b c) := by
  obtain ⟨⟨g1, g2, g3, g4⟩, g5⟩ := h
  refine ⟨by omega, fun q hm h1 h2 => ?_⟩
  have e1 := hq q hm h1 h2
  have e2 := g5 q hm h1 h2
  omega
/-- A run that is no interval lacks a number between two of its own. -/
theorem run_lacks {p : List Int} {a b a1 b1 : Nat} (hp : isP p = true) (hab : a ≤ b) (hb : b < p.length) (hv : iv p a (b - a) = false) (h1 : a1 ≤ a) (h2 : b ≤ b1)
    (hall : ∀ (c : Nat) v, p[c]? = some v → lo (seg p a (b - a + 1)) ≤ v → v ≤ hi (seg p a (b - a + 1)) → a1 ≤ c ∧ c ≤ b1) : b - a < b1 - a1 := by
  by_cases hlt : b - a < b1 - a1
  · exact hlt
  · exfalso
    have e1 : a1 = a := by omega
    have e2 : b1 = b := by omega
    subst e1; subst e2
    have hn : ¬ iv p a1 (b1 - a1) = true := by simp [hv]
    apply hn
    have hs := seg_frm hp (a := a1) (m := b1 - a1 + 1) (by omega) (by omega)
    have hL := (seg_bounds hp a1 (b1 - a1 + 1) _ (lo_in hp (by omega) (by omega))).1
    have hH : hi (seg p a1 (b1 - a1 + 1)) ≤ (p.length : Int) := by
      obtain ⟨j, _, _, hj⟩ := mem_seg.1 (hi_in hp (a := a1) (m := b1 - a1 + 1) (by omega) (by omega))
      exact (isP_range hp hj).2
    have hle := pigeon_le (l := frm' (lo (seg p a1 (b1 - a1 + 1))) (hi (seg p a1 (b1 - a1 + 1)) - lo (seg p a1 (b1 - a1 + 1)) + 1).toNat) (m := seg p a1 (b1 - a1 + 1)) (frm'_nodup _ _) (fun v hv => by
      have hm := mem_frm'.1 hv
      have hin := isP_has hp (x := v) (by omega) (by omega)
      obtain ⟨c, hc, rfl⟩ := List.getElem_of_mem hin
      have hc' := List.getElem?_eq_getElem hc
      have h3 := hall c _ hc' (by omega) (by omega)
      exact mem_seg.2 ⟨c, h3.1, by omega, hc'⟩)
    rw [frm'_length, seg_length (by omega)] at hle
    rw [iv_true]
    omega
end Go.Proofs.Ytoiflglccbemeaa
