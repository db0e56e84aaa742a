
/-
  PLAIN: the pattern of a list. Nothing here speaks of the program.
-/
import Derived.Test.YtknjgehcaadomaaPermM
import Derived.Test.YtknjgehcaadomaaPermF
namespace Go.Proofs.Ytknjgehcaadomaa
set_option maxRecDepth 100000

/-- How many are less than v. -/
def cnt (l : List Int) (v : Int) : Nat := (l.filter fun x => decide (x < v)).length
theorem cnt_nil (v : Int) : cnt [] v = 0 := rfl
theorem cnt_cons (x : Int) (l : List Int) (v : Int) : cnt (x :: l) v = (if x < v then 1 else 0) + cnt l v := by
  unfold cnt
  rw [List.filter_cons]
  by_cases h : x < v
  · simp [h]; omega
  · simp [h]
theorem cnt_snoc (l : List Int) (x v : Int) : cnt (l ++ [x]) v = cnt l v + if x < v then 1 else 0 := by
  unfold cnt
  rw [List.filter_append, List.length_append, List.filter_cons]
  by_cases h : x < v <;> simp [h]
theorem cnt_le (l : List Int) (v : Int) : cnt l v ≤ l.length := by unfold cnt; exact List.length_filter_le _ _
theorem cnt_mono : ∀ (l : List Int) {v v' : Int}, v ≤ v' → cnt l v ≤ cnt l v'
  | [], _, _, _ => Nat.le_refl _
  | x :: l, v, v', h => by
    have := cnt_mono l h
    rw [cnt_cons, cnt_cons]
    by_cases h1 : x < v
    · rw [if_pos h1, if_pos (by omega)]; omega
    · rw [if_neg h1]; omega
theorem cnt_lt : ∀ {l : List Int} {v v' : Int}, v ∈ l → v < v' → cnt l v + 1 ≤ cnt l v'
  | x :: l, v, v', hm, h => by
    rw [cnt_cons, cnt_cons]
    rcases List.mem_cons.1 hm with rfl | hm
    · have := cnt_mono l (v := v) (v' := v') (by omega)
      rw [if_neg (by omega), if_pos h]; omega
    · have := cnt_lt hm h
      by_cases h1 : x < v
      · rw [if_pos h1, if_pos (by omega)]; omega
      · rw [if_neg h1]; omega
theorem cnt_mem : ∀ {l : List Int} {v : Int}, v ∈ l → cnt l v + 1 ≤ l.length
  | x :: l, v, hm => by
    rw [cnt_cons, List.length_cons]
    rcases List.mem_cons.1 hm with rfl | hm
    · have := cnt_le l v
      rw [if_neg (by omega)]; omega
    · have := cnt_mem hm
      by_cases h1 : x < v
      · rw [if_pos h1]; omega
      · rw [if_neg h1]; omega
def patL (l : List Int) : List Int := l.map fun v => 1 + (cnt l v : Int)
theorem patL_length (l : List Int) : (patL l).length = l.length := by simp [patL]
theorem patL_at {l : List Int} {k : Nat} {z : Int} (h : l[k]? = some z) : (patL l)[k]? = some (1 + (cnt l z : Int)) := by unfold patL; rw [List.getElem?_map, h]; rfl
theorem patL_take {l : List Int} {k : Nat} {z : Int} (h : l[k]? = some z) : (patL l).take (k + 1) = (patL l).take k ++ [1 + (cnt l z : Int)] := take_snoc_i (patL_at h)
theorem patL_range {l : List Int} : ∀ x ∈ patL l, 1 ≤ x ∧ x ≤ (l.length : Int) := by
  intro x hx
  unfold patL at hx
  obtain ⟨v, hv, rfl⟩ := List.mem_map.1 hx
  have := cnt_mem hv
  omega
def patOK (l : List Int) : Bool := decide (l.length ≤ 8 ∧ l.Nodup)
theorem patOK_no8 {l : List Int} (h : 8 < l.length) : patOK l = false := by unfold patOK; simp; omega
theorem patOK_yes {l : List Int} (h : l.length ≤ 8) (h' : l.Nodup) : patOK l = true := by unfold patOK; simp [h, h']
theorem patOK_twice {l : List Int} {k : Nat} {z : Int} (hz : l[k]? = some z) (h : z ∈ l.take k) : patOK l = false := by
  unfold patOK
  rw [decide_eq_false_iff_not]
  rintro ⟨_, hn⟩
  have hnd : (l.take (k + 1)).Nodup := hn.sublist (List.take_sublist _ _)
  rw [take_snoc_i hz] at hnd
  exact (List.nodup_append.1 hnd).2.2 z h z (by simp) rfl
theorem nodup_step {l : List Int} {k : Nat} {z : Int} (hz : l[k]? = some z) (h : z ∉ l.take k) (hn : (l.take k).Nodup) : (l.take (k + 1)).Nodup := by
  rw [take_snoc_i hz, List.nodup_append]
  refine ⟨hn, by simp, fun a ha b hb e => ?_⟩
  rw [List.mem_singleton] at hb
  subst hb; subst e
  exact h ha
theorem nodup_of_map {f : Int → Int} : ∀ {l : List Int}, (l.map f).Nodup → l.Nodup
  | [], _ => List.nodup_nil
  | a :: l, h => by
    rw [List.map_cons, List.nodup_cons] at h
    exact List.nodup_cons.2 ⟨fun hm => h.1 (List.mem_map.2 ⟨a, hm, rfl⟩), nodup_of_map h.2⟩
theorem nodup_map {f : Int → Int} : ∀ {l : List Int}, (∀ a ∈ l, ∀ b ∈ l, f a = f b → a = b) → l.Nodup → (l.map f).Nodup
  | [], _, _ => List.nodup_nil
  | a :: l, hf, h => by
    rw [List.nodup_cons] at h
    rw [List.map_cons, List.nodup_cons]
    refine ⟨fun hm => ?_, nodup_map (fun x hx y hy => hf x (by simp [hx]) y (by simp [hy])) h.2⟩
    obtain ⟨b, hb, e⟩ := List.mem_map.1 hm
    have := hf b (by simp [hb]) a (by simp) e
    subst this
    exact h.1 hb
theorem isP_pat (l : List Int) : isP (patL l) = patOK l := by
  rw [Bool.eq_iff_iff, isP_true]
  unfold patOK IsP
  rw [decide_eq_true_eq, patL_length]
  constructor
  · rintro ⟨h1, _, h3⟩
    exact ⟨h1, nodup_of_map h3⟩
  · rintro ⟨h1, h2⟩
    refine ⟨h1, patL_range, nodup_map (fun a ha b hb e => ?_) h2⟩
    rcases Int.lt_trichotomy a b with h | h | h
    · have := cnt_lt ha h; omega
    · exact h
    · have := cnt_lt hb h; omega
def patR (l : List Int) : List Int := if patOK l then patL l else []
theorem patR_yes {l : List Int} (h : patOK l = true) : patR l = patL l := by unfold patR; rw [if_pos h]
theorem patR_no {l : List Int} (h : patOK l = false) : patR l = [] := by unfold patR; rw [if_neg (by simp [h])]
theorem patR_le (l : List Int) : (patR l).length ≤ 8 := by
  cases h : patOK l with
  | true =>
    rw [patR_yes h, patL_length]
    unfold patOK at h
    simp at h
    exact h.1
  | false => rw [patR_no h]; simp
end Go.Proofs.Ytknjgehcaadomaa
