/-
  PLAIN: splitting a list at a byte, round for round and by the first place. Nothing here speaks of the program.
-/
import Derived.Lib.Split
import Derived.Lib.SplitLaws
import Derived.Lib.IndexBytes
import Derived.Lib.Join
namespace Go.Proofs.YtlepfeffbpoobaaDoor

def splitL (c : UInt8) : List UInt8 → List (List UInt8)
  | [] => [[]]
  | x :: r => if x = c then [] :: splitL c r else match splitL c r with
    | h :: t => (x :: h) :: t
    | [] => [[x]]
theorem splitL_ne (c : UInt8) : ∀ l, splitL c l ≠ []
  | [] => by simp [splitL]
  | x :: r => by
    unfold splitL
    split
    · simp
    · split <;> simp
/-- pre ahead of the first piece. -/
def glue (pre : List UInt8) : List (List UInt8) → List (List UInt8)
  | h :: t => (pre ++ h) :: t
  | [] => [pre]
theorem glue_nil {ps : List (List UInt8)} (h : ps ≠ []) : glue [] ps = ps := by cases ps with
  | nil => exact absurd rfl h
  | cons a b => rfl
theorem split_hit (c : UInt8) (pre r : List UInt8) : glue pre (splitL c (c :: r)) = pre :: splitL c r := by
  rw [splitL, if_pos rfl]; simp [glue]
theorem split_miss {c x : UInt8} (h : x ≠ c) (pre r : List UInt8) : glue pre (splitL c (x :: r)) = glue (pre ++ [x]) (splitL c r) := by
  rw [splitL, if_neg h]
  cases hs : splitL c r with
  | nil => exact absurd hs (splitL_ne c r)
  | cons a b => simp [glue]
theorem splitL_no {c : UInt8} : ∀ {l : List UInt8}, c ∉ l → splitL c l = [l]
  | [], _ => rfl
  | x :: r, h => by
    rw [splitL, if_neg (fun e => h (by simp [e])), splitL_no (fun e => h (by simp [e]))]
theorem splitL_at {c : UInt8} : ∀ {a b : List UInt8}, c ∉ a → splitL c (a ++ c :: b) = a :: splitL c b
  | [], b, _ => by rw [List.nil_append, splitL, if_pos rfl]
  | x :: r, b, h => by
    rw [List.cons_append, splitL, if_neg (fun e => h (by simp [e])), splitL_at (fun e => h (by simp [e]))]

theorem splitK_eq (c : UInt8) : ∀ (k : Nat) (l : List UInt8), l.count c = k → Lib.splitK [c] 0 k l = splitL c l
  | 0, l, h => by
    rw [splitL_no (List.count_eq_zero.1 h)]; rfl
  | k + 1, l, h => by
    have hm : c ∈ l := List.count_pos_iff.1 (by omega)
    have hge := Lib.indexByte_ge l c
    have hne : Lib.indexByte l c ≠ -1 := fun e => by
      obtain ⟨i, hi, he⟩ := List.getElem_of_mem hm
      exact Lib.indexByte_none e i (by rw [List.getElem?_eq_getElem hi, he])
    obtain ⟨i, hi⟩ : ∃ i : Nat, Lib.indexByte l c = i := ⟨(Lib.indexByte l c).toNat, by omega⟩
    obtain ⟨h1, h2⟩ := Lib.indexByte_some hi
    obtain ⟨hil, hic⟩ := List.getElem?_eq_some_iff.1 h1
    have hno : c ∉ l.take i := fun hmem => by
      obtain ⟨j, hj, he⟩ := List.getElem_of_mem hmem
      rw [List.length_take] at hj
      rw [List.getElem_take] at he
      exact h2 j (by omega) (by rw [List.getElem?_eq_getElem (by omega), he])
    have hsplit : l = l.take i ++ c :: l.drop (i + 1) := by
      conv => lhs; rw [← List.take_append_drop i l, List.drop_eq_getElem_cons hil, hic]
    have hcount : (l.drop (i + 1)).count c = k := by
      have e := congrArg (List.count c) hsplit
      rw [List.count_append, List.count_cons_self, List.count_eq_zero.2 hno, h] at e
      omega
    have e1 : (Lib.index l [c] == -1) = false := by rw [Lib.index_one, beq_eq_false_iff_ne]; exact hne
    have e2 : (Lib.index l [c]).toNat = i := by rw [Lib.index_one, hi]; rfl
    rw [Lib.splitK, e1, e2]
    simp only [Bool.false_eq_true, if_false, Nat.add_zero, List.length_singleton]
    rw [splitK_eq c k _ hcount]
    conv => rhs; rw [hsplit, splitL_at hno]
theorem splitB_eq (s : ByteArray) (c : UInt8) : (Lib.splitB ⟨#[c]⟩ 0 (Lib.countB s ⟨#[c]⟩) s).map (·.data.toList) = splitL c s.data.toList := by
  rw [Lib.splitB_data]
  have h : Lib.countB s ⟨#[c]⟩ = s.data.toList.count c := Lib.count_one c s.data.toList
  rw [h]
  exact splitK_eq c _ _ rfl
theorem bytes_inj_list : ∀ {xs ys : List ByteArray}, xs.map (·.data.toList) = ys.map (·.data.toList) → xs = ys
  | [], [], _ => rfl
  | [], _ :: _, h => by cases h
  | _ :: _, [], h => by cases h
  | x :: xs, y :: ys, h => by
    simp only [List.map_cons, List.cons.injEq] at h
    rw [bytes_inj_list h.2]
    congr 1
    cases x; cases y
    simpa using h.1
/-- The pieces of s at c. -/
def pieces (s : ByteArray) (c : UInt8) : List ByteArray := (splitL c s.data.toList).map fun l => ⟨l.toArray⟩
theorem pieces_data (s : ByteArray) (c : UInt8) : (pieces s c).map (·.data.toList) = splitL c s.data.toList := by
  unfold pieces
  rw [List.map_map]
  exact (List.map_congr_left (fun l _ => by simp)).trans (List.map_id _)
theorem splitB_pieces (s : ByteArray) (c : UInt8) : Lib.splitB ⟨#[c]⟩ 0 (Lib.countB s ⟨#[c]⟩) s = pieces s c :=
  bytes_inj_list ((splitB_eq s c).trans (pieces_data s c).symm)
theorem pieces_length (s : ByteArray) (c : UInt8) : (pieces s c).length = Lib.countB s ⟨#[c]⟩ + 1 := by
  rw [← splitB_pieces]
  exact Lib.splitB_all ⟨#[c]⟩ (Nat.le_refl 1) 0 _ s rfl
theorem splitL_length (c : UInt8) : ∀ l, (splitL c l).length = l.count c + 1
  | [] => rfl
  | x :: r => by
    have ih := splitL_length c r
    unfold splitL
    by_cases h : x = c
    · rw [if_pos h, List.length_cons, ih, h, List.count_cons_self]
    · rw [if_neg h]
      rw [List.count_cons_of_ne h]
      cases hs : splitL c r with
      | nil => exact absurd hs (splitL_ne c r)
      | cons a b => rw [hs] at ih; simpa using ih
theorem pieces_le (s : ByteArray) (c : UInt8) : (pieces s c).length ≤ s.size + 1 := by
  have h1 : (pieces s c).length = (splitL c s.data.toList).length := by unfold pieces; rw [List.length_map]
  have h2 := List.count_le_length (a := c) (l := s.data.toList)
  have h3 : s.data.toList.length = s.size := by rw [Array.length_toList]; rfl
  rw [h1, splitL_length]
  omega

theorem split_parts (c : UInt8) : ∀ (l : List UInt8), ∀ p ∈ splitL c l, c ∉ p ∧ p.length ≤ l.length
  | [], p, h => by
    obtain rfl := List.mem_singleton.1 h
    exact ⟨by simp, by simp⟩
  | x :: r, p, h => by
    have ih := split_parts c r
    rw [splitL] at h
    by_cases hx : x = c
    · rw [if_pos hx] at h
      rcases List.mem_cons.1 h with rfl | h
      · exact ⟨by simp, by simp⟩
      · have := ih p h; exact ⟨this.1, by rw [List.length_cons]; omega⟩
    · rw [if_neg hx] at h
      cases hs : splitL c r with
      | nil => exact absurd hs (splitL_ne c r)
      | cons a b =>
        rw [hs] at h ih
        rcases List.mem_cons.1 h with rfl | h
        · have := ih a (by simp)
          refine ⟨fun hm => ?_, by rw [List.length_cons, List.length_cons]; omega⟩
          rcases List.mem_cons.1 hm with rfl | hm
          · exact hx rfl
          · exact this.1 hm
        · have := ih p (by simp [h]); exact ⟨this.1, by rw [List.length_cons]; omega⟩
theorem pieces_parts {s : ByteArray} {c : UInt8} {p : ByteArray} (h : p ∈ pieces s c) : (pieces p c).length = 1 ∧ p.size ≤ s.size := by
  unfold pieces at h
  obtain ⟨l, hl, rfl⟩ := List.mem_map.1 h
  have hp := split_parts c _ l hl
  have e : s.data.toList.length = s.size := by rw [Array.length_toList]; rfl
  refine ⟨?_, ?_⟩
  · unfold pieces
    rw [List.length_map]
    show (splitL c l).length = 1
    rw [splitL_no hp.1]; rfl
  · show l.toArray.size ≤ s.size
    rw [List.size_toArray]; omega
theorem join_split (c : UInt8) : ∀ l, Lib.join (splitL c l) [c] = l
  | [] => Lib.join_one _ _
  | x :: r => by
    have ih := join_split c r
    rw [splitL]
    by_cases hx : x = c
    · rw [if_pos hx, Lib.join_cons, List.nil_append]
      cases hs : splitL c r with
      | nil => exact absurd hs (splitL_ne c r)
      | cons a b =>
        rw [hs, Lib.join_cons] at ih
        simp only [Lib.joinTail, List.map_cons, List.flatten_cons] at ih ⊢
        rw [List.append_assoc, ih, hx]; rfl
    · rw [if_neg hx]
      cases hs : splitL c r with
      | nil => exact absurd hs (splitL_ne c r)
      | cons a b =>
        rw [hs, Lib.join_cons] at ih
        show Lib.join ((x :: a) :: b) [c] = x :: r
        rw [Lib.join_cons, List.cons_append, ih]
theorem join_pieces (s : ByteArray) (c : UInt8) : Lib.join ((pieces s c).map (·.data.toList)) [c] = s.data.toList := by rw [pieces_data]; exact join_split c _
end Go.Proofs.YtlepfeffbpoobaaDoor
