/-
  Words and contracts that the laws lean on, bundled: MeshM, MeshV, ChM, InfP, OpenC, OpenS, MeshR, Aside, MofW.
-/
import Derived.Test.YtnnpefgbneldiaaB2
import Derived.Test.YtnnpefgbneldiaaB1
import Derived.Test.YtnnpefgbneldiaaB9
import Derived.Test.YtnnpefgbneldiaaB6
import Derived.Test.YtnnpefgbneldiaaB3
import Derived.Test.YtnnpefgbneldiaaB8
import Derived.Lib.SmallJoins
import Derived.Test.YtnnpefgbneldiaaB4
import Derived.Laws.ResultCell
import Derived.Maps.AppendAt

/-
  PLAIN: occurrences with shaded boxes. Nothing here speaks of the program.
-/

namespace Go.Proofs.Ytnnpefgbneldiaa
set_option maxRecDepth 100000

/-- A box over n numbers. -/
def boxOK (n : Nat) (s : List Int) : Bool := decide (s.length = 2) && decide (0 ≤ at0 s 0 ∧ at0 s 0 ≤ (n : Int)) && decide (0 ≤ at0 s 1 ∧ at0 s 1 ≤ (n : Int))
/-- The first k of them are boxes that ascend. -/
def boxesK (n : Nat) (S : List (List Int)) : Nat → Bool
  | 0 => true
  | k + 1 => boxesK n S k && boxOK n (S.getD k []) && (decide (k = 0) || befL (S.getD (k - 1) []) (S.getD k []))
def meshOK (q : List Int) (S : List (List Int)) : Bool := isP q && decide (q.length ≤ 4) && boxesK q.length S S.length
theorem meshOK_iff {q : List Int} {S : List (List Int)} : meshOK q S = true ↔ isP q = true ∧ q.length ≤ 4 ∧ boxesK q.length S S.length = true := by
  unfold meshOK; rw [Bool.and_eq_true, Bool.and_eq_true, decide_eq_true_eq, and_assoc]
theorem boxesK_down {n : Nat} {S : List (List Int)} : ∀ {k j : Nat}, boxesK n S k = true → j ≤ k → boxesK n S j = true
  | 0, j, h, hj => by obtain rfl : j = 0 := by omega
                      exact h
  | k + 1, j, h, hj => by
    by_cases e : j = k + 1
    · rw [e]; exact h
    · rw [boxesK, Bool.and_eq_true, Bool.and_eq_true] at h
      exact boxesK_down h.1.1 (by omega)
theorem boxesK_box {n : Nat} {S : List (List Int)} {k i : Nat} (h : boxesK n S k = true) (hi : i < k) : boxOK n (S.getD i []) = true := by
  have := boxesK_down h (show i + 1 ≤ k by omega)
  rw [boxesK, Bool.and_eq_true, Bool.and_eq_true] at this
  exact this.1.2
theorem boxesK_bef {n : Nat} {S : List (List Int)} {k i : Nat} (h : boxesK n S k = true) (hi : i + 1 < k) : befL (S.getD i []) (S.getD (i + 1) []) = true := by
  have := boxesK_down h (show i + 1 + 1 ≤ k by omega)
  rw [boxesK, Bool.and_eq_true, Bool.and_eq_true, Bool.or_eq_true, decide_eq_true_eq] at this
  rcases this.2 with h0 | h0
  · omega
  · exact h0
/-- The box of a place. -/
def boxAt (p pl : List Int) (i : Nat) : List Int := [(cnt pl ((i : Int) + 1) : Int), (cnt (nums p pl) (at0 p i) : Int)]
/-- No place but its own is in a shaded box. -/
def fitsM (p pl : List Int) (S : List (List Int)) : Bool := (List.range p.length).all fun i => decide ((i : Int) + 1 ∈ pl) || !decide (boxAt p pl i ∈ S)
theorem fitsM_iff {p pl : List Int} {S : List (List Int)} : fitsM p pl S = true ↔ ∀ i, i < p.length → ¬ (i : Int) + 1 ∈ pl → ¬ boxAt p pl i ∈ S := by
  unfold fitsM
  simp only [List.all_eq_true, List.mem_range, Bool.or_eq_true, decide_eq_true_eq, Bool.not_eq_true', decide_eq_false_iff_not]
  constructor
  · intro h i hi hn
    rcases h i hi with h | h
    · exact absurd h hn
    · exact h
  · intro h i hi
    by_cases hm : (i : Int) + 1 ∈ pl
    · exact .inl hm
    · exact .inr (h i hi hm)
theorem fitsM_nil (p pl : List Int) : fitsM p pl [] = true := fitsM_iff.2 fun _ _ _ h => by simp at h
theorem fitsM_more {p pl : List Int} {S R : List (List Int)} (h : ∀ s ∈ S, s ∈ R) (hf : fitsM p pl R = true) : fitsM p pl S = true := fitsM_iff.2 fun i hi hn hm => (fitsM_iff.1 hf) i hi hn (h _ hm)
theorem fitsM_same {p pl : List Int} {S R : List (List Int)} (h : ∀ s, s ∈ S ↔ s ∈ R) : fitsM p pl S = fitsM p pl R := by
  rw [Bool.eq_iff_iff]
  exact ⟨fitsM_more fun s hs => (h s).2 hs, fitsM_more fun s hs => (h s).1 hs⟩
/-- The occurrences of a mesh. -/
def meshR (p q : List Int) (S : List (List Int)) : List (List Int) := (occR p q).filter fun pl => fitsM p pl S
def numMesh (p q : List Int) (S : List (List Int)) : Int := if isP p && meshOK q S then ((meshR p q S).length : Int) else -1
theorem numMesh_yes {p q : List Int} {S : List (List Int)} (hp : isP p = true) (h : meshOK q S = true) : numMesh p q S = ((meshR p q S).length : Int) := by unfold numMesh; rw [if_pos (by simp [hp, h])]
theorem numMesh_no {p q : List Int} {S : List (List Int)} (h : isP p = false ∨ meshOK q S = false) : numMesh p q S = -1 := by
  unfold numMesh
  rw [if_neg (by rcases h with h | h <;> simp [h])]
theorem mesh_le (p q : List Int) (S : List (List Int)) : (meshR p q S).length ≤ (occR p q).length := List.length_filter_le _ _

/-! how many are below, in an ascending list -/
theorem cnt_asc {n : Nat} {pl : List Int} (h : PlOK n pl) (v : Int) : ∀ i, i < pl.length → (at0 pl i < v ↔ i < cnt pl v) := by
  induction pl with
  | nil => intro i hi; simp at hi
  | cons a r ih =>
    have hr : PlOK n r := ⟨fun x hx => h.1 x (List.mem_cons_of_mem _ hx), (List.pairwise_cons.1 h.2).2⟩
    have ha := (List.pairwise_cons.1 h.2).1
    intro i hi
    by_cases hv : a < v
    · have hc : cnt (a :: r) v = cnt r v + 1 := by unfold cnt; rw [List.filter_cons_of_pos (by simpa using hv)]; rfl
      rw [hc]
      cases i with
      | zero =>
        have : at0 (a :: r) 0 = a := at0_of rfl
        rw [this]; omega
      | succ i =>
        have e : at0 (a :: r) (i + 1) = at0 r i := at0_of (by rw [List.getElem?_cons_succ]; exact at0_some (by simpa using hi))
        rw [e, ih hr i (by simpa using hi)]; omega
    · have hc : cnt (a :: r) v = 0 := by
        unfold cnt
        rw [List.length_eq_zero_iff, List.filter_eq_nil_iff]
        intro x hx
        rcases List.mem_cons.1 hx with rfl | hx
        · simpa using hv
        · have := ha x hx; simp; omega
      rw [hc]
      have : a ≤ at0 (a :: r) i := by
        cases i with
        | zero => rw [show at0 (a :: r) 0 = a from at0_of rfl]; exact Int.le_refl _
        | succ i =>
          have e : at0 (a :: r) (i + 1) = at0 r i := at0_of (by rw [List.getElem?_cons_succ]; exact at0_some (by simpa using hi))
          rw [e]
          have := ha (at0 r i) (List.mem_of_getElem? (at0_some (by simpa using hi)))
          omega
      omega

/-! joined places are shaded columns -/
def colS (m : Nat) (J : List Int) : List (List Int) := J.flatMap fun j => (List.range (m + 1)).map fun (y : Nat) => [j, (y : Int)]
theorem mem_colS {m : Nat} {J : List Int} {x y : Int} : [x, y] ∈ colS m J ↔ x ∈ J ∧ 0 ≤ y ∧ y ≤ (m : Int) := by
  unfold colS
  rw [List.mem_flatMap]
  constructor
  · rintro ⟨j, hj, h⟩
    rw [List.mem_map] at h
    obtain ⟨k, hk, e⟩ := h
    rw [List.mem_range] at hk
    simp only [List.cons.injEq, and_true] at e
    obtain ⟨rfl, rfl⟩ := e
    exact ⟨hj, by omega, by omega⟩
  · rintro ⟨hj, h1, h2⟩
    exact ⟨x, hj, List.mem_map.2 ⟨y.toNat, List.mem_range.2 (by omega), by rw [show ((y.toNat : Nat) : Int) = y by omega]⟩⟩
theorem mesh_near {p q J pl : List Int} (h : pl ∈ occR p q) (hJ : PlOK (q.length - 1) J) : fitsM p pl (colS q.length J) = fitJ J pl := by
  obtain ⟨hp, hq, hl, hok, hpat⟩ := isOcc_iff.1 (mem_occ.1 h)
  rw [Bool.eq_iff_iff, fitsM_iff, fitJ_iff]
  constructor
  · intro hf j hj
    have hr := hJ.1 j hj
    have h1 := hok.rng (i := j.toNat - 1) (by omega)
    have h2 := hok.rng (i := j.toNat) (by omega)
    have h3 := hok.mono (show j.toNat - 1 < j.toNat by omega) (by omega)
    by_cases e : at0 pl j.toNat = at0 pl (j.toNat - 1) + 1
    · exact e
    · exfalso
      obtain ⟨i, hi⟩ : ∃ i : Nat, (i : Int) = at0 pl (j.toNat - 1) := ⟨(at0 pl (j.toNat - 1)).toNat, by omega⟩
      have hc := cnt_asc hok ((i : Int) + 1)
      have c1 := (hc (j.toNat - 1) (by omega)).1 (by omega)
      have c2 : ¬ j.toNat < cnt pl ((i : Int) + 1) := fun hh => by have := (hc j.toNat (by omega)).2 hh; omega
      have hcn : cnt pl ((i : Int) + 1) = j.toNat := by omega
      refine hf i (by omega) (fun hm => ?_) ?_
      · obtain ⟨k, hk⟩ := List.getElem?_of_mem hm
        have hkl : k < pl.length := (List.getElem?_eq_some_iff.1 hk).1
        have ek : at0 pl k = (i : Int) + 1 := at0_of hk
        rcases Nat.lt_or_ge k j.toNat with hlt | hge
        · rcases Nat.lt_or_ge k (j.toNat - 1) with hl2 | hg2
          · have := hok.mono hl2 (by omega); omega
          · obtain rfl : k = j.toNat - 1 := by omega
            omega
        · rcases Nat.lt_or_ge j.toNat k with hl2 | hg2
          · have := hok.mono hl2 hkl; omega
          · obtain rfl : k = j.toNat := by omega
            omega
      · unfold boxAt
        rw [mem_colS, hcn]
        have := cnt_le (nums p pl) (at0 p i)
        rw [nums_length, hl] at this
        exact ⟨by rw [show ((j.toNat : Nat) : Int) = j by omega]; exact hj, by omega, by omega⟩
  · intro hf i hi hn hm
    unfold boxAt at hm
    rw [mem_colS] at hm
    have hj := hm.1
    have hr := hJ.1 _ hj
    have hc := cnt_asc hok ((i : Int) + 1)
    obtain ⟨k, hk⟩ : ∃ k, k = cnt pl ((i : Int) + 1) := ⟨_, rfl⟩
    rw [← hk] at hj hr hc
    have e := hf _ hj
    rw [Int.toNat_natCast] at e
    have c1 := (hc (k - 1) (by omega)).2 (by omega)
    have c2 : ¬ at0 pl k < (i : Int) + 1 := fun hh => by have := (hc k (by omega)).1 hh; omega
    have h4 : at0 pl k = (i : Int) + 1 := by omega
    exact hn (by rw [← h4]; exact List.mem_of_getElem? (at0_some (by omega)))
theorem mesh_near_num {p q J : List Int} (hJ : PlOK (q.length - 1) J) : meshR p q (colS q.length J) = nearR p q J := by
  unfold meshR nearR
  exact List.filter_congr fun pl h => mesh_near h hJ

/-! the inverse -/
theorem nodup_cnt {a b : List Int} (ha : a.Nodup) (hb : b.Nodup) (h : ∀ x, x ∈ a ↔ x ∈ b) (v : Int) : cnt a v = cnt b v := by
  unfold cnt
  exact ((List.perm_ext_iff_of_nodup ha hb).2 h |>.filter _).length_eq
theorem asc_ints_nodup {n : Nat} {pl : List Int} (h : PlOK n pl) : pl.Nodup := h.2.imp fun h => by omega
theorem nums_nodup {p pl : List Int} (hp : isP p = true) (h : PlOK p.length pl) : (nums p pl).Nodup := by
  have hnd := (isP_true.1 hp).2.2
  rw [List.nodup_iff_pairwise_ne, List.pairwise_iff_getElem]
  intro i j hi hj hij e
  rw [nums_length] at hi hj
  have e1 : at0 (nums p pl) i = at0 (nums p pl) j := by
    rw [at0_of (List.getElem?_eq_getElem (by rw [nums_length]; exact hi)), at0_of (List.getElem?_eq_getElem (by rw [nums_length]; exact hj))]; exact e
  rw [nums_at0 hi, nums_at0 hj] at e1
  have h1 := h.rng hi
  have h2 := h.rng hj
  have h3 := h.mono hij hj
  have g1 := inv_val hp (i := (at0 pl i).toNat - 1) (by omega)
  have g2 := inv_val hp (i := (at0 pl j).toNat - 1) (by omega)
  rw [e1, g2] at g1
  omega
theorem plInv_mem {p q pl : List Int} (h : pl ∈ occR p q) (x : Int) : x ∈ plInv p q pl ↔ x ∈ nums p pl := by
  obtain ⟨hp, hq, hl, hok, _⟩ := isOcc_iff.1 (mem_occ.1 h)
  constructor
  · intro hx
    obtain ⟨j, hj⟩ := List.getElem?_of_mem hx
    have hjl : j < q.length := by have := (List.getElem?_eq_some_iff.1 hj).1; rwa [plInv_length] at this
    have e := at0_of hj
    rw [plInv_at hjl] at e
    obtain ⟨i, hi, _, e2⟩ := inv_at hq hjl
    rw [e2, show ((i : Int) + 1).toNat - 1 = i by omega] at e
    rw [← e]
    exact List.mem_of_getElem? (at0_some (by rw [nums_length]; omega))
  · intro hx
    obtain ⟨i, hi⟩ := List.getElem?_of_mem hx
    have hil : i < q.length := by have := (List.getElem?_eq_some_iff.1 hi).1; rw [nums_length] at this; omega
    have hr := rng_at hq hil
    have e : at0 (plInv p q pl) ((at0 q i).toNat - 1) = x := by
      rw [plInv_at (by omega), inv_val hq hil, show ((i : Int) + 1).toNat - 1 = i by omega]
      exact at0_of hi
    rw [← e]
    exact List.mem_of_getElem? (at0_some (by rw [plInv_length]; omega))
theorem nums_inv_mem {p q pl : List Int} (h : pl ∈ occR p q) (x : Int) : x ∈ nums (invL p) (plInv p q pl) ↔ x ∈ pl := by
  obtain ⟨hp, hq, hl, hok, _⟩ := isOcc_iff.1 (mem_occ.1 h)
  have hin := (occ_inv h).2
  constructor
  · intro hx
    obtain ⟨j, hj⟩ := List.getElem?_of_mem hx
    have hjl : j < q.length := by have := (List.getElem?_eq_some_iff.1 hj).1; rwa [nums_length, plInv_length] at this
    obtain ⟨i, hi, e1, _⟩ := inv_at hq hjl
    have := hin i (by omega)
    rw [e1, show ((j : Int) + 1).toNat - 1 = j by omega, at0_of hj] at this
    rw [this]
    exact List.mem_of_getElem? (at0_some (by omega))
  · intro hx
    obtain ⟨i, hi⟩ := List.getElem?_of_mem hx
    have hil : i < pl.length := (List.getElem?_eq_some_iff.1 hi).1
    have hr := rng_at hq (show i < q.length by omega)
    have := hin i hil
    rw [at0_of hi] at this
    rw [← this]
    exact List.mem_of_getElem? (at0_some (by rw [nums_length, plInv_length]; omega))
/-- The boxes turned. -/
def swapB (s : List Int) : List Int := [at0 s 1, at0 s 0]
theorem mesh_inv_le {p q pl : List Int} {S R : List (List Int)} (h : pl ∈ occR p q) (hS : ∀ x y, [x, y] ∈ R → [y, x] ∈ S) (hf : fitsM p pl S = true) : fitsM (invL p) (plInv p q pl) R = true := by
  obtain ⟨hp, hq, hl, hok, _⟩ := isOcc_iff.1 (mem_occ.1 h)
  have h' := (occ_inv h).1
  obtain ⟨hp', hq', hl', hok', _⟩ := isOcc_iff.1 (mem_occ.1 h')
  rw [fitsM_iff] at hf ⊢
  intro v hv hn hm
  rw [invL_length] at hv
  obtain ⟨i, hi, e1, e2⟩ := inv_at hp hv
  have hni : ¬ (i : Int) + 1 ∈ pl := fun hmem => hn (by
    obtain ⟨k, hk⟩ := List.getElem?_of_mem hmem
    have hkl : k < pl.length := (List.getElem?_eq_some_iff.1 hk).1
    rw [plInv_mem h]
    have e : at0 (nums p pl) k = (v : Int) + 1 := by
      rw [nums_at0 hkl, at0_of hk, show ((i : Int) + 1).toNat - 1 = i by omega, e1]
    rw [← e]
    exact List.mem_of_getElem? (at0_some (by rw [nums_length]; exact hkl)))
  refine hf i hi hni ?_
  unfold boxAt at hm ⊢
  rw [nodup_cnt (asc_ints_nodup hok') (nums_nodup hp hok) (plInv_mem h), nodup_cnt (nums_nodup hp' hok') (asc_ints_nodup hok) (nums_inv_mem h), e2] at hm
  rw [e1]
  exact hS _ _ hm
theorem mesh_inv_count {p q : List Int} {S R : List (List Int)} (hS : ∀ x y, [x, y] ∈ R → [y, x] ∈ S) : (meshR p q S).length ≤ (meshR (invL p) (invL q) R).length :=
  inject_le (plInv p q) ((asc_nodup (occ_asc p q)).sublist List.filter_sublist) (fun pl h => by
    unfold meshR at h ⊢
    rw [List.mem_filter] at h ⊢
    exact ⟨(occ_inv h.1).1, mesh_inv_le h.1 hS h.2⟩) fun x hx y hy e => by
    unfold meshR at hx hy
    rw [List.mem_filter] at hx hy
    have h1 := (isOcc_iff.1 (mem_occ.1 hx.1)).2.2.1
    have h2 := (isOcc_iff.1 (mem_occ.1 hy.1)).2.2.1
    refine ext_at0 (by omega) fun i hi => ?_
    rw [← (occ_inv hx.1).2 i hi, e, (occ_inv hy.1).2 i (by omega)]
theorem mesh_inv {p q : List Int} {S R : List (List Int)} (hp : isP p = true) (hq : isP q = true) (hS : ∀ x y, [x, y] ∈ R ↔ [y, x] ∈ S) : (meshR (invL p) (invL q) R).length = (meshR p q S).length := by
  have h1 := mesh_inv_count (p := p) (q := q) (S := S) (R := R) fun x y h => (hS x y).1 h
  have h2 := mesh_inv_count (p := invL p) (q := invL q) (S := R) (R := S) fun x y h => (hS y x).2 h
  rw [inv_inv hp, inv_inv hq] at h2
  omega
end Go.Proofs.Ytnnpefgbneldiaa


/-
  PLAIN: which boxes can be shaded. Nothing here speaks of the program.
-/

namespace Go.Proofs.Ytnnpefgbneldiaa
set_option maxRecDepth 100000
/-- p has an occurrence either way or neither way. -/
def canB (q : List Int) (S T : List (List Int)) (p : List Int) : Bool := decide (0 < (meshR p q S).length) == decide (0 < (meshR p q T).length)
/-- .. all permutations of length n. -/
def canN (q : List Int) (S T : List (List Int)) (n : Nat) : Bool := (permL n).all (canB q S T)
/-- x and y are a column and a row. -/
def boxB (n : Nat) (x y : Int) : Bool := decide (0 ≤ x ∧ x ≤ (n : Int)) && decide (0 ≤ y ∧ y ≤ (n : Int))
def canR (q : List Int) (S : List (List Int)) (x y : Int) : Bool := meshOK q S && boxB q.length x y && !decide ([x, y] ∈ S) && (List.range 6).all (canN q S (S ++ [[x, y]]))
theorem canN_same {q : List Int} {S T R : List (List Int)} (h : ∀ s, s ∈ T ↔ s ∈ R) (n : Nat) : canN q S T n = canN q S R n := by
  unfold canN
  refine congrArg (fun f => (permL n).all f) (funext fun p => ?_)
  unfold canB meshR
  rw [show (fun pl => fitsM p pl T) = fun pl => fitsM p pl R from funext fun pl => fitsM_same h]
theorem permL_isP : ∀ n : Nat, n ≤ 5 → ∀ r ∈ permL n, isP r = true := by decide +kernel
theorem canN_at {q : List Int} {S T : List (List Int)} {n k : Nat} {p : List Int} (h : canN q S T n = true) (hk : (permL n)[k]? = some p) : canB q S T p = true := by
  unfold canN at h
  rw [List.all_eq_true] at h
  exact h p (List.mem_of_getElem? hk)
theorem canN_no {q : List Int} {S T : List (List Int)} {n k : Nat} {p : List Int} (hk : (permL n)[k]? = some p) (h : canB q S T p = false) : canN q S T n = false := by
  cases e : canN q S T n with
  | false => rfl
  | true => rw [canN_at e hk] at h; cases h
/-- The first k of length n. -/
def canK (q : List Int) (S T : List (List Int)) (n k : Nat) : Bool := ((permL n).take k).all (canB q S T)
theorem canK_step {q : List Int} {S T : List (List Int)} {n k : Nat} {p : List Int} (hk : (permL n)[k]? = some p) : canK q S T n (k + 1) = (canK q S T n k && canB q S T p) := by
  unfold canK
  rw [List.take_add_one, hk, List.all_append]
  simp
theorem canK_all {q : List Int} {S T : List (List Int)} {n k : Nat} (h : (permL n).length ≤ k) : canK q S T n k = canN q S T n := by
  unfold canK canN
  rw [List.take_of_length_le h]
/-- The first k lengths. -/
def canL (q : List Int) (S T : List (List Int)) (k : Nat) : Bool := (List.range k).all (canN q S T)
theorem canL_step (q : List Int) (S T : List (List Int)) (k : Nat) : canL q S T (k + 1) = (canL q S T k && canN q S T k) := by
  unfold canL
  rw [List.range_succ, List.all_append]
  simp
theorem canL_no {q : List Int} {S T : List (List Int)} {k m : Nat} (hk : k < m) (h : canN q S T k = false) : canL q S T m = false := by
  cases e : canL q S T m with
  | false => rfl
  | true =>
    unfold canL at e
    rw [List.all_eq_true] at e
    rw [e k (List.mem_range.2 hk)] at h
    cases h
theorem canR_yes {q : List Int} {S : List (List Int)} {x y : Int} (h1 : meshOK q S = true) (h2 : boxB q.length x y = true) (h3 : [x, y] ∉ S) : canR q S x y = canL q S (S ++ [[x, y]]) 6 := by
  unfold canR
  rw [h1, h2, decide_eq_false h3]
  rfl
theorem canR_no {q : List Int} {S : List (List Int)} {x y : Int} (h : meshOK q S = false ∨ boxB q.length x y = false ∨ [x, y] ∈ S) : canR q S x y = false := by
  unfold canR
  rcases h with h | h | h
  · rw [h]; rfl
  · rw [h, Bool.and_false]; rfl
  · rw [decide_eq_true h]; simp
end Go.Proofs.Ytnnpefgbneldiaa


/-
  PLAIN: the choices of places in order; occurrences are those whose pattern is right, patterns are the patterns of the choices. Nothing here speaks of the program.
-/

namespace Go.Proofs.Ytnnpefgbneldiaa
set_option maxRecDepth 100000

/-- The choices of m more of the places 1 to n that begin with head. -/
def chL (n : Nat) : Nat → List Int → List (List Int)
  | 0, head => [head]
  | m + 1, head => (List.range (n - lastP head)).flatMap fun i => chL n m (head ++ [((lastP head + i + 1 : Nat) : Int)])
/-- .. of the first j of the next places. -/
def chK (n m : Nat) (head : List Int) (j : Nat) : List (List Int) := (List.range j).flatMap fun i => chL n m (head ++ [((lastP head + i + 1 : Nat) : Int)])
theorem chK_all (n m : Nat) (head : List Int) : chK n m head (n - lastP head) = chL n (m + 1) head := rfl
theorem chK_zero (n m : Nat) (head : List Int) : chK n m head 0 = [] := rfl
theorem chK_step (n m : Nat) (head : List Int) (j : Nat) : chK n m head (j + 1) = chK n m head j ++ chL n m (head ++ [((lastP head + j + 1 : Nat) : Int)]) := by
  unfold chK
  rw [List.range_succ, List.flatMap_append, List.flatMap_cons, List.flatMap_nil, List.append_nil]
theorem mem_chL {n : Nat} : ∀ (m : Nat) (head pl : List Int), PlOK n head → (pl ∈ chL n m head ↔ ∃ tl, pl = head ++ tl ∧ tl.length = m ∧ PlOK n pl)
  | 0, head, pl, h => by
    rw [chL, List.mem_singleton]
    constructor
    · rintro rfl
      exact ⟨[], by simp, rfl, h⟩
    · rintro ⟨tl, rfl, h1, _⟩
      rw [List.eq_nil_of_length_eq_zero h1, List.append_nil]
  | m + 1, head, pl, h => by
    have hle := lastP_le h
    rw [chL, List.mem_flatMap]
    constructor
    · rintro ⟨i, hi, hm⟩
      rw [List.mem_range] at hi
      have hh : PlOK n (head ++ [((lastP head + i + 1 : Nat) : Int)]) := PlOK.snoc.2 ⟨h, by omega, by omega⟩
      obtain ⟨tl, rfl, h1, h2⟩ := (mem_chL m _ pl hh).1 hm
      exact ⟨((lastP head + i + 1 : Nat) : Int) :: tl, by rw [List.append_assoc]; rfl, by simp [h1], h2⟩
    · rintro ⟨tl, rfl, h1, h2⟩
      match tl, h1 with
      | x :: tl, h1 =>
        have hx : PlOK n (head ++ [x]) := by
          have := h2.take (head.length + 1)
          rwa [show head ++ x :: tl = head ++ [x] ++ tl by simp, List.take_append_of_le_length (by simp), List.take_of_length_le (by simp)] at this
        obtain ⟨_, hx1, hx2⟩ := PlOK.snoc.1 hx
        have hxe : ((lastP head + (x.toNat - lastP head - 1) + 1 : Nat) : Int) = x := by omega
        refine ⟨x.toNat - lastP head - 1, List.mem_range.2 (by omega), ?_⟩
        rw [hxe, mem_chL m _ _ hx]
        exact ⟨tl, by simp, by simpa using h1, h2⟩
theorem chL_len {n : Nat} : ∀ (m : Nat) (head pl : List Int), pl ∈ chL n m head → pl.length = head.length + m
  | 0, head, pl, h => by rw [chL, List.mem_singleton] at h; subst h; rfl
  | m + 1, head, pl, h => by
    rw [chL, List.mem_flatMap] at h
    obtain ⟨i, _, h⟩ := h
    have := chL_len m _ pl h
    simp at this; omega
theorem chL_pre {n : Nat} : ∀ (m : Nat) (head pl : List Int), pl ∈ chL n m head → ∃ tl, pl = head ++ tl
  | 0, head, pl, h => by rw [chL, List.mem_singleton] at h; subst h; exact ⟨[], by simp⟩
  | m + 1, head, pl, h => by
    rw [chL, List.mem_flatMap] at h
    obtain ⟨i, _, h⟩ := h
    obtain ⟨tl, rfl⟩ := chL_pre m _ pl h
    exact ⟨_ :: tl, by simp; rfl⟩
theorem chL_asc {n : Nat} : ∀ (m : Nat) (head : List Int), Asc (chL n m head)
  | 0, head => by rw [chL]; exact List.pairwise_singleton _ _
  | m + 1, head => by
    rw [chL]
    unfold Asc
    rw [List.pairwise_flatMap]
    constructor
    · intro i _
      exact chL_asc m _
    · refine List.Pairwise.imp ?_ List.pairwise_lt_range
      intro i j hij x hx y hy
      have l1 := chL_len m _ x hx
      have l2 := chL_len m _ y hy
      obtain ⟨t, rfl⟩ := chL_pre m _ x hx
      obtain ⟨s, rfl⟩ := chL_pre m _ y hy
      simp only [List.length_append, List.length_singleton] at l1 l2
      rw [befL_eq (by simp; omega), List.append_assoc, List.append_assoc, lexL_app, List.singleton_append, List.singleton_append, lexL, if_neg (by omega)]
      simp; omega
/-- The choices of k of the places 1 to n. -/
def chR (n k : Nat) : List (List Int) := chL n k []
theorem mem_chR {n k : Nat} {pl : List Int} : pl ∈ chR n k ↔ pl.length = k ∧ PlOK n pl := by
  unfold chR
  rw [mem_chL k [] pl (PlOK.nil n)]
  constructor
  · rintro ⟨tl, rfl, h1, h2⟩; exact ⟨by simpa using h1, h2⟩
  · rintro ⟨h1, h2⟩; exact ⟨pl, rfl, h1, h2⟩
theorem chR_asc (n k : Nat) : Asc (chR n k) := chL_asc k []
/-- The pattern at places. -/
def patA (p pl : List Int) : List Int := patL (nums p pl)
theorem occ_filter {p q : List Int} (hp : isP p = true) (hq : isP q = true) : (chR p.length q.length).filter (fun pl => decide (patA p pl = q)) = occR p q := by
  refine asc_unique ((chR_asc _ _).sublist List.filter_sublist) (occ_asc p q) fun x => ?_
  rw [List.mem_filter, mem_chR, mem_occ, isOcc_iff]
  unfold patA
  simp only [decide_eq_true_eq, hp, hq, true_and]
  constructor
  · rintro ⟨⟨h1, h2⟩, h3⟩; exact ⟨h1, h2, h3⟩
  · rintro ⟨h1, h2, h3⟩; exact ⟨⟨h1, h2⟩, h3⟩

/-! patterns -/
theorem nums_sub {p : List Int} : ∀ {pl : List Int} {m : Nat}, PlOK m pl → m ≤ p.length → (nums p pl).Sublist (p.take m) := by
  intro pl m
  induction m generalizing pl with
  | zero =>
    intro h _
    cases pl with
    | nil => simp [nums]
    | cons a l => have := h.1 a (by simp); omega
  | succ m ih =>
    intro h hm
    by_cases h0 : pl = []
    · subst h0; simp [nums]
    · obtain ⟨l, x, rfl⟩ : ∃ l x, pl = l ++ [x] := ⟨pl.dropLast, pl.getLast h0, (List.dropLast_concat_getLast h0).symm⟩
      obtain ⟨h1, h2, h3⟩ := PlOK.snoc.1 h
      have hsub : ∀ (k : Nat), k ≤ m → (p.take k).Sublist (p.take m) := fun k hk => by
        have := List.take_sublist k (p.take m)
        rwa [List.take_take, Nat.min_eq_left hk] at this
      by_cases hx : x = ((m + 1 : Nat) : Int)
      · subst hx
        have hl : PlOK m l := ⟨fun y hy => ⟨(h1.1 y hy).1, by
          have hh := (List.pairwise_append.1 h.2).2.2 y hy ((m + 1 : Nat) : Int) (by simp)
          omega⟩, h1.2⟩
        rw [nums_snoc, take_snoc_i (at0_some (show m < p.length by omega))]
        exact (ih hl (by omega)).append (by rw [show (((m + 1 : Nat) : Int)).toNat - 1 = m by omega]; exact List.Sublist.refl _)
      · have hl : PlOK m (l ++ [x]) := PlOK.snoc.2 ⟨⟨fun y hy => ⟨(h1.1 y hy).1, by
          have hh := (List.pairwise_append.1 h.2).2.2 y hy x (by simp)
          omega⟩, h1.2⟩, h2, by omega⟩
        have := ih hl (by omega)
        have h5 := List.take_sublist m (p.take (m + 1))
        rw [List.take_take, Nat.min_eq_left (Nat.le_succ m)] at h5
        exact this.trans h5
theorem nums_sub' {p pl : List Int} (h : PlOK p.length pl) : (nums p pl).Sublist p := by
  have := nums_sub (p := p) h (Nat.le_refl _)
  rwa [List.take_length] at this
/-- The patterns of the choices are those of the parts of a length. -/
theorem mem_pats_ch {p x : List Int} {k : Nat} : x ∈ (chR p.length k).map (patA p) ↔ ∃ s, s.Sublist p ∧ s.length = k ∧ x = patL s := by
  rw [List.mem_map]
  constructor
  · rintro ⟨pl, h, rfl⟩
    rw [mem_chR] at h
    exact ⟨nums p pl, nums_sub' h.2, by rw [nums_length]; exact h.1, rfl⟩
  · rintro ⟨s, h1, h2, rfl⟩
    obtain ⟨pl, h3, rfl⟩ := places_of h1
    rw [nums_length] at h2
    exact ⟨pl, mem_chR.2 ⟨h2, h3⟩, rfl⟩
theorem subK_hi (p : List Int) {s t : Nat} : ∀ {k : Nat}, (∀ i, i < k → s.testBit i = t.testBit i) → subK p s k = subK p t k
  | 0, _ => rfl
  | k + 1, h => by
    rw [subK, subK, h k (by omega), subK_hi p (k := k) fun i hi => h i (by omega)]
/-- Every part is one of the parts that the bits tell. -/
theorem sub_bits {p : List Int} : ∀ (k : Nat) (s : List Int), k ≤ p.length → s.Sublist (p.take k) → ∃ t, t < 2 ^ k ∧ subK p t k = s
  | 0, s, _, h => ⟨0, by simp, by rw [List.take_zero] at h; rw [List.sublist_nil.1 h]; rfl⟩
  | k + 1, s, hk, h => by
    rw [take_snoc_i (at0_some (show k < p.length by omega)), List.sublist_append_iff] at h
    obtain ⟨a, b, rfl, h1, h2⟩ := h
    obtain ⟨t, ht, rfl⟩ := sub_bits k a (by omega) h1
    have hpow : 2 ^ (k + 1) = 2 ^ k + 2 ^ k := by rw [Nat.pow_succ]; omega
    cases b with
    | nil =>
      refine ⟨t, by omega, ?_⟩
      rw [subK, Nat.testBit_lt_two_pow ht, List.append_nil]
      rfl
    | cons y b =>
      have hb : y :: b = [at0 p k] := by
        have := h2.length_le
        cases b with
        | nil => have := h2.subset (List.mem_singleton.2 rfl); simp at this; rw [this]
        | cons z b => simp at this
      rw [hb]
      refine ⟨2 ^ k + t, by omega, ?_⟩
      rw [subK, Nat.testBit_two_pow_add_eq, Nat.testBit_lt_two_pow ht]
      rw [subK_hi p (s := 2 ^ k + t) (t := t) fun i hi => Nat.testBit_two_pow_add_gt hi t]
      rfl
theorem mem_patK {p : List Int} {k : Int} : ∀ {s : Nat} {x : List Int}, x ∈ patK p k s ↔ ∃ t, t < s ∧ ((subK p t p.length).length : Int) = k ∧ x = patL (subK p t p.length)
  | 0, x => by simp [patK]
  | s + 1, x => by
    have ih := mem_patK (p := p) (k := k) (s := s) (x := x)
    constructor
    · intro h
      by_cases hk : ((subK p s p.length).length : Int) = k
      · rw [patK_yes hk, mem_putL] at h
        rcases h with h | rfl
        · obtain ⟨t, h1, h2⟩ := ih.1 h; exact ⟨t, by omega, h2⟩
        · exact ⟨s, by omega, hk, rfl⟩
      · rw [patK_no hk] at h
        obtain ⟨t, h1, h2⟩ := ih.1 h; exact ⟨t, by omega, h2⟩
    · rintro ⟨t, h1, h2, h3⟩
      by_cases hk : ((subK p s p.length).length : Int) = k
      · rw [patK_yes hk, mem_putL]
        by_cases hts : t = s
        · subst hts; exact .inr h3
        · exact .inl (ih.2 ⟨t, by omega, h2, h3⟩)
      · rw [patK_no hk]
        have hts : t ≠ s := fun e => hk (by rw [← e]; exact h2)
        exact ih.2 ⟨t, by omega, h2, h3⟩
theorem patK_asc (p : List Int) (k : Int) : ∀ s, Asc (patK p k s)
  | 0 => List.Pairwise.nil
  | s + 1 => by
    rw [patK]
    split
    · exact asc_putL (patK_asc p k s)
    · exact patK_asc p k s
theorem patsOK_nat {p : List Int} {k : Nat} (hp : isP p = true) (hk : k ≤ p.length) : patsOK p (k : Int) = true := by
  unfold patsOK
  rw [hp, Bool.true_and, decide_eq_true_eq]
  omega
theorem mem_patsR {p x : List Int} {k : Nat} (hp : isP p = true) (hk : k ≤ p.length) : x ∈ patsR p (k : Int) ↔ ∃ s, s.Sublist p ∧ s.length = k ∧ x = patL s := by
  rw [patsR_yes (patsOK_nat hp hk), mem_patK]
  constructor
  · rintro ⟨t, _, h2, h3⟩
    have h := subK_sub p t p.length (Nat.le_refl _)
    rw [List.take_length] at h
    exact ⟨_, h, by omega, h3⟩
  · rintro ⟨s, h1, h2, h3⟩
    obtain ⟨t, ht, h4⟩ := sub_bits p.length s (Nat.le_refl _) (by rw [List.take_length]; exact h1)
    exact ⟨t, ht, by rw [h4]; omega, by rw [h4]; exact h3⟩
theorem patsR_asc (p : List Int) (k : Int) : Asc (patsR p k) := by
  unfold patsR
  split
  · exact patK_asc p k _
  · exact List.Pairwise.nil
theorem pats_ordL {p : List Int} {k : Nat} (hp : isP p = true) (hk : k ≤ p.length) : ordL ((chR p.length k).map (patA p)) ((chR p.length k).map (patA p)).length = patsR p (k : Int) := by
  refine asc_unique (ordL_asc _ _) (patsR_asc _ _) fun x => ?_
  rw [ordL_mem, List.take_length, mem_pats_ch, mem_patsR hp hk]
theorem pats_allP {p : List Int} {k : Nat} (hp : isP p = true) : allP ((chR p.length k).map (patA p)) = true := by
  unfold allP
  rw [List.all_eq_true]
  intro x hx
  obtain ⟨s, h1, _, rfl⟩ := mem_pats_ch.1 hx
  rw [isP_pat]
  exact patOK_yes (Nat.le_trans h1.length_le (isP_le hp)) ((isP_true.1 hp).2.2.sublist h1)
theorem pats_ordR {p : List Int} {k : Nat} (hp : isP p = true) (hk : k ≤ p.length) : ordR ((chR p.length k).map (patA p)) = patsR p (k : Int) := by
  rw [ordR_yes (pats_allP hp), pats_ordL hp hk]

/-! leaving one out -/
theorem sub_cut {s p : List Int} (h : s.Sublist p) : s.length + 1 = p.length → ∃ i, i < p.length ∧ s = cutAt p i := by
  induction h with
  | slnil => intro h; simp at h
  | cons a h ih =>
    intro hl
    simp only [List.length_cons, Nat.add_right_cancel_iff] at hl
    exact ⟨0, by simp, by rw [h.eq_of_length hl]; simp [cutAt]⟩
  | cons_cons a h ih =>
    intro hl
    simp only [List.length_cons, Nat.add_right_cancel_iff] at hl
    obtain ⟨i, hi, rfl⟩ := ih hl
    exact ⟨i + 1, by simpa using hi, by simp [cutAt]⟩
theorem lowK_mem {p x : List Int} {k : Nat} : x ∈ lowK p k ↔ ∃ i, i < k ∧ x = patL (cutAt p i) := by
  unfold lowK
  rw [(foldl_put _ [] List.Pairwise.nil).2.1]
  simp only [List.not_mem_nil, false_or, List.mem_map, List.mem_range]
  exact ⟨fun ⟨i, h1, h2⟩ => ⟨i, h1, h2.symm⟩, fun ⟨i, h1, h2⟩ => ⟨i, h1, h2.symm⟩⟩
theorem lowK_asc (p : List Int) (k : Nat) : Asc (lowK p k) := (foldl_put _ [] List.Pairwise.nil).1
theorem pats_low (p : List Int) : patsR p ((p.length : Int) - 1) = lowR p := by
  cases hp : isP p with
  | false => rw [lowR_no hp, patsR_no (by unfold patsOK; rw [hp]; rfl)]
  | true =>
    rw [lowR_yes hp]
    by_cases h0 : p.length = 0
    · rw [h0, patsR_no (by unfold patsOK; rw [hp, h0]; rfl)]; rfl
    · obtain ⟨m, hm⟩ : ∃ m, p.length = m + 1 := ⟨p.length - 1, by omega⟩
      rw [show ((p.length : Int) - 1) = (m : Int) by omega]
      refine asc_unique (patsR_asc _ _) (lowK_asc _ _) fun x => ?_
      rw [mem_patsR hp (by omega), lowK_mem]
      constructor
      · rintro ⟨s, h1, h2, rfl⟩
        obtain ⟨i, hi, rfl⟩ := sub_cut h1 (by omega)
        exact ⟨i, hi, rfl⟩
      · rintro ⟨i, hi, rfl⟩
        exact ⟨_, cutAt_sub p i, by have := cutAt_len hi; omega, rfl⟩
end Go.Proofs.Ytnnpefgbneldiaa


/-
  A struct of a row and a list of rows: the words for it (of the tree's chapter and of the boxes').
-/

namespace Go.Proofs.Ytnnpefgbneldiaa
set_option maxRecDepth 100000
open Go.RowKit

/-- The root and the parts of an Inflation, rows of the call's own, apart from each other. -/
structure InfAt (w : World) (B : Nat) (rv pv : Value) (root : List Int) (pcs : List (List Int)) : Prop where
  row : Ints w B rv root
  pcs : Fresh w B pv pcs rv
theorem Fresh.below {w w' : World} {B : Nat} {v u : Value} {zss : List (List Int)} (h : Fresh w B v zss u) (hb : Below w.heap.size w w') : Fresh w' B v zss u := by
  obtain ⟨vs, h1, h2, h3⟩ := h
  exact ⟨vs, own_below h1 hb, h2.keepI (KeepI.of_below hb), h3⟩
theorem Fresh.intsS {w : World} {B : Nat} {v u : Value} {zss : List (List Int)} (h : Fresh w B v zss u) : IntsS w B v zss := by
  obtain ⟨vs, h1, h2, _⟩ := h
  exact ⟨vs, h1, h2⟩
theorem Fresh.low {w : World} {B B' : Nat} {v u : Value} {zss : List (List Int)} (h : Fresh w B v zss u) (hB : B' ≤ B) : Fresh w B' v zss u := by
  obtain ⟨vs, h1, h2, h3⟩ := h
  refine ⟨vs, ⟨h1.1, ?_⟩, h2.low hB, h3⟩
  rcases h1.2 with h0 | ⟨g, cap, cur, hv, hb, hr⟩
  · exact .inl h0
  · exact .inr ⟨g, cap, cur, hv, Nat.le_trans hB hb, hr⟩
theorem InfAt.below {w w' : World} {B : Nat} {rv pv : Value} {root : List Int} {pcs : List (List Int)} (h : InfAt w B rv pv root pcs) (hb : Below w.heap.size w w') : InfAt w' B rv pv root pcs := ⟨h.row.below hb, h.pcs.below hb⟩
theorem InfAt.low {w : World} {B B' : Nat} {rv pv : Value} {root : List Int} {pcs : List (List Int)} (h : InfAt w B rv pv root pcs) (hB : B' ≤ B) : InfAt w B' rv pv root pcs := ⟨h.row.low hB, h.pcs.low hB⟩
def GivesX (w : World) (root : List Int) (pcs : List (List Int)) (e : Ending) (w' : World) : Prop :=
  ∃ A c A' c', e = .returned (.agg #[.slice A root.length c, .slice A' pcs.length c']) ∧ InfAt w' w.heap.size (.slice A root.length c) (.slice A' pcs.length c') root pcs ∧ Below w.heap.size w w'
def GivesXB (w : World) (root : List Int) (pcs : List (List Int)) (b : Bool) (e : Ending) (w' : World) : Prop :=
  ∃ A c A' c', e = .returned (.tuple #[.agg #[.slice A root.length c, .slice A' pcs.length c'], .bool b]) ∧ InfAt w' w.heap.size (.slice A root.length c) (.slice A' pcs.length c') root pcs ∧ Below w.heap.size w w'
theorem GivesX.mk {w w' : World} {rv pv : Value} {root : List Int} {pcs : List (List Int)} (h : InfAt w' w.heap.size rv pv root pcs) (hb : Below w.heap.size w w') : GivesX w root pcs (.returned (.agg #[rv, pv])) w' := by
  obtain ⟨A, c, rfl⟩ := h.row.slice
  obtain ⟨A', c', rfl⟩ := h.pcs.intsS.slice
  exact ⟨A, c, A', c', rfl, h, hb⟩
theorem GivesXB.mk {w w' : World} {rv pv : Value} {root : List Int} {pcs : List (List Int)} (b : Bool) (h : InfAt w' w.heap.size rv pv root pcs) (hb : Below w.heap.size w w') : GivesXB w root pcs b (.returned (.tuple #[.agg #[rv, pv], .bool b])) w' := by
  obtain ⟨A, c, rfl⟩ := h.row.slice
  obtain ⟨A', c', rfl⟩ := h.pcs.intsS.slice
  exact ⟨A, c, A', c', rfl, h, hb⟩

theorem IntsS.cap {w : World} {B n c : Nat} {A : Option Addr} {zss : List (List Int)} (h : IntsS w B (.slice A n c) zss) : n ≤ c := by
  have hl := h.len
  obtain ⟨vs, h1, _⟩ := h
  rcases h1.2 with ⟨hv, hz⟩ | ⟨g, cap, cur, hv, _, _, hnc, _⟩
  · injection hv with _ h3; omega
  · injection hv with _ h3 h4
    omega

/-- A row that lies over a block is not met by what is put into that block. -/
theorem Ints.aside {w : World} {B : Nat} {v : Value} {zs : List Int} (h : Ints w B v zs) {p : Addr} (hp : p.block < B) (u : Value) : Ints (w.setCell p u) B v zs := by
  refine ⟨h.1, ?_⟩
  rcases h.2 with hn | ⟨g, cap, cur, e, rfl, hb, hgg, h1, h2, he⟩
  · exact .inl hn
  · exact .inr ⟨g, cap, cur, e, rfl, hb, (Below.heap_setCell w p u g (by omega)).trans hgg, h1, h2, he⟩

theorem own_aside {w : World} {B n k : Nat} {e : TypeId} {v : Value} {xs : List Value} (h : w.ownsRow B e k v n xs) {p : Addr} (hp : p.block < B) (u : Value) : (w.setCell p u).ownsRow B e k v n xs := by
  refine ⟨h.1, ?_⟩
  rcases h.2 with hn | ⟨g, cap, cur, rfl, hb, hgg, hr⟩
  · exact .inl hn
  · exact .inr ⟨g, cap, cur, rfl, hb, (Below.heap_setCell w p u g (by omega)).trans hgg, hr⟩
theorem Fresh.aside {w : World} {B : Nat} {v r : Value} {zss : List (List Int)} (h : Fresh w B v zss r) {p : Addr} (hp : p.block < B) (u : Value) : Fresh (w.setCell p u) B v zss r := by
  obtain ⟨vs, h1, h2, h3⟩ := h
  exact ⟨vs, own_aside h1 hp u, ⟨h2.len, fun i x zs hx hz => (h2.row i x zs hx hz).aside hp u, h2.away⟩, h3⟩
theorem InfAt.aside {w : World} {B : Nat} {rv pv : Value} {root : List Int} {pcs : List (List Int)} (h : InfAt w B rv pv root pcs) {p : Addr} (hp : p.block < B) (u : Value) : InfAt (w.setCell p u) B rv pv root pcs :=
  ⟨h.row.aside hp u, h.pcs.aside hp u⟩
/-- What a call gave is put into the block of its own result. -/
theorem inf_end {w w3 : World} {B : Nat} {rv pv : Value} {root : List Int} {pcs : List (List Int)} (hIn : InfAt w3 B rv pv root pcs) (hB : w.heap.size < B) (hb : Below w.heap.size w w3) :
    GivesX w root pcs (.returned (.agg #[rv, pv])) ((w3.setCell ⟨w.heap.size, 0, none⟩ rv).setCell ⟨w.heap.size, 1, none⟩ pv) :=
  GivesX.mk (((hIn.aside (by simpa using hB) _).aside (by simpa using hB) _).low (by omega)) ((hb.setCell (Nat.le_refl _) _).setCell (Nat.le_refl _) _)
end Go.Proofs.Ytnnpefgbneldiaa


/-
  A STRUCT'S FIELD []int AS PART OF AN ARGUMENT: how it reads.
-/

namespace Go.Proofs.Ytnnpefgbneldiaa
set_option maxRecDepth 100000
open Go.RowKit Go.ChangeShapes Go.WideShapes Go.ChangeAt

/-- A field []int, as 'Reads'. -/
theorem open_ints_cell {H : Type} {enc : TypeId × Value → H} {P : Program} {w : World} {t e : TypeId} {v : Value} {y : DataW H × List MemPlace} {k : Nat} (ht : P.underlying t = some (.slice e)) (he : P.underlying e = some (.int .i64)) (hc : P.cellsOf e = 1)
    (hf : DataW.trod enc P w 0 (fun _ => true) true k t [v] = some y) (hlt : ∀ x ∈ y.2, x.block < w.heap.size) :
    ∃ (A : Option Addr) (n c : Nat) (zs : List Int), v = .slice A n c ∧ Reads w w.heap.size A n (i64s zs) ∧ n ≤ maxLen ∧ Small zs := by
  rcases open_ints ht he hc hf with ⟨hcs, hx⟩ | ⟨a, len', cap', zs, hcs, _, hl, hm, hz, hx, hcell, hws⟩
  · injection hcs with hcs
    subst hcs
    exact ⟨none, 0, 0, [], rfl, Reads.none_, Nat.zero_le _, fun z hz => by simp at hz⟩
  · injection hcs with hcs
    subst hcs
    subst hx
    simp only [if_true] at hz
    refine ⟨some a, len', cap', zs.take len', rfl, ⟨by rw [i64_length, List.length_take]; omega, fun hn => ⟨a, rfl, lt_of_row (j := 0) hlt (by omega), fun j u hu => ?_⟩⟩, by omega, small_of_wf fun z hz => hws z (List.mem_of_mem_take hz)⟩
    unfold i64s at hu
    rw [List.getElem?_map, List.getElem?_take] at hu
    by_cases hj : j < len'
    · rw [if_pos hj] at hu
      rw [hcell j (by omega), ← hu, List.getD_eq_getElem?_getD]
      have : zs[j]? = some zs[j] := List.getElem?_eq_getElem (by omega)
      rw [this]; rfl
    · rw [if_neg hj] at hu; cases hu
end Go.Proofs.Ytnnpefgbneldiaa


/-
  A list of rows at one cell opened; the size of a row and a list of rows.
-/

namespace Go.Proofs.Ytnnpefgbneldiaa
set_option maxRecDepth 100000
open Go.RowKit Go.ChangeShapes Go.WideShapes Go.ChangeAt

/-- A field [][]int, as 'ReadsS'. -/
theorem open_intss_cell {H : Type} {enc : TypeId × Value → H} {P : Program} {w : World} {t e ei : TypeId} {v : Value} {y : DataW H × List MemPlace} {k : Nat} (ht : P.underlying t = some (.slice e)) (he : P.underlying e = some (.slice ei)) (hei : P.underlying ei = some (.int .i64)) (hc : P.cellsOf e = 1) (hci : P.cellsOf ei = 1)
    (hf : DataW.trod enc P w 0 (fun _ => true) true k t [v] = some y) (hlt : ∀ x ∈ y.2, x.block < w.heap.size) :
    ∃ (A : Option Addr) (n c : Nat) (zss : List (List Int)), v = .slice A n c ∧ ReadsS w w.heap.size A n zss ∧ n ≤ maxLen ∧ ∀ z ∈ zss, z.length ≤ maxLen ∧ Small z := by
  rcases DataW.trod_slice ht hf with ⟨hcs, hx⟩ | ⟨a, len', cap', elems, rest, m, _, hcs, hx, _, hl, hm, hlen, hel, _, _⟩
  · injection hcs with hcs
    subst hcs
    exact ⟨none, 0, 0, [], rfl, ⟨rfl, fun h => absurd h (by omega)⟩, Nat.zero_le _, by simp⟩
  · injection hcs with hcs
    subst hcs
    subst hx
    have each : ∀ i, i < len' → ∃ z : List Int, (∃ A' c', w.cell? (a.add i) = some (.slice A' z.length c') ∧ Reads w w.heap.size A' z.length (i64s z)) ∧ z.length ≤ maxLen ∧ Small z := by
      intro i hi
      have h1 := hel i hi
      rw [hc, Nat.mul_one, List.getElem?_eq_getElem (by omega), Option.bind_eq_some_iff] at h1
      obtain ⟨cs', hcs', htr⟩ := h1
      have hq : ∀ x ∈ (elems[i]'(by omega)).2, x.block < w.heap.size := fun x hx => hlt x (List.mem_append.2 (.inr (List.mem_flatMap.2 ⟨elems[i]'(by omega), List.mem_append.2 (.inl (List.getElem_mem _)), hx⟩)))
      rcases open_ints he hei hci htr with ⟨rfl, _⟩ | ⟨a', len'', cap'', zs, rfl, _, hl', hm', hz, hx', hcell, hws⟩
      · exact ⟨[], ⟨none, 0, cell_of_cells?_one hcs', Reads.none_⟩, Nat.zero_le _, fun z hz => by simp at hz⟩
      · simp only [if_true] at hz
        have e1 : (zs.take len'').length = len'' := by rw [List.length_take]; omega
        refine ⟨zs.take len'', ⟨some a', cap'', by rw [e1]; exact cell_of_cells?_one hcs', ?_⟩, by omega, small_of_wf fun z hz => hws z (List.mem_of_mem_take hz)⟩
        refine ⟨by rw [i64_length], fun hn => ⟨a', rfl, ?_, fun j u hu => ?_⟩⟩
        · rw [hx'] at hq
          exact lt_of_row (j := 0) hq (by omega)
        · unfold i64s at hu
          rw [List.getElem?_map, List.getElem?_take] at hu
          by_cases hj : j < len''
          · rw [if_pos hj] at hu
            rw [hcell j (by omega), ← hu, List.getD_eq_getElem?_getD]
            have : zs[j]? = some zs[j] := List.getElem?_eq_getElem (by omega)
            rw [this]; rfl
          · rw [if_neg hj] at hu; cases hu
    obtain ⟨zss, hz1, hz2⟩ := list_of len' each
    refine ⟨some a, len', cap', zss, rfl, ⟨hz1, fun hn => ⟨a, rfl, ?_, fun j z hz => (hz2 j z hz).1⟩⟩, by omega, fun z hz => ?_⟩
    · rw [hc] at hlt
      refine lt_of_row (m := (elems.length + rest.length) * 1) (j := 0) (fun x hx => hlt x (List.mem_append.2 (.inl hx))) (by omega)
    · obtain ⟨i, hi, rfl⟩ := List.getElem_of_mem hz
      exact (hz2 i _ (List.getElem?_eq_getElem hi)).2

end Go.Proofs.Ytnnpefgbneldiaa


/-
  Results of a Mesh and a bool; the columns of a Near, row by row (plain).
-/

namespace Go.Proofs.Ytnnpefgbneldiaa
set_option maxRecDepth 100000
open Go.RowKit

theorem results_mesh {P : Program} {fn : Func} {p u : Tmp} {ty : TypeId} (h : fn.results = #[.cell p ty, .tmp u]) (tmps : Array Value) (w : World) (g : Nat) (t : TypeId) (cs : Array Value) (fr : Nat × Nat) (d : TypeDesc)
    (hp : tmps.getD p undef = .pointer (some ⟨g, 0, none⟩)) (hg : w.heap[g]? = some (.cells cs t fr))
    (hu : P.underlying ty = some d) (hd : (match d with | .struct _ | .array _ _ => true | _ => false) = true) (hi : (P.info? ty).map (·.size) = some cs.size) :
    (results fn tmps).run P w = .ok (.tuple #[.agg cs, tmps.getD u undef]) w := by
  rw [results_cell_tmp h, hp]
  simp [asAddr, Result.andThen, run_loadVar_row w g t ty cs fr d hg hu hd hi]
theorem meshB_end {w w3 : World} {B rb : Nat} {rv pv : Value} {root : List Int} {pcs : List (List Int)} (b : Bool) (hIn : InfAt w3 B rv pv root pcs) (h1 : w.heap.size ≤ rb) (h2 : rb < B) (hb : Below w.heap.size w w3) :
    GivesXB w root pcs b (.returned (.tuple #[.agg #[rv, pv], .bool b])) ((w3.setCell ⟨rb, 0, none⟩ rv).setCell ⟨rb, 1, none⟩ pv) :=
  GivesXB.mk b (((hIn.aside (by simpa using h2) _).aside (by simpa using h2) _).low (by omega)) ((hb.setCell h1 _).setCell h1 _)
theorem mesh_nil (w : World) (B : Nat) : InfAt w B (.slice none 0 0) (.slice none 0 0) [] [] :=
  ⟨Ints.nil w B, ⟨[], ⟨rfl, .inl ⟨rfl, rfl⟩⟩, Inner.nil _ _, fun x hx => by cases hx⟩⟩
theorem Ints.two2 (w : World) (B : Nat) (a b : Int) (hB : B ≤ w.heap.size) : Ints (w.alloc (.cells #[.int .i64 a, .int .i64 b] 3)) B (.slice (some ⟨w.heap.size, 0, none⟩) 2 2) [a, b] :=
  Ints.of_own (zs := [a, b]) ⟨rfl, .inr ⟨w.heap.size, 2, #[.int .i64 a, .int .i64 b], rfl, hB, heap_alloc_new w _, Nat.le_refl _, by unfold maxLen; omega, rfl, rfl⟩⟩
/-- A list of rows, and a row made behind it. -/
theorem Fresh.of_new {w w' : World} {B : Nat} {v u : Value} {zss : List (List Int)} {z : List Int} (hS : IntsS w B v zss) (hb : Below w.heap.size w w') (hu : Ints w' w.heap.size u z) : Fresh w' B v zss u := by
  obtain ⟨vs, h1, h2⟩ := hS
  exact ⟨vs, own_below h1 hb, h2.keepI (KeepI.of_below hb), fun x hx => by
    obtain ⟨zs, hz⟩ := h2.mem hx
    exact away_since hz hu.since⟩
theorem InfAt.of_new {w w' : World} {B : Nat} {v u : Value} {zss : List (List Int)} {z : List Int} (hS : IntsS w B v zss) (hB : B ≤ w.heap.size) (hb : Below w.heap.size w w') (hu : Ints w' w.heap.size u z) : InfAt w' B u v z zss :=
  ⟨hu.low hB, Fresh.of_new hS hb hu⟩
theorem meshInfo' : (Try.prog.info? 47).map (·.size) = some 2 := by kernel_rfl

/-! plain -/
/-- The first r boxes of a column. -/
def colI (j : Int) (r : Nat) : List (List Int) := (List.range r).map fun (y : Nat) => [j, (y : Int)]
theorem colI_step (j : Int) (r : Nat) : colI j (r + 1) = colI j r ++ [[j, (r : Int)]] := by unfold colI; rw [List.range_succ, List.map_append]; rfl
theorem colS_step {n : Nat} {J : List Int} {k : Nat} {j : Int} (h : J[k]? = some j) : colS n (J.take (k + 1)) = colS n (J.take k) ++ colI j (n + 1) := by
  unfold colS colI
  rw [List.take_add_one, h, List.flatMap_append]
  simp
theorem colI_length (j : Int) (r : Nat) : (colI j r).length = r := by unfold colI; simp
theorem colS_length (n : Nat) (J : List Int) : (colS n J).length = J.length * (n + 1) := by
  induction J with
  | nil => simp [colS]
  | cons a r ih =>
    have : colS n (a :: r) = colI a (n + 1) ++ colS n r := by unfold colS colI; rw [List.flatMap_cons]
    rw [this, List.length_append, colI_length, ih, List.length_cons, Nat.add_mul]
    omega
theorem near_short {n : Nat} {J : List Int} (h : PlOK n J) : J.length ≤ n := by
  have h1 := nums_sub' (p := List.replicate n 0) (pl := J) (by rw [List.length_replicate]; exact h)
  have := h1.length_le
  rwa [nums_length, List.length_replicate] at this
/-- What MeshOf answers. -/
def mofOK (q J : List Int) : Bool := nearOK q J && decide (q.length ≤ 4)
def mofQ (q J : List Int) : List Int := if mofOK q J then q else []
def mofS (q J : List Int) : List (List Int) := if mofOK q J then colS q.length J else []
theorem mof_no {q J : List Int} (h : nearOK q J = false ∨ ¬ q.length ≤ 4) : mofOK q J = false ∧ mofQ q J = [] ∧ mofS q J = [] := by
  have : mofOK q J = false := by unfold mofOK; rcases h with h | h <;> simp [h]
  exact ⟨this, by unfold mofQ; rw [this]; rfl, by unfold mofS; rw [this]; rfl⟩
theorem mof_yes {q J : List Int} (h : nearOK q J = true) (h4 : q.length ≤ 4) : mofOK q J = true ∧ mofQ q J = q ∧ mofS q J = colS q.length J := by
  have : mofOK q J = true := by unfold mofOK; simp [h, h4]
  exact ⟨this, by unfold mofQ; rw [this]; rfl, by unfold mofS; rw [this]; rfl⟩
theorem tot_pairs : ∀ {zss : List (List Int)}, (∀ z ∈ zss, z.length = 2) → tot zss = 2 * zss.length
  | [], _ => rfl
  | z :: r, h => by
    have h1 := tot_pairs (zss := r) fun x hx => h x (by simp [hx])
    have h2 := h z (by simp)
    unfold tot at h1 ⊢
    rw [List.map_cons, List.sum_cons, h1, h2, List.length_cons]
    omega
theorem colS_two (n : Nat) (J : List Int) : ∀ z ∈ colS n J, z.length = 2 := fun z hz => by
  unfold colS at hz
  obtain ⟨j, _, h⟩ := List.mem_flatMap.1 hz
  obtain ⟨y, _, rfl⟩ := List.mem_map.1 h
  rfl
theorem mof_sizes (q J : List Int) : (mofQ q J).length ≤ 1048576 ∧ (mofS q J).length ≤ 1048576 ∧ tot (mofS q J) ≤ 1048576 := by
  by_cases h : nearOK q J = true
  · by_cases h4 : q.length ≤ 4
    · obtain ⟨_, e2, e3⟩ := mof_yes h h4
      have hj := near_short (nearOK_iff.1 h).2
      have h1 : J.length * (q.length + 1) ≤ 4 * 5 := Nat.mul_le_mul (by omega) (by omega)
      rw [e2, e3, tot_pairs (colS_two _ _), colS_length]
      omega
    · obtain ⟨_, e2, e3⟩ := mof_no (q := q) (J := J) (.inr h4)
      rw [e2, e3]
      simp [tot]
  · obtain ⟨_, e2, e3⟩ := mof_no (q := q) (J := J) (.inl (by simpa using h))
    rw [e2, e3]
    simp [tot]
end Go.Proofs.Ytnnpefgbneldiaa


/-
  WORDS: a row of integers grows beside a list of rows that lies apart from it; the list grows beside the row. Nothing here speaks of a function of the program.
-/

namespace Go.Proofs.Ytnnpefgbneldiaa
set_option maxRecDepth 100000
open Go.RowKit

theorem own_keepI {w w' : World} {B n : Nat} {v : Value} {xs : List Value} (h : w.ownsRow B 3 1 v n xs) (hk : KeepI w w') : w'.ownsRow B 3 1 v n xs := by
  refine ⟨h.1, ?_⟩
  rcases h.2 with hn | ⟨g, cap, cur, rfl, hb, hgg, hr⟩
  · exact .inl hn
  · exact .inr ⟨g, cap, cur, rfl, hb, (hk.block g cur _ _ hgg (by decide)).trans hgg, hr⟩
/-- 'out = append(out, x)', an integer, beside a list of rows. -/
theorem wpList_append_beside {ops : Array Oper} {rest : List Oper} {o : Oper} {a : Act} {W : World} {Q : Exit → Act → World → Prop} (hgd : o.guard = none) (sl x : Operand)
    (ho : o.op = .call { callee := .builtin .append, args := #[sl, x], argTypes := #[24, 24] })
    (base n : Nat) (wr : World) (v l : Value) (xs : List Int) (z : Int) (zss : List (List Int)) (hs : a.eval sl = v) (hx : a.eval x = .slice (some ⟨wr.heap.size, 0, none⟩) 1 1) (hW : W = wr.alloc (.cells #[.int .i64 z] 3))
    (hown : wr.ownsRow base 3 1 v n (i64s xs)) (hF : Fresh wr base l zss v) (hn : n ≤ 1048576) (hbase : base ≤ wr.heap.size)
    (K : ∀ v' w', w'.ownsRow base 3 1 v' (n + 1) (i64s (xs ++ [z])) → Fresh w' base l zss v' → Below base wr w' → wpList Try.prog ops Q rest (a.put o.dst v') w') : wpList Try.prog ops Q (o :: rest) a W := by
  obtain ⟨i0, hi, hz0, hz1, hz2⟩ := info_parts intInfo
  obtain ⟨vs, hl, hin, ha⟩ := hF
  have hal := (Below.refl wr.heap.size wr).alloc (Nat.le_refl _) (.cells #[.int .i64 z] 3)
  have hown2 := own_below hown hal
  have hl2 := own_below hl hal
  have hin2 := hin.keepI (KeepI.of_below hal)
  have hne := rows_apart hl2 (Ints.of_own (zs := xs) hown2)
  subst hW
  refine wpList_append_own_at _ hgd sl x 24 ho base 3 i0 (.int .i64 0) 1 8 Try.underlying24 hi hz0 hz1 hz2 rfl (by decide) v _ _ hs hown2 ⟨wr.heap.size, 0, none⟩ 1 1 [.int .i64 z] hx rfl (cell_one_new _ _ _) ?_ (by unfold maxLen; omega) (by omega) (by simp; omega) ?_
  · intro y hy
    obtain rfl := List.mem_singleton.1 hy
    rfl
  · intro v' w' h1 h2 _ h4
    rw [← show i64s (xs ++ [z]) = i64s xs ++ [.int .i64 z] by simp [i64s]] at h1
    refine K v' w' h1 ⟨vs, hl2.kept h2 hne, ⟨hin2.len, fun i u zs hu hz => (hin2.row i u zs hu hz).kept h2 (ha u (List.mem_of_getElem? hu)), hin2.away⟩, fun u hu => ?_⟩ ((hal.mono hbase).grown h2 (by simp; omega) (fun k hk => (hown.lt k hk).1))
    obtain ⟨zs, hz⟩ := hin.mem hu
    rcases h4 with h4 | h4
    · rcases ha u hu with h | h
      · exact .inl h
      · exact .inr (by rw [h4]; exact h)
    · cases hl : u.ownBlock with
      | none => exact .inl hl
      | some g =>
        refine .inr ?_
        rw [hl, h4]
        intro e
        have h5 := hz.until_ g hl
        simp at e
        omega
/-- 'list = append(list, row)' at a step of a region that draws, beside a row of integers. -/
theorem step_push_beside {ops : Array Oper} {o : Oper} {a : Act} {W : World} {K : Act → World → Prop} {Q : Exit → Act → World → Prop} {E : Prop} (hgd : o.guard = none) (sl x : Operand)
    (ho : o.op = .call { callee := .builtin .append, args := #[sl, x], argTypes := #[40, 40] })
    (base : Nat) (w0 wr : World) (v u r : Value) (zss : List (List Int)) (zs : List Int) (hs : a.eval sl = v) (hx : a.eval x = .slice (some ⟨wr.heap.size, 0, none⟩) 1 1) (hW : W = wr.alloc (.cells #[u] 24) ∨ W = (wr.alloc (.cells #[u] 24)).drew)
    (hF : Fresh w0 base v zss r) (hb0 : Below w0.heap.size w0 wr) (hu : Ints wr w0.heap.size u zs) (hr : Until w0.heap.size r) (hn : zss.length ≤ 1048576) (hbase : base ≤ w0.heap.size)
    (hK : ∀ v' w', Fresh w' base v' (zss ++ [zs]) r → Below base w0 w' → KeepI w0 w' → K (a.put o.dst v') w') :
    if Region.wanted o (yielded ops a.tmps) = true then Oper.wp Try.prog o a W K Q else E := by
  obtain ⟨vs, hown, hin, ha⟩ := hF
  have hsz := hb0.size
  have hal : Below wr.heap.size wr W := by
    rcases hW with rfl | rfl
    · exact (Below.refl wr.heap.size wr).alloc (Nat.le_refl _) (.cells #[u] 24)
    · exact ((Below.refl wr.heap.size wr).alloc (Nat.le_refl _) (.cells #[u] 24)).drew
  have hrd : Reads W (wr.heap.size + 1) (some ⟨wr.heap.size, 0, none⟩) 1 [u] := by
    rcases hW with rfl | rfl
    · exact reads_new wr _ _
    · exact (reads_new wr _ _).drew
  have hown1 := own_below hown hb0
  have hown2 := own_below hown1 hal
  obtain ⟨A1, c1, rfl⟩ := hu.slice
  have hball := below_after hb0 hal
  refine step_append_rows hgd sl x ho base (wr.heap.size + 1) zss.length 1 1 w0 v (some ⟨wr.heap.size, 0, none⟩) vs [.slice A1 zs.length c1] hs hx hown2 hrd (fun h => by cases h) (fun y hy => by obtain rfl := List.mem_singleton.1 hy; rfl) (by omega) (by omega) (hball.mono hbase) (Nat.le_trans hbase hball.size) fun v' w' h1 h2 h3 _ => ?_
  have hk := (KeepI.of_below hball).trans (KeepI.of_grown hown2 h3)
  have hk1 := (KeepI.of_below hal).trans (KeepI.of_grown hown2 h3)
  refine hK v' w' ⟨vs ++ [.slice A1 zs.length c1], by rw [List.length_append]; exact h1, (hin.keepI hk).push ((hu.low hbase).keepI hk1) (hin.away_new hu.since (Nat.le_refl _)), fun y hy => ?_⟩ h2 hk
  rcases List.mem_append.1 hy with hy | hy
  · exact ha y hy
  · obtain rfl := List.mem_singleton.1 hy
    exact apart' hu.since hr (Nat.le_refl _)
end Go.Proofs.Ytnnpefgbneldiaa


/-
  A Mesh in a block of the call's own whose list grows.
-/

namespace Go.Proofs.Ytnnpefgbneldiaa
set_option maxRecDepth 100000
open Go.RowKit
/-- What holds of a Mesh in block g while its list grows. -/
structure MofAt (w : World) (g n : Nat) (A2 : Option Addr) (c2 : Nat) (q : List Int) (X : TypeId) (xs : Array Value) (zss : List (List Int)) (Aj : Option Addr) (cj : Nat) (wr : World) : Prop where
  hG : Whole wr g 47 #[.slice A2 n c2, .slice Aj zss.length cj]
  hF : Fresh wr (g + 1) (.slice Aj zss.length cj) zss (.slice A2 n c2)
  hX : Whole wr w.heap.size X xs
  hR : Whole wr (w.heap.size + 1) 47 #[.slice none 0 0, .slice none 0 0]
  hP : Ints wr (w.heap.size + 2) (.slice A2 n c2) q
  hB : Below w.heap.size w wr
/-- The list is put anew, another world behind. -/
theorem MofAt.next {w : World} {g n : Nat} {A2 : Option Addr} {c2 : Nat} {q : List Int} {X : TypeId} {xs : Array Value} {zss yss : List (List Int)} {Aj A' : Option Addr} {cj c' : Nat} {wr w' : World} (h : MofAt w g n A2 c2 q X xs zss Aj cj wr) (hU : Until g (.slice A2 n c2)) (hg : w.heap.size + 2 ≤ g)
    (hb : Below (g + 1) wr w') (hF : Fresh w' (g + 1) (.slice A' yss.length c') yss (.slice A2 n c2)) : MofAt w g n A2 c2 q X xs yss A' c' (w'.setCell ⟨g, 1, none⟩ (.slice A' yss.length c')) :=
  ⟨(h.hG.below hb (Nat.lt_succ_self g)).put 1 _, hF.aside (p := ⟨g, 1, none⟩) (Nat.lt_succ_self g) _, (h.hX.below hb (by omega)).far (p := ⟨g, 1, none⟩) (by simp; omega) _, (h.hR.below hb (by omega)).far (p := ⟨g, 1, none⟩) (by simp; omega) _,
    (ints_under h.hP hU hb).kept (grownBy_setCellA w' ⟨g, 1, none⟩ _) (away_block hU), (h.hB.trans (hb.mono (by omega))).setCell (p := ⟨g, 1, none⟩) (by show w.heap.size ≤ g; omega) _⟩
theorem MofAt.end_ {w : World} {g n : Nat} {A2 : Option Addr} {c2 : Nat} {q : List Int} {X : TypeId} {xs : Array Value} {zss : List (List Int)} {Aj : Option Addr} {cj : Nat} {wr : World} (h : MofAt w g n A2 c2 q X xs zss Aj cj wr) (hg : w.heap.size + 2 ≤ g) :
    InfAt wr (w.heap.size + 2) (.slice A2 n c2) (.slice Aj zss.length cj) q zss := ⟨h.hP, h.hF.low (by omega)⟩
theorem Fresh.shape {w : World} {B : Nat} {v r : Value} {zss : List (List Int)} (h : Fresh w B v zss r) : ∃ A c, v = .slice A zss.length c := h.intsS.slice
theorem Fresh.nil_ (w : World) (B : Nat) (r : Value) : Fresh w B (.slice none 0 0) [] r := ⟨[], ⟨rfl, .inl ⟨rfl, rfl⟩⟩, Inner.nil _ _, fun x hx => by cases hx⟩
/-- A list over the block, a row under it. -/
theorem Fresh.of_under {w : World} {g : Nat} {v r : Value} {zss : List (List Int)} (hS : IntsS w (g + 1) v zss) (hU : Until g r) : Fresh w (g + 1) v zss r := by
  obtain ⟨vs, h1, h2⟩ := hS
  exact ⟨vs, h1, h2, fun x hx => by
    obtain ⟨zs, hz⟩ := h2.mem hx
    exact Away.symm (apart hU hz.since (Nat.le_succ g))⟩
end Go.Proofs.Ytnnpefgbneldiaa
