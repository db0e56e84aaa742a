/-
  Words and contracts that the laws lean on, bundled: InfT, SimT, SepF, TreeW, TreeE, TreeF, Sames, Big.
-/
import Derived.Test.YtinnlhfdgbeibaaGreatB8
import Derived.Test.YtinnlhfdgbeibaaGreatB3
import Derived.Test.YtinnlhfdgbeibaaGreatB10
import Derived.Test.YtinnlhfdgbeibaaGreatB7
import Derived.Test.YtinnlhfdgbeibaaGreatB4
import Derived.Deep.RegionHeld3
import Derived.Test.YtinnlhfdgbeibaaGreatB1
import Derived.Test.YtinnlhfdgbeibaaGreatProg

/-
  PLAIN: a permutation is the inflation of its root by its parts; the root is simple; a simple permutation of four or more is its own root. Nothing here speaks of the program.
-/

namespace Go.Proofs.YtinnlhfdgbeibaaGreat
set_option maxRecDepth 100000

theorem infl_sum {s : Bool} {a b : List Int} : inflK (sumRoot s) [a, b] 2 = joinL s a b := by
  cases s with
  | false =>
    simp [inflK, baseK, sumRoot, joinL, at0]
  | true =>
    simp [inflK, baseK, sumRoot, joinL, at0]

/-! the blocks of a permutation -/
/-- Block number i begins at index (blk p i).1 and has (blk p i).2 + 1 places. -/
structure Blocks (p : List Int) (l : List (Nat × Nat)) : Prop where
  at_ : ∀ (i : Nat) c, l[i]? = some c → c.1 + c.2 < p.length ∧ c.2 = topK p c.1 (p.length - 1 - c.1)
  next : ∀ (i : Nat) c d, l[i]? = some c → l[i + 1]? = some d → d.1 = c.1 + c.2 + 1
theorem cuts_blocks (p : List Int) (a : Nat) : Blocks p (cuts p a) ∧ (∀ c, (cuts p a)[0]? = some c → c.1 = a) ∧ (a < p.length → ∃ c, (cuts p a)[(cuts p a).length - 1]? = some c ∧ c.1 + c.2 + 1 = p.length) := by
  induction a using cuts_ind (p := p) with
  | h0 a h =>
    rw [cuts_no h]
    exact ⟨⟨fun i c hc => by simp at hc, fun i c d hc => by simp at hc⟩, fun c hc => by simp at hc, fun h2 => absurd h2 h⟩
  | h1 a h ih =>
    have ht := topK_le p a (p.length - 1 - a)
    obtain ⟨hb, h0, hl⟩ := ih
    rw [cuts_yes h]
    refine ⟨⟨fun i c hc => ?_, fun i c d hc hd => ?_⟩, fun c hc => ?_, fun _ => ?_⟩
    · cases i with
      | zero => simp at hc; subst hc; exact ⟨by simp only; omega, rfl⟩
      | succ i => exact hb.at_ i c (by simpa using hc)
    · cases i with
      | zero =>
        simp at hc
        subst hc
        rw [List.getElem?_cons_succ] at hd
        exact h0 d hd
      | succ i => exact hb.next i c d (by simpa using hc) (by simpa using hd)
    · simp at hc; subst hc; rfl
    · by_cases hlt : a + topK p a (p.length - 1 - a) + 1 < p.length
      · obtain ⟨c, hc, he⟩ := hl hlt
        refine ⟨c, ?_, he⟩
        have hne : cuts p (a + topK p a (p.length - 1 - a) + 1) ≠ [] := by rw [cuts_yes hlt]; simp
        have hp : 0 < (cuts p (a + topK p a (p.length - 1 - a) + 1)).length := List.length_pos_iff.2 hne
        rw [List.length_cons, Nat.add_sub_cancel]
        rw [show (cuts p (a + topK p a (p.length - 1 - a) + 1)).length = (cuts p (a + topK p a (p.length - 1 - a) + 1)).length - 1 + 1 by omega, List.getElem?_cons_succ]
        exact hc
      · rw [cuts_no hlt]
        exact ⟨(a, topK p a (p.length - 1 - a)), by simp, by simp only; omega⟩
/-- Where block number i begins. -/
def beg (p : List Int) (i : Nat) : Nat := ((cuts p 0)[i]?.map (·.1)).getD p.length
def wid (p : List Int) (i : Nat) : Nat := ((cuts p 0)[i]?.map (·.2)).getD 0
section
variable {p : List Int}
theorem beg_zero (h0 : 0 < p.length) : beg p 0 = 0 := by
  unfold beg
  have := (cuts_blocks p 0).2.1
  rw [cuts_yes h0] at this ⊢
  simp
theorem blk_some {i : Nat} (hi : i < (cuts p 0).length) : (cuts p 0)[i]? = some (beg p i, wid p i) := by
  have h := List.getElem?_eq_getElem hi
  unfold beg wid
  rw [h]; rfl
theorem beg_end {i : Nat} (hi : ¬ i < (cuts p 0).length) : beg p i = p.length := by
  unfold beg
  rw [List.getElem?_eq_none (by omega)]; rfl
theorem beg_next (h0 : 0 < p.length) {i : Nat} (hi : i < (cuts p 0).length) : beg p (i + 1) = beg p i + wid p i + 1 := by
  obtain ⟨hb, _, hl⟩ := cuts_blocks p 0
  by_cases h1 : i + 1 < (cuts p 0).length
  · have := hb.next i _ _ (blk_some hi) (blk_some h1)
    simpa using this
  · rw [beg_end h1]
    obtain ⟨c, hc, he⟩ := hl h0
    rw [show (cuts p 0).length - 1 = i by omega, blk_some hi] at hc
    injection hc with hc
    subst hc
    simp only at he
    omega
theorem blk_lt {i : Nat} (hi : i < (cuts p 0).length) : beg p i + wid p i < p.length := ((cuts_blocks p 0).1.at_ i _ (blk_some hi)).1
theorem blk_top {i : Nat} (hi : i < (cuts p 0).length) : wid p i = topK p (beg p i) (p.length - 1 - beg p i) := ((cuts_blocks p 0).1.at_ i _ (blk_some hi)).2
theorem blk_iv (hp : isP p = true) {i : Nat} (hi : i < (cuts p 0).length) : iv p (beg p i) (wid p i) = true := by
  rw [blk_top hi]
  exact topK_iv hp (by have := blk_lt hi; omega) _
theorem beg_mono (h0 : 0 < p.length) {i j : Nat} (hij : i ≤ j) (hj : j ≤ (cuts p 0).length) : beg p i ≤ beg p j := by
  induction j with
  | zero => rw [show i = 0 by omega]; exact Nat.le_refl _
  | succ j ih =>
    by_cases e : i = j + 1
    · rw [e]; exact Nat.le_refl _
    · have := ih (by omega) (by omega)
      have := beg_next h0 (i := j) (by omega)
      omega
def blkS (p : List Int) (i : Nat) : List Int := seg p (beg p i) (wid p i + 1)
theorem blk_apart (h0 : 0 < p.length) {i j : Nat} (hi : i < (cuts p 0).length) (hj : j < (cuts p 0).length) (hij : i ≠ j) : beg p i + wid p i < beg p j ∨ beg p j + wid p j < beg p i := by
  rcases Nat.lt_or_ge i j with h | h
  · have h1 := beg_mono h0 (i := i + 1) (j := j) (by omega) (by omega)
    have h2 := beg_next h0 hi
    exact .inl (by omega)
  · have h1 := beg_mono h0 (i := j + 1) (j := i) (by omega) (by omega)
    have h2 := beg_next h0 hj
    exact .inr (by omega)
theorem tops_at {i : Nat} (hi : i < (cuts p 0).length) : (topsOf p (cuts p 0))[i]? = some (at0 p (beg p i)) := by
  unfold topsOf
  rw [List.getElem?_map, blk_some hi]; rfl
theorem pcs_at {i : Nat} (hi : i < (cuts p 0).length) : (pcsOf p (cuts p 0))[i]? = some (patL (blkS p i)) := by
  unfold pcsOf
  rw [List.getElem?_map, blk_some hi]; rfl
theorem top_in {i : Nat} (hi : i < (cuts p 0).length) : at0 p (beg p i) ∈ blkS p i := by
  have := blk_lt hi
  exact seg_at (Nat.le_refl _) (by omega) (by omega)
/-- Two blocks stand to each other as their first numbers do. -/
theorem blk_side (hp : isP p = true) (h0 : 0 < p.length) {i j : Nat} (hi : i < (cuts p 0).length) (hj : j < (cuts p 0).length) (hij : i ≠ j) {x y : Int} (hx : x ∈ blkS p i) (hy : y ∈ blkS p j) : x < y ↔ at0 p (beg p i) < at0 p (beg p j) := by
  have hap := blk_apart h0 hi hj hij
  have li := blk_lt hi
  have lj := blk_lt hj
  have ny : ∀ y, y ∈ blkS p j → y ∉ seg p (beg p i) (wid p i + 1) := fun y hy hm => by
    obtain ⟨a, a1, a2, a3⟩ := mem_seg.1 hy
    obtain ⟨b, b1, b2, b3⟩ := mem_seg.1 hm
    have := isP_same hp a3 b3
    omega
  have nx : ∀ x, x ∈ blkS p i → x ∉ seg p (beg p j) (wid p j + 1) := fun x hx hm => ny x hm hx
  have ti := top_in hi
  have tj := top_in hj
  have s1 := iv_side hp li (blk_iv hp hi) (ny y hy)
  have s2 := iv_side hp lj (blk_iv hp hj) (nx _ ti)
  constructor
  · intro h
    rcases s1 with g | g
    · have g1 := g _ ti
      rcases s2 with q | q
      · have := q _ hy; omega
      · exact q _ tj
    · have := g _ hx; omega
  · intro h
    rcases s2 with q | q
    · have := q _ tj; omega
    · have q1 := q _ hy
      rcases s1 with g | g
      · exact g _ hx
      · have := g _ ti; omega
theorem take_beg (h0 : 0 < p.length) {k : Nat} (hk : k < (cuts p 0).length) : p.take (beg p (k + 1)) = p.take (beg p k) ++ blkS p k := by
  rw [beg_next h0 hk, Nat.add_assoc]
  unfold blkS seg
  exact List.take_add
/-- The numbers below y, block by block. -/
theorem cnt_blocks (hp : isP p = true) (h0 : 0 < p.length) {i : Nat} (hi : i < (cuts p 0).length) {y : Int} (hy : y ∈ blkS p i) : ∀ k, k ≤ (cuts p 0).length →
    cnt (p.take (beg p k)) y = baseK (patL (topsOf p (cuts p 0))) (pcsOf p (cuts p 0)) (at0 (patL (topsOf p (cuts p 0))) i) k + (if i < k then cnt (blkS p i) y else 0) := by
  intro k
  have hlt : (topsOf p (cuts p 0)).length = (cuts p 0).length := by simp [topsOf]
  induction k with
  | zero => intro _; rw [beg_zero h0]; simp [baseK, cnt_nil]
  | succ k ih =>
    intro hk
    have ihk := ih (by omega)
    have hk' : k < (cuts p 0).length := by omega
    rw [take_beg h0 hk', cnt_app, ihk, baseK, pcs_at hk']
    simp only [Option.getD_some, patL_length]
    have hal := (alike_pat (topsOf p (cuts p 0))).2 k i (by rw [patL_length]; omega) (by rw [patL_length]; omega)
    rw [at0_of (tops_at hk'), at0_of (tops_at hi)] at hal
    by_cases e : k = i
    · subst e
      rw [if_neg (by omega), if_neg (by omega), if_pos (by omega)]
    · have hs := fun x (hx : x ∈ blkS p k) => blk_side hp h0 hk' hi e hx hy
      by_cases hb : at0 p (beg p k) < at0 p (beg p i)
      · rw [if_pos (hal.2 hb)]
        have : cnt (blkS p k) y = (blkS p k).length := cnt_all fun x hx => (hs x hx).2 hb
        rw [this]
        by_cases hik : i < k
        · rw [if_pos hik, if_pos (by omega)]; omega
        · rw [if_neg hik, if_neg (by omega)]; omega
      · rw [if_neg (fun h => hb (hal.1 h))]
        have : cnt (blkS p k) y = 0 := by
          unfold cnt
          rw [List.length_eq_zero_iff, List.filter_eq_nil_iff]
          intro x hx
          have := fun h => hb ((hs x hx).1 h)
          simpa using this
        rw [this]
        by_cases hik : i < k
        · rw [if_pos hik, if_pos (by omega)]; omega
        · rw [if_neg hik, if_neg (by omega)]
theorem infl_blocks (hp : isP p = true) (h0 : 0 < p.length) : ∀ k, k ≤ (cuts p 0).length → inflK (patL (topsOf p (cuts p 0))) (pcsOf p (cuts p 0)) k = p.take (beg p k) := fun k => by
  have hlt : (topsOf p (cuts p 0)).length = (cuts p 0).length := by simp [topsOf]
  induction k with
  | zero => intro _; rw [beg_zero h0]; rfl
  | succ k ih =>
    intro hk
    have hk' : k < (cuts p 0).length := by omega
    rw [inflK, ih (by omega), take_beg h0 hk', pcs_at hk']
    congr 1
    simp only [Option.getD_some, patL, List.map_map]
    refine (List.map_congr_left fun y hy => ?_).trans (List.map_id _)
    simp only [Function.comp, id]
    have hlen : (List.map (fun v => 1 + (cnt (topsOf p (cuts p 0)) v : Int)) (topsOf p (cuts p 0))).length = (cuts p 0).length := by rw [List.length_map, hlt]
    have hc := cnt_blocks hp h0 hk' hy (cuts p 0).length (Nat.le_refl _)
    rw [beg_end (by omega), List.take_length, if_pos hk'] at hc
    have hy2 := cnt_isP hp (seg_sub hy)
    unfold patL at hc
    rw [hlen]
    omega
end
theorem infl_root {p : List Int} (h : splitOK p = true) : inflOK (rootP p) (pcsP p) = true ∧ inflR (rootP p) (pcsP p) = p := by
  obtain ⟨hp, h0⟩ := splitOK_all h
  have h8 := isP_le hp
  have hat := pcsP_at hp
  have ht := (pcsP_tot hp).1
  have hlen : (pcsP p).length = (rootP p).length := by
    by_cases h1 : p.length = 1
    · unfold pcsP rootP; rw [if_pos h1, if_pos h1]; rfl
    · rcases pcs_cases hp (by omega) with ⟨s, a, b, e1, e2, _⟩ | ⟨_, _, e1, e2⟩
      · rw [e1, e2]; cases s <;> rfl
      · rw [e1, e2, patL_length]; simp [pcsOf, topsOf]
  have hok : inflOK (rootP p) (pcsP p) = true := inflOK_yes (rootP_isP hp) hlen (allP_yes fun z hz => (hat z hz).1) (noNil_yes fun z hz => by have := (hat z hz).2.1; omega) (by omega)
  refine ⟨hok, ?_⟩
  rw [inflR_yes hok, ← hlen]
  by_cases h1 : p.length = 1
  · have e : p = [1] := by
      match p, h1 with
      | [x], _ =>
        have := (isP_true.1 hp).2.1 x (by simp)
        simp at this
        rw [show x = 1 by omega]
    subst e
    decide
  · rcases pcs_cases hp (by omega) with ⟨s, a, b, e1, e2, e3⟩ | ⟨_, _, e1, e2⟩
    · rw [e1, e2]
      exact (infl_sum (s := s) (a := a) (b := b)).trans e3.symm
    · rw [e1, e2]
      have := infl_blocks hp h0 (cuts p 0).length (Nat.le_refl _)
      rw [beg_end (by omega), List.take_length] at this
      rw [show (pcsOf p (cuts p 0)).length = (cuts p 0).length by simp [pcsOf]]
      exact this
end Go.Proofs.YtinnlhfdgbeibaaGreat


/-
  PLAIN: the root is simple; a simple permutation of four or more is its own root. Nothing here speaks of the program.
-/

namespace Go.Proofs.YtinnlhfdgbeibaaGreat
set_option maxRecDepth 100000

theorem simple_iff {p : List Int} (hp : isP p = true) (h0 : 0 < p.length) : simpleP p = true ↔ ∀ a k, a + k < p.length → 1 ≤ k → k + 1 < p.length → iv p a k = false := by
  unfold simpleP
  rw [hp, decide_eq_true h0, ivsR_yes hp]
  simp only [Bool.true_and, decide_eq_true_eq]
  constructor
  · intro h a k h1 h2 h3
    cases hv : iv p a k with
    | false => rfl
    | true =>
      have hm : [(a : Int) + 1, (a : Int) + k + 1] ∈ ivSK p p.length := mem_ivSK.2 ⟨a, k, by omega, h1, h2, h3, hv, rfl⟩
      rw [List.length_eq_zero_iff] at h
      rw [h] at hm
      cases hm
  · intro h
    rw [List.length_eq_zero_iff, List.eq_nil_iff_forall_not_mem]
    intro z hz
    obtain ⟨a, k, h1, h2, h3, h4, h5, _⟩ := mem_ivSK.1 hz
    rw [h a k h2 h3 h4] at h5
    cases h5
/-- What is convex is an interval. -/
theorem iv_convex {p : List Int} (hp : isP p = true) {a k : Nat} (hk : a + k < p.length) (hc : ∀ x y z, x ∈ seg p a (k + 1) → z ∈ seg p a (k + 1) → y ∈ p → x < y → y < z → y ∈ seg p a (k + 1)) : iv p a k = true := by
  have hlo := lo_in hp (a := a) (m := k + 1) (by omega) (by omega)
  have hhi := hi_in hp (a := a) (m := k + 1) (by omega) (by omega)
  have hfr := seg_frm hp (a := a) (m := k + 1) (by omega) (by omega)
  have l1 := (isP_true.1 hp).2.1 _ (seg_sub hlo)
  have l2 := (isP_true.1 hp).2.1 _ (seg_sub hhi)
  have hle := (lo_le (seg p a (k + 1))).1 _ hhi
  have hall : ∀ y ∈ frm' (lo (seg p a (k + 1))) (hi (seg p a (k + 1)) - lo (seg p a (k + 1)) + 1).toNat, y ∈ seg p a (k + 1) := fun y hy => by
    rw [mem_frm'] at hy
    have hyp : y ∈ p := isP_has hp (by omega) (by omega)
    by_cases e1 : y = lo (seg p a (k + 1))
    · rw [e1]; exact hlo
    · by_cases e2 : y = hi (seg p a (k + 1))
      · rw [e2]; exact hhi
      · exact hc _ y _ hlo hhi hyp (by omega) (by omega)
  have hlen := (frm'_nodup (lo (seg p a (k + 1))) (hi (seg p a (k + 1)) - lo (seg p a (k + 1)) + 1).toNat).length_le_of_subset hall
  rw [frm'_length, seg_length (by omega)] at hlen
  rw [iv_true]
  omega
theorem mem_blocks {p : List Int} (h0 : 0 < p.length) {a m : Nat} (hm : a + m ≤ (cuts p 0).length) {x : Int} (hx : x ∈ seg p (beg p a) (beg p (a + m) - beg p a)) : ∃ i, a ≤ i ∧ i < a + m ∧ x ∈ blkS p i := by
  induction m with
  | zero => rw [Nat.add_zero, Nat.sub_self, seg_zero] at hx; cases hx
  | succ m ih =>
    have hn := beg_next h0 (i := a + m) (by omega)
    have hmo := beg_mono h0 (i := a) (j := a + m) (by omega) (by omega)
    obtain ⟨j, j1, j2, j3⟩ := mem_seg.1 hx
    rw [← Nat.add_assoc] at j2
    by_cases hj : j < beg p (a + m)
    · obtain ⟨i, i1, i2, i3⟩ := ih (by omega) (mem_seg.2 ⟨j, j1, by omega, j3⟩)
      exact ⟨i, i1, by omega, i3⟩
    · exact ⟨a + m, by omega, by omega, mem_seg.2 ⟨j, by omega, by omega, j3⟩⟩
theorem in_blocks {p : List Int} (h0 : 0 < p.length) {a m i : Nat} (hm : a + m ≤ (cuts p 0).length) (h1 : a ≤ i) (h2 : i < a + m) {x : Int} (hx : x ∈ blkS p i) : x ∈ seg p (beg p a) (beg p (a + m) - beg p a) := by
  have hn := beg_next h0 (i := i) (by omega)
  have m1 := beg_mono h0 (i := a) (j := i) h1 (by omega)
  have m2 := beg_mono h0 (i := i + 1) (j := a + m) (by omega) hm
  obtain ⟨j, j1, j2, j3⟩ := mem_seg.1 hx
  exact mem_seg.2 ⟨j, by omega, by omega, j3⟩
/-- The root of what is neither a sum nor a skew sum is simple. -/
theorem root_simple {p : List Int} (hp : isP p = true) (h0 : 0 < p.length) : simpleP (patL (topsOf p (cuts p 0))) = true := by
  have hR : isP (patL (topsOf p (cuts p 0))) = true := by rw [isP_pat]; exact tops_ok hp
  have hlt : (topsOf p (cuts p 0)).length = (cuts p 0).length := by simp [topsOf]
  have hl : (patL (topsOf p (cuts p 0))).length = (cuts p 0).length := by rw [patL_length, hlt]
  have hc0 : 0 < (cuts p 0).length := by rw [cuts_yes h0]; simp
  rw [simple_iff hR (by omega)]
  intro a k hk hk1 hk2
  rw [hl] at hk hk2
  cases hv : iv (patL (topsOf p (cuts p 0))) a k with
  | false => rfl
  | true =>
    exfalso
    have ea := beg_next h0 (i := a) (by omega)
    have mo1 := beg_mono h0 (i := a + 1) (j := a + (k + 1)) (by omega) (by omega)
    have mo2 := beg_mono h0 (i := a + 1 + 1) (j := a + (k + 1)) (by omega) (by omega)
    have ea1 := beg_next h0 (i := a + 1) (by omega)
    have hend : beg p (a + (k + 1)) ≤ p.length := by
      have := beg_mono h0 (i := a + (k + 1)) (j := (cuts p 0).length) (by omega) (Nat.le_refl _)
      rwa [beg_end (by omega : ¬ (cuts p 0).length < (cuts p 0).length)] at this
    -- the places of these blocks are an interval
    have rt : ∀ i, i < (cuts p 0).length → at0 (patL (topsOf p (cuts p 0))) i = 1 + (cnt (topsOf p (cuts p 0)) (at0 p (beg p i)) : Int) := fun i hi => by
      rw [patL_at0 (by omega), at0_of (tops_at hi)]
    have rlt : ∀ i j, i < (cuts p 0).length → j < (cuts p 0).length → (at0 (patL (topsOf p (cuts p 0))) i < at0 (patL (topsOf p (cuts p 0))) j ↔ at0 p (beg p i) < at0 p (beg p j)) := fun i j hi hj => by
      have := (alike_pat (topsOf p (cuts p 0))).2 i j (by omega) (by omega)
      rwa [at0_of (tops_at hi), at0_of (tops_at hj)] at this
    have hiv : iv p (beg p a) (beg p (a + (k + 1)) - beg p a - 1) = true := by
      refine iv_convex hp (by omega) fun x y z hx hz hy hxy hyz => ?_
      rw [show beg p (a + (k + 1)) - beg p a - 1 + 1 = beg p (a + (k + 1)) - beg p a by omega] at hx hz ⊢
      obtain ⟨i, i1, i2, i3⟩ := mem_blocks h0 (by omega) hx
      obtain ⟨j, j1, j2, j3⟩ := mem_blocks h0 (by omega) hz
      -- y's own block
      have hyb : ∃ b, b < (cuts p 0).length ∧ y ∈ blkS p b := by
        have hyw : y ∈ seg p (beg p 0) (beg p (0 + (cuts p 0).length) - beg p 0) := by
          rw [beg_zero h0, Nat.zero_add, beg_end (by omega), Nat.sub_zero, seg_all]; exact hy
        obtain ⟨b, _, b2, b3⟩ := mem_blocks h0 (by omega) hyw
        exact ⟨b, by omega, b3⟩
      obtain ⟨b, hb, hyb⟩ := hyb
      by_cases hin : a ≤ b ∧ b < a + (k + 1)
      · exact in_blocks h0 (by omega) hin.1 hin.2 hyb
      · exfalso
        have bi : i ≠ b := fun e => hin (by omega)
        have bj : j ≠ b := fun e => hin (by omega)
        have h1 := (rlt i b (by omega) hb).2 ((blk_side hp h0 (by omega) hb bi i3 hyb).1 hxy)
        have h2 := (rlt b j hb (by omega)).2 ((blk_side hp h0 hb (by omega) (Ne.symm bj) hyb j3).1 hyz)
        have s := iv_side hR (a := a) (k := k) (by omega) hv (y := at0 (patL (topsOf p (cuts p 0))) b) (seg_not hR (by omega) (by omega))
        have mi := seg_at (p := patL (topsOf p (cuts p 0))) (a := a) (m := k + 1) (i := i) i1 i2 (by omega)
        have mj := seg_at (p := patL (topsOf p (cuts p 0))) (a := a) (m := k + 1) (i := j) j1 j2 (by omega)
        rcases s with s | s
        · have := s _ mj; omega
        · have := s _ mi; omega
    -- it is longer than the first block, and not all
    have hwa := blk_top (p := p) (i := a) (by omega)
    have hnot : beg p (a + (k + 1)) - beg p a ≠ p.length := fun e => by
      have hb0 : beg p a = 0 := by omega
      have he : beg p (a + (k + 1)) = p.length := by omega
      have a0 : a = 0 := Classical.byContradiction fun hne => by
        have n0 := beg_next h0 (i := 0) hc0
        have := beg_mono h0 (i := 1) (j := a) (by omega) (by omega)
        rw [Nat.zero_add] at n0
        omega
      have : a + (k + 1) < (cuts p 0).length := by omega
      have := blk_lt this
      omega
    have := topK_max (p := p) (a := beg p a) (p.length - 1 - beg p a) (beg p (a + (k + 1)) - beg p a - 1) (by omega) (.inr ⟨by omega, hiv⟩)
    rw [← hwa] at this
    omega
theorem rootP_simple {p : List Int} (hp : isP p = true) (h0 : 0 < p.length) (h1 : p.length ≠ 1) : simpleP (rootP p) = true := by
  rcases pcs_cases hp (by omega) with ⟨s, a, b, e1, _, _⟩ | ⟨_, _, e1, _⟩
  · rw [e1]; cases s <;> decide
  · rw [e1]; exact root_simple hp h0
/-- A cut makes an interval of the places before it, and one of those behind it. -/
theorem cut_iv {p : List Int} (hp : isP p = true) {k : Nat} (h0 : 0 < k) (hk : k < p.length) (hc : Low (valAt p) p.length k ∨ Low (neg (valAt p)) p.length k) : iv p 0 (k - 1) = true ∧ iv p k (p.length - k - 1) = true := by
  have key : ∀ i j, i < k → k ≤ j → j < p.length → ((at0 p i < at0 p j) ↔ (∀ a b, a < k → k ≤ b → b < p.length → at0 p a < at0 p b)) := fun i j hi hj hjn => by
    rcases hc with hc | hc
    · exact ⟨fun _ a b ha hb hbn => hc a b ha hb hbn, fun h => h i j hi hj hjn⟩
    · refine ⟨fun h => ?_, fun h => h i j hi hj hjn⟩
      have := hc i j hi hj hjn
      simp only [neg, valAt] at this
      omega
  have key2 : ∀ i j, i < k → k ≤ j → j < p.length → ((at0 p j < at0 p i) ↔ (∀ a b, a < k → k ≤ b → b < p.length → at0 p b < at0 p a)) := fun i j hi hj hjn => by
    rcases hc with hc | hc
    · refine ⟨fun h => ?_, fun h => h i j hi hj hjn⟩
      have := hc i j hi hj hjn
      simp only [valAt] at this
      omega
    · refine ⟨fun _ a b ha hb hbn => ?_, fun h => h i j hi hj hjn⟩
      have := hc a b ha hb hbn
      simp only [neg, valAt] at this
      omega
  constructor
  · refine iv_convex hp (by omega) fun x y z hx hz hy hxy hyz => ?_
    rw [show k - 1 + 1 = k by omega] at hx hz ⊢
    obtain ⟨i, i1, i2, i3⟩ := mem_seg.1 hx
    obtain ⟨j, j1, j2, j3⟩ := mem_seg.1 hz
    obtain ⟨q, hq, e⟩ := List.getElem_of_mem hy
    have e2 : at0 p q = y := by rw [← e]; exact at0_of (List.getElem?_eq_getElem hq)
    rw [← at0_of i3] at hxy
    rw [← at0_of j3] at hyz
    by_cases hqk : q < k
    · exact mem_seg.2 ⟨q, Nat.zero_le _, by omega, by rw [← e2]; exact at0_some hq⟩
    · exfalso
      rw [← e2] at hxy hyz
      have := (key i q (by omega) (by omega) hq).1 hxy j q (by omega) (by omega) hq
      omega
  · refine iv_convex hp (by omega) fun x y z hx hz hy hxy hyz => ?_
    rw [show p.length - k - 1 + 1 = p.length - k by omega] at hx hz ⊢
    obtain ⟨i, i1, i2, i3⟩ := mem_seg.1 hx
    obtain ⟨j, j1, j2, j3⟩ := mem_seg.1 hz
    obtain ⟨q, hq, e⟩ := List.getElem_of_mem hy
    have e2 : at0 p q = y := by rw [← e]; exact at0_of (List.getElem?_eq_getElem hq)
    rw [← at0_of i3] at hxy
    rw [← at0_of j3] at hyz
    by_cases hqk : k ≤ q
    · exact mem_seg.2 ⟨q, hqk, by omega, by rw [← e2]; exact at0_some hq⟩
    · exfalso
      rw [← e2] at hxy hyz
      have := (key2 q i (by omega) i1 (by omega)).1 hxy q j (by omega) j1 (by omega)
      omega
theorem simple_no_cut {p : List Int} (hs : simpleP p = true) (h4 : 4 ≤ p.length) {k : Nat} (h0 : 0 < k) (hk : k < p.length) (hc : Low (valAt p) p.length k ∨ Low (neg (valAt p)) p.length k) : False := by
  have hp : isP p = true := by unfold simpleP at hs; simp at hs; exact hs.1.1
  have hi := (simple_iff hp (by omega)).1 hs
  obtain ⟨v1, v2⟩ := cut_iv hp h0 hk hc
  by_cases h2 : 2 ≤ k
  · rw [hi 0 (k - 1) (by omega) (by omega) (by omega)] at v1; cases v1
  · rw [hi k (p.length - k - 1) (by omega) (by omega) (by omega)] at v2; cases v2
theorem topK_zero {p : List Int} {a : Nat} (h : ∀ k, a + k < p.length → 1 ≤ k → k + 1 < p.length → iv p a k = false) : ∀ m, a + m < p.length → topK p a m = 0
  | 0, _ => rfl
  | m + 1, hm => by
    rw [topK, if_pos, topK_zero h m (by omega)]
    by_cases e : m + 2 = p.length
    · exact .inl e
    · exact .inr (h (m + 1) (by omega) (by omega) (by omega))
theorem cuts_single {p : List Int} (h : ∀ a k, a + k < p.length → 1 ≤ k → k + 1 < p.length → iv p a k = false) (a : Nat) : a ≤ p.length → cuts p a = (List.range' a (p.length - a)).map fun i => (i, 0) := by
  induction a using cuts_ind (p := p) with
  | h0 a ha => intro hle; rw [cuts_no ha, show p.length - a = 0 by omega]; rfl
  | h1 a ha ih =>
    intro _
    have ht : topK p a (p.length - 1 - a) = 0 := topK_zero (h a) _ (by omega)
    rw [ht] at ih
    rw [cuts_yes ha, ht, ih (by omega), show p.length - a = (p.length - (a + 0 + 1)) + 1 by omega, List.range'_succ]
    rfl
theorem root_own {p : List Int} (hs : simpleP p = true) (h4 : 4 ≤ p.length) : rootP p = p := by
  have hp : isP p = true := by unfold simpleP at hs; simp at hs; exact hs.1.1
  rcases pcs_cases hp (by omega) with ⟨s, a, b, e1, e2, e3⟩ | ⟨_, _, e1, _⟩
  · exfalso
    have hat := pcsP_at hp
    rw [e2] at hat
    have ha := hat a (by simp)
    have hb := hat b (by simp)
    have hc := join_cut (s := s) ha.1 hb.1
    have hl : p.length = a.length + b.length := by rw [e3]; exact joinL_length s a b
    rw [← e3, ← hl] at hc
    refine simple_no_cut hs h4 (k := a.length) ha.2.1 (by have := hb.2.1; omega) ?_
    cases s with
    | false => simp only [Bool.false_eq_true, if_false] at hc; exact .inl hc
    | true => simp only [if_true] at hc; exact .inr hc
  · rw [e1, cuts_single ((simple_iff hp (by omega)).1 hs) 0 (Nat.zero_le _)]
    have : topsOf p ((List.range' 0 (p.length - 0)).map fun i => (i, 0)) = p := by
      unfold topsOf
      rw [List.map_map]
      refine ext_at0 (by simp) fun i hi => ?_
      rw [List.length_map, List.length_range'] at hi
      refine at0_of ?_
      rw [List.getElem?_map, List.getElem?_range' (by omega)]
      simp
    rw [this, patL_self hp]
end Go.Proofs.YtinnlhfdgbeibaaGreat


/-
  PLAIN: separable permutations are told by two patterns; what the law FnTrees asks of root and parts. Nothing here speaks of the program.
-/

namespace Go.Proofs.YtinnlhfdgbeibaaGreat
set_option maxRecDepth 100000

theorem alike_four {a b c d : Int} : Alike [a, b, c, d] [3, 1, 4, 2] ↔ b < d ∧ d < a ∧ a < c := by
  constructor
  · intro h
    have h1 := (h.2 1 3 (by simp) (by simp)).2 (by decide)
    have h2 := (h.2 3 0 (by simp) (by simp)).2 (by decide)
    have h3 := (h.2 0 2 (by simp) (by simp)).2 (by decide)
    exact ⟨h1, h2, h3⟩
  · rintro ⟨h1, h2, h3⟩
    refine ⟨rfl, fun i j hi hj => ?_⟩
    have hi4 : i < 4 := hi
    have hj4 : j < 4 := hj
    obtain rfl | rfl | rfl | rfl : i = 0 ∨ i = 1 ∨ i = 2 ∨ i = 3 := by omega
    all_goals
      obtain rfl | rfl | rfl | rfl : j = 0 ∨ j = 1 ∨ j = 2 ∨ j = 3 := by omega
      all_goals
        simp [at0]
        try omega
theorem alike_four' {a b c d : Int} : Alike [a, b, c, d] [2, 4, 1, 3] ↔ c < a ∧ a < d ∧ d < b := by
  constructor
  · intro h
    have h1 := (h.2 2 0 (by simp) (by simp)).2 (by decide)
    have h2 := (h.2 0 3 (by simp) (by simp)).2 (by decide)
    have h3 := (h.2 3 1 (by simp) (by simp)).2 (by decide)
    exact ⟨h1, h2, h3⟩
  · rintro ⟨h1, h2, h3⟩
    refine ⟨rfl, fun i j hi hj => ?_⟩
    have hi4 : i < 4 := hi
    have hj4 : j < 4 := hj
    obtain rfl | rfl | rfl | rfl : i = 0 ∨ i = 1 ∨ i = 2 ∨ i = 3 := by omega
    all_goals
      obtain rfl | rfl | rfl | rfl : j = 0 ∨ j = 1 ∨ j = 2 ∨ j = 3 := by omega
      all_goals
        simp [at0]
        try omega
theorem has_four {p q : List Int} (hp : isP p = true) (hq : isP q = true) (hl : q.length = 4) :
    hasR p q = true ↔ ∃ i j k l, i < j ∧ j < k ∧ k < l ∧ l < p.length ∧ Alike [at0 p i, at0 p j, at0 p k, at0 p l] q := by
  have hh : hasR p q = true ↔ 0 < (occR p q).length := by
    unfold hasR numOcc
    rw [if_pos (by simp [hp, hq]), decide_eq_true_eq]
    omega
  rw [hh]
  constructor
  · intro h
    obtain ⟨pl, hm⟩ := List.exists_mem_of_length_pos h
    obtain ⟨_, _, h1, h2, h3⟩ := isOcc_iff.1 (mem_occ.1 hm)
    rw [hl] at h1
    match pl, h1, h2, h3 with
    | [a, b, c, d], _, h2, h3 =>
      have ha := h2.1 a (by simp)
      have hd := h2.1 d (by simp)
      have hw := h2.2
      simp only [List.pairwise_cons, List.mem_cons, List.not_mem_nil, or_false] at hw
      have hab := hw.1 b (.inl rfl)
      have hbc := hw.2.1 c (.inl rfl)
      have hcd := hw.2.2.1 d rfl
      exact ⟨a.toNat - 1, b.toNat - 1, c.toNat - 1, d.toNat - 1, by omega, by omega, by omega, by omega, (pat_eq_iff hq).1 h3⟩
  · rintro ⟨i, j, k, l, hij, hjk, hkl, hlp, h⟩
    refine List.length_pos_of_mem (a := [(i : Int) + 1, (j : Int) + 1, (k : Int) + 1, (l : Int) + 1]) (mem_occ.2 (isOcc_iff.2 ⟨hp, hq, hl.symm, ⟨?_, ?_⟩, (pat_eq_iff hq).2 ?_⟩))
    · intro x hx
      simp only [List.mem_cons, List.not_mem_nil, or_false] at hx
      omega
    · simp only [List.pairwise_cons, List.mem_cons, List.not_mem_nil, or_false]
      refine ⟨fun x hx => by omega, fun x hx => by omega, fun x hx => by omega, fun x hx => hx.elim, List.Pairwise.nil⟩
    · exact h
theorem has_3142 {p : List Int} (hp : isP p = true) : hasR p [3, 1, 4, 2] = true ↔ Four (valAt p) p.length := by
  rw [has_four hp (by decide) rfl]
  constructor
  · rintro ⟨i, j, k, l, h1, h2, h3, h4, h⟩
    obtain ⟨a1, a2, a3⟩ := alike_four.1 h
    exact ⟨i, j, k, l, h1, h2, h3, h4, a1, a2, a3⟩
  · rintro ⟨i, j, k, l, h1, h2, h3, h4, a1, a2, a3⟩
    exact ⟨i, j, k, l, h1, h2, h3, h4, alike_four.2 ⟨a1, a2, a3⟩⟩
theorem has_2413 {p : List Int} (hp : isP p = true) : hasR p [2, 4, 1, 3] = true ↔ Four (neg (valAt p)) p.length := by
  rw [has_four hp (by decide) rfl]
  constructor
  · rintro ⟨i, j, k, l, h1, h2, h3, h4, h⟩
    obtain ⟨a1, a2, a3⟩ := alike_four'.1 h
    exact ⟨i, j, k, l, h1, h2, h3, h4, by show - at0 p j < - at0 p l; omega, by show - at0 p l < - at0 p i; omega, by show - at0 p i < - at0 p k; omega⟩
  · rintro ⟨i, j, k, l, h1, h2, h3, h4, a1, a2, a3⟩
    have b1 : - at0 p j < - at0 p l := a1
    have b2 : - at0 p l < - at0 p i := a2
    have b3 : - at0 p i < - at0 p k := a3
    exact ⟨i, j, k, l, h1, h2, h3, h4, alike_four'.2 ⟨by omega, by omega, by omega⟩⟩
theorem sep_two {p : List Int} (hp : isP p = true) : sepR p = (!hasR p [2, 4, 1, 3] && !hasR p [3, 1, 4, 2]) := by
  have h1 : shortAll (rtsR p) = true ↔ Free p := by
    have h2 : shortAll (rtsR p) = true ↔ shortL (rtsR p) := by
      unfold shortAll shortL
      simp only [List.all_eq_true, decide_eq_true_eq]
    rw [h2]
    by_cases h0 : p.length = 0
    · have hs : splitOK p = false := by
        cases h : splitOK p with
        | false => rfl
        | true => have := (splitOK_all h).2; omega
      rw [rtsR_no hs]
      exact ⟨fun _ => free_short (by omega), fun _ z hz => by cases hz⟩
    · have hs : splitOK p = true := by exact splitOK_yes hp (by omega)
      rw [← short_free 7 hp (by have := isP_le hp; omega), rtsR_yes hs]
      have hf := (foldl_put (rtsF 7 p) [] List.Pairwise.nil).2.1
      constructor
      · intro h z hz
        exact h z ((hf z).2 (.inr hz))
      · intro h z hz
        rcases (hf z).1 hz with h3 | h3
        · cases h3
        · exact h z h3
  rw [Bool.eq_iff_iff]
  unfold sepR
  rw [hp, Bool.true_and, h1]
  unfold Free
  rw [← has_3142 hp, ← has_2413 hp]
  cases hasR p [2, 4, 1, 3] <;> cases hasR p [3, 1, 4, 2] <;> simp
end Go.Proofs.YtinnlhfdgbeibaaGreat


/-
  TreeText, TreeDepth of both sides at any list, by their contracts.
-/

namespace Go.Proofs.YtinnlhfdgbeibaaGreat
set_option maxRecDepth 100000
open Go.RowKit

theorem split_len {zs : List Int} (h : splitOK zs = true) : zs.length ≤ 8 := isP_le (splitOK_all h).1
theorem stextW (A : Option Addr) (n c B : Nat) (zs : List Int) (w : World) (h : Arg w B A n c zs) : Calls Tryz.prog 13 #[.slice A n c] w (GivesS w (textF 7 zs)) := by
  cases hs : splitOK zs with
  | true => exact ttext_any 7 A n c B zs w h (by have := split_len hs; have := h.len; omega) (Nat.le_refl _)
  | false => exact ttext_low A n c B zs w h (.inr hs) _ (by rw [textF_no hs, hs]; rfl)
theorem itextW (A : Option Addr) (n c B : Nat) (zs : List Int) (w : World) (h : Arg w B A n c zs) : Calls Tryz.prog 12 #[.slice A n c] w (GivesS w (textF 7 zs)) := by
  cases hs : splitOK zs with
  | true => exact itreetext_any 7 A n c B zs w h (by have := split_len hs; have := h.len; omega) (Nat.le_refl _)
  | false =>
    have H0 := hide (grow_no A n c B zs w h hs)
    rw [textF_no hs]
    clear h hs
    go_enter Tryz.func12, Tryz.ntmps12
    go_wp2_with fail
    refine (unhide H0).mono ?_
    rintro e w2 ⟨rfl, hb2⟩
    clear H0
    go_wp2
    go_ret
    exact ⟨rfl, hb2⟩
theorem sdepthW (A : Option Addr) (n c B : Nat) (zs : List Int) (w : World) (h : Arg w B A n c zs) : Calls Tryz.prog 15 #[.slice A n c] w (fun e w' => e = .returned (.int .i64 (depF 7 zs)) ∧ Below w.heap.size w w') := by
  cases hs : splitOK zs with
  | true => exact sdepth_any 7 A n c B zs w h (by have := split_len hs; have := h.len; omega) (by decide)
  | false => exact sdepth_low A n c B zs w h (.inr hs) _ (by rw [depF_no hs, hs]; rfl)
theorem idepthW (A : Option Addr) (n c B : Nat) (zs : List Int) (w : World) (h : Arg w B A n c zs) : Calls Tryz.prog 14 #[.slice A n c] w (fun e w' => e = .returned (.int .i64 (depF 7 zs)) ∧ Below w.heap.size w w') := by
  cases hs : splitOK zs with
  | true => exact idepth_any 7 A n c B zs w h (by have := split_len hs; have := h.len; omega) (by decide)
  | false =>
    have H0 := hide (grow_no A n c B zs w h hs)
    rw [depF_no hs]
    clear h hs
    go_enter Tryz.func14, Tryz.ntmps14
    go_wp2_with fail
    refine (unhide H0).mono ?_
    rintro e w2 ⟨rfl, hb2⟩
    clear H0
    go_wp2
    go_ret
    exact ⟨rfl, hb2⟩
end Go.Proofs.YtinnlhfdgbeibaaGreat


/-
  spec.l6Same, spec.EqualInflation, by their contracts.
-/

namespace Go.Proofs.YtinnlhfdgbeibaaGreat
set_option maxRecDepth 100000
open Go.RowKit

theorem keep2 {wr w : World} {p q : Addr} {v u : Value} (h : wr.cell? p = some v) (h' : wr.cell? q = some u) (hp : p.block < wr.heap.size) (hq : q.block < wr.heap.size) (hb : Below wr.heap.size wr w) : w.cell? p = some v ∧ w.cell? q = some u ∧ Below wr.heap.size wr w :=
  ⟨(hb.cell hp).trans h, (hb.cell hq).trans h', hb⟩
set_option maxHeartbeats 800000 in
theorem l6same_any (A A' : Option Addr) (n c n' c' : Nat) (pss qss : List (List Int)) (b : Bool) (hb : decide (pss = qss) = b) (w : World) (hS : AtS w A n pss) (hS' : AtS w A' n' qss) (hn : n ≤ 1048576) (hn' : n' ≤ 1048576) :
    Calls Tryz.prog 38 #[.slice A n c, .slice A' n' c'] w fun e w' => e = .returned (.bool b) ∧ Drew w w' := by
  have hl := hS.1
  have hl' := hS'.1
  by_cases hne : n = n'
  · subst hne
    have HL := hide hl
    have HL' := hide hl'
    have HB := hide hb
    have HS := hide hS
    have HS' := hide hS'
    clear hl hl' hb hS hS'
    go_enter Tryz.func38, Tryz.ntmps38
    go_wp2
    go_loopw [5] (fun i wr => ∃ k : Nat, k ≤ n ∧ i = .int .i64 k ∧ Drew w wr ∧ Hid (pss.take k = qss.take k)) (fun i _ => n - (intOf i).toNat)
    case atStart => exact ⟨0, Nat.zero_le _, rfl, Drew.refl _, by simp [Hid]⟩
    case round =>
      obtain ⟨k, hk, rfl, hd, hP⟩ := hrel
      by_cases hlt : k < n
      · obtain ⟨ad, A1, c1, z, rfl, hz, hcell, hA⟩ := (unhide HS).2 wr (hd.below _) k hlt
        obtain ⟨ad', A2, c2, y, rfl, hy, hcell', hA'⟩ := (unhide HS').2 wr (hd.below _) k hlt
        obtain ⟨b1, hb1⟩ : ∃ b, decide (z = y) = b := ⟨_, rfl⟩
        have H1 := hide (fun w' (hd' : Below wr.heap.size wr w') => l2same_any A1 A2 z.length c1 wr.heap.size y.length c2 wr.heap.size z y b1 hb1 w' (hA.below hd') (hA'.below hd'))
        have HZ := hide (And.intro hz hy)
        have HB1 := hide hb1
        have hb0 := Below.refl wr.heap.size wr
        have hd0 := Drew.refl wr
        clear hz hy hb1 hA hA'
        have hp1 := block_lt_of_cell hcell
        have hp2 := block_lt_of_cell hcell'
        go_wp2
        go_region_held3 (fun w' => w'.cell? (ad.add k) = some (.slice A1 z.length c1) ∧ w'.cell? (ad'.add k) = some (.slice A2 y.length c2) ∧ Below wr.heap.size wr w') ((refine keep2 hcell hcell' hp1 hp2 ?_; first | assumption | (apply Below.drew; assumption)))
          ((go_simp; go_at_call 37; refine (unhide H1 _ (by first | assumption | (apply Below.drew; assumption))).mono ?_; rintro e w3 ⟨rfl, hd3⟩;
              have hb5 : Below wr.heap.size wr w3 := (hb0.drew).trans (hd3.below _)))
        have hd4 : Drew w w3 := (show Drew w wr.drew from hd.more 1).trans hd3
        clear hb5 hd3 hd0 hb0 hp1 hp2 hcell hcell' H1
        cases b1 with
        | false =>
          obtain rfl : b = false := (unhide HB).symm.trans (by
            rw [decide_eq_false_iff_not]
            rintro rfl
            have h1 := (unhide HZ).1.symm.trans (unhide HZ).2
            injection h1 with h1
            exact (of_decide_eq_false (unhide HB1)) h1)
          clear HB hP
          go_wp2
          go_ret
          exact ⟨rfl, hd4⟩
        | true =>
          have hnext : Hid (pss.take (k + 1) = qss.take (k + 1)) := hide (by
            rw [List.take_add_one, List.take_add_one, unhide hP, (unhide HZ).1, (unhide HZ).2, of_decide_eq_true (unhide HB1)])
          clear hP HZ
          go_wp2
          go_roundw
          case rel => exact ⟨k + 1, by omega, by go_num, hd4, hnext⟩
          case measure => simp [intOf]; omega
      · obtain rfl : n = k := by omega
        obtain rfl : b = true := (unhide HB).symm.trans (by
          have h := unhide hP
          rw [List.take_of_length_le (by rw [unhide HL]; exact Nat.le_refl _), List.take_of_length_le (by rw [unhide HL']; exact Nat.le_refl _)] at h
          simp [h])
        clear HB hP
        go_wp2
        go_ret
        exact ⟨rfl, hd⟩
  · obtain rfl : b = false := hb.symm.trans (by
      rw [decide_eq_false_iff_not]
      rintro rfl
      exact hne (hl.symm.trans hl'))
    have h1 : ¬ (n : Int) = (n' : Int) := by omega
    clear hl hl' hb hS hS'
    go_enter Tryz.func38, Tryz.ntmps38
    go_wp2
    go_ret
    exact ⟨rfl, Drew.refl _⟩

set_option maxHeartbeats 1600000 in
theorem seqinf_any (A P A' P' : Option Addr) (n c B m d n' c' B' m' d' : Nat) (p q : List Int) (pss qss : List (List Int)) (b : Bool) (hb : (decide (p = q) && decide (pss = qss)) = b) (w : World) (h : Arg w B A n c p) (h' : Arg w B' A' n' c' q)
    (hS : AtS w P m pss) (hS' : AtS w P' m' qss) (hm : m ≤ 1048576) (hm' : m' ≤ 1048576) :
    Calls Tryz.prog 10 #[.agg #[.slice A n c, .slice P m d], .agg #[.slice A' n' c', .slice P' m' d']] w (GivesB w b) := by
  obtain ⟨b1, hb1⟩ : ∃ b, decide (p = q) = b := ⟨_, rfl⟩
  obtain ⟨b2, hb2⟩ : ∃ b, decide (pss = qss) = b := ⟨_, rfl⟩
  have H1 := hide (fun w' (hb' : Below w.heap.size w w') => l2same_any A A' n c B n' c' B' p q b1 hb1 w' (h.below hb') (h'.below hb'))
  have H2 := hide (fun w' (hb' : Below w.heap.size w w') => l6same_any P P' m d m' d' pss qss b2 hb2 w' (hS.below hb') (hS'.below hb') hm hm')
  rw [hb1, hb2] at hb
  clear hb1 hb2 h h' hS hS'
  have b1' := (Below.refl _ w).alloc (Nat.le_refl _) (.cells #[.slice A n c, .slice P m d] 28)
  have b2' := b1'.alloc (by simp) (.cells #[.slice A' n' c', .slice P' m' d'] 28)
  have g1 := (Whole.new w 28 #[.slice A n c, .slice P m d]).alloc (.cells #[.slice A' n' c', .slice P' m' d'] 28)
  have g2 := Whole.new (w.alloc (.cells #[.slice A n c, .slice P m d] 28)) 28 #[.slice A' n' c', .slice P' m' d']
  simp only [World.size_alloc] at g2
  clear b1'
  go_enter Tryz.func10, Tryz.ntmps10
  go_wp2_with fail
  refine (unhide H1 _ b2').mono ?_
  rintro e w3 ⟨rfl, hd⟩
  have hb3 := b2'.trans (hd.below _)
  have k1 := (Whole.below g1 (hd.below (w.heap.size + 2)) (by omega)).cell 1
  have k2 := (Whole.below g2 (hd.below (w.heap.size + 2)) (by omega)).cell 1
  simp only [List.getElem?_toArray, List.getElem?_cons_zero, List.getElem?_cons_succ] at k1 k2
  clear H1 hd b2' g1 g2
  cases b1 with
  | false =>
    obtain rfl : b = false := by simpa using hb.symm
    clear hb
    go_wp2
    go_ret
    exact ⟨rfl, hb3⟩
  | true =>
    obtain rfl : b = b2 := by simpa using hb.symm
    clear hb
    go_wp2_with fail
    refine (unhide H2 _ hb3).mono ?_
    rintro e w4 ⟨rfl, hd4⟩
    have hb5 := hb3.trans (hd4.below _)
    clear H2 hd4 hb3
    go_wp2
    go_ret
    exact ⟨rfl, hb5⟩
end Go.Proofs.YtinnlhfdgbeibaaGreat


/-
  slices.EqualFunc under slices.Equal, impl.EqualInflation, by their contracts.
-/

namespace Go.Proofs.YtinnlhfdgbeibaaGreat
set_option maxRecDepth 100000
open Go.RowKit

set_option maxHeartbeats 800000 in
theorem eqfunc_any (A A' : Option Addr) (n c n' c' : Nat) (pss qss : List (List Int)) (b : Bool) (hb : decide (pss = qss) = b) (w : World) (hS : AtS w A n pss) (hS' : AtS w A' n' qss) (hn : n ≤ 1048576) (hn' : n' ≤ 1048576) :
    Calls Tryz.prog 40 #[.slice A n c, .slice A' n' c', .func (.func 39) #[] #[]] w fun e w' => e = .returned (.bool b) ∧ Drew w w' := by
  have hl := hS.1
  have hl' := hS'.1
  by_cases hne : n = n'
  · subst hne
    have HL := hide hl
    have HL' := hide hl'
    have HB := hide hb
    have HS := hide hS
    have HS' := hide hS'
    clear hl hl' hb hS hS'
    go_enter Tryz.func40, Tryz.ntmps40
    go_wp2
    go_loopw [7, 8, 9, 17] (fun _ _ _ i wr => ∃ k : Nat, k ≤ n ∧ i = .int .i64 k ∧ Drew w wr ∧ Hid (pss.take k = qss.take k)) (fun _ _ _ i _ => n - (intOf i).toNat)
    case atStart => exact ⟨0, Nat.zero_le _, rfl, Drew.refl _, by simp [Hid]⟩
    case round =>
      obtain ⟨k, hk, rfl, hd, hP⟩ := hrel
      by_cases hlt : k < n
      · obtain ⟨ad, A1, c1, z, rfl, hz, hcell, hA⟩ := (unhide HS).2 wr (hd.below _) k hlt
        obtain ⟨ad', A2, c2, y, rfl, hy, hcell', hA'⟩ := (unhide HS').2 wr (hd.below _) k hlt
        obtain ⟨b1, hb1⟩ : ∃ b, decide (z = y) = b := ⟨_, rfl⟩
        have H1 := hide (fun w' (hd' : Below wr.heap.size wr w') => eqsl_any A1 A2 z.length c1 wr.heap.size y.length c2 wr.heap.size z y b1 hb1 w' (hA.below hd') (hA'.below hd'))
        have HZ := hide (And.intro hz hy)
        have HB1 := hide hb1
        clear hz hy hb1 hA hA'
        go_wp2_with fail
        refine (unhide H1 _ (Below.refl _ _)).mono ?_
        rintro e w3 ⟨rfl, hd3⟩
        have hd4 : Drew w w3 := hd.trans hd3
        clear hd3 hcell hcell' H1
        cases b1 with
        | false =>
          obtain rfl : b = false := (unhide HB).symm.trans (by
            rw [decide_eq_false_iff_not]
            rintro rfl
            have h1 := (unhide HZ).1.symm.trans (unhide HZ).2
            injection h1 with h1
            exact (of_decide_eq_false (unhide HB1)) h1)
          clear HB hP
          go_wp2
          go_ret
          exact ⟨rfl, hd4⟩
        | true =>
          have hnext : Hid (pss.take (k + 1) = qss.take (k + 1)) := hide (by
            rw [List.take_add_one, List.take_add_one, unhide hP, (unhide HZ).1, (unhide HZ).2, of_decide_eq_true (unhide HB1)])
          clear hP HZ
          go_wp2
          go_roundw
          case rel => exact ⟨k + 1, by omega, by go_num, hd4, hnext⟩
          case measure => simp [intOf]; omega
      · obtain rfl : n = k := by omega
        obtain rfl : b = true := (unhide HB).symm.trans (by
          have h := unhide hP
          rw [List.take_of_length_le (by rw [unhide HL]; exact Nat.le_refl _), List.take_of_length_le (by rw [unhide HL']; exact Nat.le_refl _)] at h
          simp [h])
        clear HB hP
        go_wp2
        go_ret
        exact ⟨rfl, hd⟩
  · obtain rfl : b = false := hb.symm.trans (by
      rw [decide_eq_false_iff_not]
      rintro rfl
      exact hne (hl.symm.trans hl'))
    have h1 : ¬ (n : Int) = (n' : Int) := by omega
    clear hl hl' hb hS hS'
    go_enter Tryz.func40, Tryz.ntmps40
    go_wp2
    go_ret
    exact ⟨rfl, Drew.refl _⟩

set_option maxHeartbeats 1600000 in
theorem ieqinf_any (A P A' P' : Option Addr) (n c B m d n' c' B' m' d' : Nat) (p q : List Int) (pss qss : List (List Int)) (b : Bool) (hb : (decide (p = q) && decide (pss = qss)) = b) (w : World) (h : Arg w B A n c p) (h' : Arg w B' A' n' c' q)
    (hS : AtS w P m pss) (hS' : AtS w P' m' qss) (hm : m ≤ 1048576) (hm' : m' ≤ 1048576) :
    Calls Tryz.prog 11 #[.agg #[.slice A n c, .slice P m d], .agg #[.slice A' n' c', .slice P' m' d']] w (GivesB w b) := by
  obtain ⟨b1, hb1⟩ : ∃ b, decide (p = q) = b := ⟨_, rfl⟩
  obtain ⟨b2, hb2⟩ : ∃ b, decide (pss = qss) = b := ⟨_, rfl⟩
  have H1 := hide (fun w' (hb' : Below w.heap.size w w') => eqsl_any A A' n c B n' c' B' p q b1 hb1 w' (h.below hb') (h'.below hb'))
  have H2 := hide (fun w' (hb' : Below w.heap.size w w') => eqfunc_any P P' m d m' d' pss qss b2 hb2 w' (hS.below hb') (hS'.below hb') hm hm')
  rw [hb1, hb2] at hb
  clear hb1 hb2 h h' hS hS'
  have b1' := (Below.refl _ w).alloc (Nat.le_refl _) (.cells #[.slice A n c, .slice P m d] 28)
  have b2' := b1'.alloc (by simp) (.cells #[.slice A' n' c', .slice P' m' d'] 28)
  have g1 := (Whole.new w 28 #[.slice A n c, .slice P m d]).alloc (.cells #[.slice A' n' c', .slice P' m' d'] 28)
  have g2 := Whole.new (w.alloc (.cells #[.slice A n c, .slice P m d] 28)) 28 #[.slice A' n' c', .slice P' m' d']
  simp only [World.size_alloc] at g2
  clear b1'
  go_enter Tryz.func11, Tryz.ntmps11
  go_wp2_with fail
  refine (unhide H1 _ b2').mono ?_
  rintro e w3 ⟨rfl, hd⟩
  have hb3 := b2'.trans (hd.below _)
  have k1 := (Whole.below g1 (hd.below (w.heap.size + 2)) (by omega)).cell 1
  have k2 := (Whole.below g2 (hd.below (w.heap.size + 2)) (by omega)).cell 1
  simp only [List.getElem?_toArray, List.getElem?_cons_zero, List.getElem?_cons_succ] at k1 k2
  clear H1 hd b2' g1 g2
  cases b1 with
  | false =>
    obtain rfl : b = false := by simpa using hb.symm
    clear hb
    go_wp2
    go_ret
    exact ⟨rfl, hb3⟩
  | true =>
    obtain rfl : b = b2 := by simpa using hb.symm
    clear hb
    go_wp2_with fail
    refine (unhide H2 _ hb3).mono ?_
    rintro e w4 ⟨rfl, hd4⟩
    have hb5 := hb3.trans (hd4.below _)
    clear H2 hd4 hb3
    go_wp2
    go_ret
    exact ⟨rfl, hb5⟩
end Go.Proofs.YtinnlhfdgbeibaaGreat


/-
  laws.sameInts, laws.sameLists, at equal lists, by their contracts.
-/

namespace Go.Proofs.YtinnlhfdgbeibaaGreat
set_option maxRecDepth 100000
open Go.RowKit

set_option maxHeartbeats 400000 in
/-- laws.sameInts: equal lists. -/
theorem samei_any (A A' : Option Addr) (n c n' c' B B' : Nat) (zs : List Int) (w : World) (hr : Reads w B A n (i64s zs)) (hr' : Reads w B' A' n' (i64s zs)) (hn : n ≤ 1099511627776) :
    Calls Tryz.prog 24 #[.slice A n c, .slice A' n' c'] w fun e w' => e = .returned (.bool true) ∧ Drew w w' := by
  have e1 : zs.length = n := by have := hr.1; rwa [i64_length] at this
  have e2 : zs.length = n' := by have := hr'.1; rwa [i64_length] at this
  obtain rfl : n = n' := by omega
  clear e1 e2
  go_enter Tryz.func24, Tryz.ntmps24
  go_wp2
  go_loopw [5] (fun i wr => ∃ k : Nat, k ≤ n ∧ i = .int .i64 k ∧ Drew w wr) (fun i _ => n - (intOf i).toNat)
  case atStart => exact ⟨0, Nat.zero_le _, rfl, Drew.refl _⟩
  case round =>
    obtain ⟨k, hk, rfl, hd⟩ := hrel
    by_cases hlt : k < n
    · obtain ⟨ad, u, rfl, _, hx, hc⟩ := (hr.ofDrew hd).at_ hlt
      obtain ⟨ad', u', rfl, _, hx', hc'⟩ := (hr'.ofDrew hd).at_ hlt
      obtain ⟨s, hs, rfl⟩ := i64_at hx
      obtain ⟨s', hs', rfl⟩ := i64_at hx'
      obtain rfl : s = s' := by rw [hs] at hs'; exact Option.some.inj hs'
      clear hx hx' hs hs' hr hr'
      have HD := hide hd
      clear hd
      go_wp2
      go_quiet (fail)
      go_wp2
      go_roundw
      case rel => exact ⟨k + 1, by omega, by go_num, (unhide HD).more _⟩
      case measure => simp [intOf]; omega
    · go_wp2
      go_ret
      exact ⟨rfl, hd⟩

set_option maxHeartbeats 400000 in
/-- laws.sameLists: equal lists of rows. -/
theorem samess_any (A A' : Option Addr) (n c n' c' B B' : Nat) (zss : List (List Int)) (w : World) (hr : IntsS w B (.slice A n c) zss) (hr' : IntsS w B' (.slice A' n' c') zss) (hn : n ≤ 1048576) (ht : tot zss ≤ 1099511627776) :
    Calls Tryz.prog 16 #[.slice A n c, .slice A' n' c'] w fun e w' => e = .returned (.bool true) ∧ Drew w w' := by
  have e1 := hr.len
  have e2 := hr'.len
  obtain rfl : n = n' := by omega
  have HE := hide e1
  clear e1 e2
  go_enter Tryz.func16, Tryz.ntmps16
  go_wp2
  go_loopw [5] (fun i wr => ∃ k : Nat, k ≤ n ∧ i = .int .i64 k ∧ Drew w wr) (fun i _ => n - (intOf i).toNat)
  case atStart => exact ⟨0, Nat.zero_le _, rfl, Drew.refl _⟩
  case round =>
    obtain ⟨k, hk, rfl, hd⟩ := hrel
    by_cases hlt : k < n
    · obtain ⟨ad, A1, c1, zs, rfl, hz, hc, hI⟩ := (hr.below (hd.below _)).at_ hlt
      obtain ⟨ad', A1', c1', zs', rfl, hz', hc', hI'⟩ := (hr'.below (hd.below _)).at_ hlt
      obtain rfl : zs = zs' := by rw [hz] at hz'; exact Option.some.inj hz'
      have hle := tot_at hz
      have HD := hide hd
      have H1 := hide hI.reads
      have H2 := hide hI'.reads
      clear hz hz' hd hI hI' hr hr'
      go_wp2
      go_quiet ((go_at_call 24; exact Calls.quiet_of (samei_any _ _ _ _ _ _ _ _ zs _ ((unhide H1).drewN _) ((unhide H2).drewN _) (by omega))))
      go_wp2
      go_roundw
      case rel => exact ⟨k + 1, by omega, by go_num, (unhide HD).more _⟩
      case measure => simp [intOf]; omega
    · go_wp2
      go_ret
      exact ⟨rfl, hd⟩
end Go.Proofs.YtinnlhfdgbeibaaGreat


/-
  laws.big, by its contract.
-/

namespace Go.Proofs.YtinnlhfdgbeibaaGreat
set_option maxRecDepth 100000
open Go.RowKit
theorem big_any (A : Option Addr) (n c : Nat) (hn : n ≤ 9223372036854775807) (w : World) :
    Calls Tryz.prog 4 #[.slice A n c] w fun e w' => e = .returned (.bool (decide (1048576 < n))) ∧ w = w' := by
  go_enter Tryz.func4, Tryz.ntmps4
  go_wp2
  go_ret
  exact ⟨ret_bool (by simp; omega), rfl⟩
end Go.Proofs.YtinnlhfdgbeibaaGreat
