/-
  Words and contracts that the laws lean on, bundled: OccR, LowS, PatsS, PatF, NearS, OpenC, Jots, Tell, Zone.
-/
import Derived.Test.YtabfjmabiapgoaaB4
import Derived.Deep.RegionHeld3
import Derived.Test.YtabfjmabiapgoaaB2
import Derived.Test.YtabfjmabiapgoaaB3
import Derived.Laws.BitsLemmas
import Derived.BigQuiet
import Derived.Lib.SmallJoins
import Derived.Laws.Bits64b
import Derived.RangeFuncNested
import Derived.RangeFuncBound
import Derived.RangeFuncCalls
import Derived.RangeFuncLeaves

/-
  spec.OccurrencesOf, spec.CountPattern, spec.HasPattern, spec.IsOccurrence, by their contracts.
-/

namespace Go.Proofs.Ytabfjmabiapgoaa
set_option maxRecDepth 100000
open Go.RowKit

set_option maxHeartbeats 800000 in
theorem soccs_any (A A' : Option Addr) (n c B n' c' B' : Nat) (p q : List Int) (w : World) (h : Arg w B A n c p) (h' : Arg w B' A' n' c' q) :
    Calls Try.prog 30 #[.slice A n c, .slice A' n' c'] w (GivesSS w (occR p q)) := by
  obtain ⟨b, hb⟩ : ∃ b, isP p = b := ⟨_, rfl⟩
  obtain ⟨b', hb'⟩ : ∃ b, isP q = b := ⟨_, rfl⟩
  have H0 := hide (sisperm_any A n c B p b hb w h.reads h.le h.cap)
  cases b with
  | false =>
    have HR := hide (occR_no (p := p) (q := q) (.inl hb))
    rw [unhide HR]
    clear h h' hb hb'
    go_enter Try.func30, Try.ntmps30
    go_wp2_with fail
    refine (unhide H0).mono ?_
    rintro e w1 ⟨rfl, hd⟩
    have hb1 := hd.below w.heap.size
    have hm := IntsS.made0 w1 w.heap.size hb1.size
    clear H0 hd
    go_wp2
    go_ret
    exact GivesSS.mk hm (hb1.alloc hb1.size _)
  | true =>
    have H1 := hide (fun w' (hb'' : Below w.heap.size w w') => sisperm_any A' n' c' B' q b' hb' w' (h'.below hb'').reads h'.le h'.cap)
    cases b' with
    | false =>
      have HR := hide (occR_no (p := p) (q := q) (.inr hb'))
      rw [unhide HR]
      clear h h' hb hb'
      go_enter Try.func30, Try.ntmps30
      go_wp2_with fail
      refine (unhide H0).mono ?_
      rintro e w1 ⟨rfl, hd⟩
      have hb1 := hd.below w.heap.size
      have H2 := hide (unhide H1 w1 hb1)
      clear H0 H1 hd
      go_wp2_with fail
      refine (unhide H2).mono ?_
      rintro e w2 ⟨rfl, hd2⟩
      have hb2 := hb1.trans (hd2.below _)
      have hm := IntsS.made0 w2 w.heap.size hb2.size
      clear H2 hd2 hb1
      go_wp2
      go_ret
      exact GivesSS.mk hm (hb2.alloc hb2.size _)
    | true =>
      have HR := hide (occR_yes hb hb')
      have hsz := occ_size p q hb
      rw [unhide HR] at hsz ⊢
      have H3 := hide (fun (w' : World) (hx : Below w.heap.size w w') => l7find_any q.length A A' n c B n' c' B' w.heap.size p q (some ⟨w'.heap.size, 0, none⟩) 0 0 [] (.slice (some ⟨w'.heap.size + 1, 0, none⟩) 0 0) [] []
        ((w'.alloc (.cells #[] 3)).alloc (.cells #[] 22)) (h.below ((hx.alloc hx.size _).alloc (by have := hx.size; simp; omega) _)) (h'.below ((hx.alloc hx.size _).alloc (by have := hx.size; simp; omega) _)) h.under h'.under (by have := hx.size; simp; omega) hb hb' (by simp) (PlOK.nil _)
        ((Ints.made0 w' w.heap.size hx.size).below ((Below.refl _ _).alloc (Nat.le_refl _) _)) (by have := ownS0 (w'.alloc (.cells #[] 3)) w.heap.size (by have := hx.size; simp; omega); rw [World.size_alloc] at this; exact this) (Inner.nil _ _) (fun x hx => by cases hx) (by simp only [List.length_nil]; omega))
      clear h h' hb hb' hsz
      go_enter Try.func30, Try.ntmps30
      go_wp2_with fail
      refine (unhide H0).mono ?_
      rintro e w1 ⟨rfl, hd⟩
      have hb1 := hd.below w.heap.size
      have H2 := hide (unhide H1 w1 hb1)
      clear H0 H1 hd
      go_wp2_with fail
      refine (unhide H2).mono ?_
      rintro e w2 ⟨rfl, hd2⟩
      have hb2 := hb1.trans (hd2.below _)
      have H4 := hide (unhide H3 w2 hb2)
      clear H2 H3 hd2 hb1
      go_wp2_with fail
      refine (unhide H4).mono ?_
      rintro e w5 ⟨v, us, rfl, o5, i5, _, hb5, _⟩
      have hS : IntsS w5 w.heap.size v (extL p q q.length []) := ⟨us, by simpa using o5, by simpa using i5⟩
      have hb6 := ((hb2.alloc hb2.size (.cells #[] 3)).alloc (by have := hb2.size; simp; omega) (.cells #[] 22)).trans hb5
      clear H4 o5 i5 hb5
      go_wp2
      go_ret
      exact GivesSS.mk hS hb6
/-- How often q occurs in p. -/
def numOcc (p q : List Int) : Int := if isP p && isP q then ((occR p q).length : Int) else -1
def hasR (p q : List Int) : Bool := decide (1 ≤ numOcc p q)
theorem numOcc_rng (p q : List Int) : -1 ≤ numOcc p q ∧ numOcc p q ≤ 256 := by
  unfold numOcc
  by_cases h : (isP p && isP q) = true
  · rw [if_pos h]
    have := occ_size p q (by simp at h; exact h.1)
    omega
  · rw [if_neg h]; omega
end Go.Proofs.Ytabfjmabiapgoaa


/-
  spec.l7Without, spec.WithoutPlace, spec.LowersOf, by their contracts.
-/

namespace Go.Proofs.Ytabfjmabiapgoaa
set_option maxRecDepth 100000
open Go.RowKit

theorem place_nat' {n : Nat} {x : Int} (h : 1 ≤ x ∧ x ≤ (n : Int)) : ∃ X : Nat, x = ((X + 1 : Nat) : Int) ∧ X < n := ⟨x.toNat - 1, by omega, by omega⟩
/-- A list without the number at index k. -/
def cutAt (p : List Int) (k : Nat) : List Int := p.take k ++ p.drop (k + 1)
theorem cutAt_len {p : List Int} {k : Nat} (h : k < p.length) : (cutAt p k).length + 1 = p.length := by
  unfold cutAt
  rw [List.length_append, List.length_take, List.length_drop]; omega
theorem cutAt_sub (p : List Int) (k : Nat) : (cutAt p k).Sublist p := by
  have h : (p.take k ++ p.drop (k + 1)).Sublist (p.take k ++ p.drop k) := (List.Sublist.refl _).append (by
    rw [← List.drop_drop]; exact List.drop_sublist _ _)
  rwa [List.take_append_drop] at h
theorem cutAt_isP {p : List Int} (hp : isP p = true) (k : Nat) : isP (patL (cutAt p k)) = true := by
  rw [isP_pat]
  have h := isP_true.1 hp
  exact patOK_yes (Nat.le_trans (cutAt_sub p k).length_le (isP_le hp)) (h.2.2.sublist (cutAt_sub p k))

def wplOK (p : List Int) (x : Int) : Bool := isP p && decide (1 ≤ x ∧ x ≤ (p.length : Int))
def wplR (p : List Int) (x : Int) : List Int := if wplOK p x then patL (cutAt p (x.toNat - 1)) else []
theorem wplR_yes {p : List Int} {x : Int} (h : wplOK p x = true) : wplR p x = patL (cutAt p (x.toNat - 1)) := by unfold wplR; rw [if_pos h]
theorem wplR_no {p : List Int} {x : Int} (h : wplOK p x = false) : wplR p x = [] := by unfold wplR; rw [if_neg (by simp [h])]
theorem wplR_le (p : List Int) (x : Int) : (wplR p x).length ≤ 8 := by
  cases h : wplOK p x with
  | false => rw [wplR_no h]; exact Nat.zero_le _
  | true =>
    have hp : isP p = true := by unfold wplOK at h; simp at h; exact h.1
    rw [wplR_yes h]
    exact isP_le (cutAt_isP hp _)
/-- The patterns without one of the first k indices, in order. -/
def lowK (p : List Int) (k : Nat) : List (List Int) := ((List.range k).map fun i => patL (cutAt p i)).foldl putL []
theorem lowK_step (p : List Int) (k : Nat) : lowK p (k + 1) = putL (lowK p k) (patL (cutAt p k)) := by
  unfold lowK
  rw [List.range_succ, List.map_append, List.foldl_append]; rfl
theorem lowK_all {p : List Int} (hp : isP p = true) : ∀ k, ∀ z ∈ lowK p k, isP z = true
  | 0, z, hz => by simp [lowK] at hz
  | k + 1, z, hz => by
    rw [lowK_step, mem_putL] at hz
    rcases hz with hz | rfl
    · exact lowK_all hp k z hz
    · exact cutAt_isP hp k
theorem lowK_len (p : List Int) : ∀ k, (lowK p k).length ≤ k
  | 0 => by simp [lowK]
  | k + 1 => by
    have h1 := lowK_len p k
    have h2 := (putL_len (lowK p k) (patL (cutAt p k))).2
    rw [lowK_step]; omega
def lowR (p : List Int) : List (List Int) := if isP p then lowK p p.length else []
theorem lowR_yes {p : List Int} (h : isP p = true) : lowR p = lowK p p.length := by unfold lowR; rw [if_pos h]
theorem lowR_no {p : List Int} (h : isP p = false) : lowR p = [] := by unfold lowR; rw [if_neg (by simp [h])]
end Go.Proofs.Ytabfjmabiapgoaa


/-
  spec.PatternsIn, by its contract.
-/

namespace Go.Proofs.Ytabfjmabiapgoaa
set_option maxRecDepth 100000
open Go.RowKit

/-- The numbers at those of the first k indices whose bit is set. -/
def subK (p : List Int) (s : Nat) : Nat → List Int
  | 0 => []
  | k + 1 => if s.testBit k then subK p s k ++ [at0 p k] else subK p s k
theorem subK_len (p : List Int) (s : Nat) : ∀ k, (subK p s k).length ≤ k
  | 0 => Nat.le_refl _
  | k + 1 => by
    have := subK_len p s k
    rw [subK]; split <;> simp <;> omega
/-- The patterns of length k of the first s sets of indices, in order. -/
def patK (p : List Int) (k : Int) : Nat → List (List Int)
  | 0 => []
  | s + 1 => if ((subK p s p.length).length : Int) = k then putL (patK p k s) (patL (subK p s p.length)) else patK p k s
def patsOK (p : List Int) (k : Int) : Bool := isP p && decide (0 ≤ k ∧ k ≤ (p.length : Int))
def patsR (p : List Int) (k : Int) : List (List Int) := if patsOK p k then patK p k (2 ^ p.length) else []

theorem bit_test (s k : Nat) (hs : s ≤ 256) : (bits .and .i64 ((s : Int) / 2 ^ k) 1 == 1) = s.testBit k := by
  have h0 : (s : Int) / 2 ^ k = ((s / 2 ^ k : Nat) : Int) := by push_cast; rfl
  have hle : s / 2 ^ k ≤ s := Nat.div_le_self _ _
  have h1 : bits .and .i64 ((s / 2 ^ k : Nat) : Int) 1 = ((s / 2 ^ k % 2 : Nat) : Int) := by
    have := bits_mask .i64 63 (by decide) (fun n h0 h1 => by rw [IntKind.wrap_i64]; omega) 1 (by decide) ((s / 2 ^ k : Nat) : Int) (Int.natCast_nonneg _) (Int.lt_of_le_of_lt (Int.ofNat_le.2 hle) (by omega))
    simpa using this
  rw [h0, h1, Nat.testBit_eq_decide_div_mod_eq]
  by_cases h : s / 2 ^ k % 2 = 1
  · rw [h]; rfl
  · have h2 : s / 2 ^ k % 2 = 0 := by omega
    rw [h2]; rfl
theorem patK_len (p : List Int) (k : Int) : ∀ s, (patK p k s).length ≤ s
  | 0 => Nat.le_refl _
  | s + 1 => by
    have h1 := patK_len p k s
    have h2 := (putL_len (patK p k s) (patL (subK p s p.length))).2
    rw [patK]; split <;> omega
theorem subK_sub (p : List Int) (s : Nat) : ∀ k, k ≤ p.length → (subK p s k).Sublist (p.take k)
  | 0, _ => by simp [subK]
  | k + 1, hk => by
    have ih := subK_sub p s k (by omega)
    rw [take_snoc_i (at0_some (show k < p.length by omega)), subK]
    split
    · exact ih.append (List.Sublist.refl _)
    · exact ih.trans (List.sublist_append_left _ _)
theorem subK_isP {p : List Int} (hp : isP p = true) (s : Nat) : isP (patL (subK p s p.length)) = true := by
  have h := subK_sub p s p.length (Nat.le_refl _)
  rw [List.take_length] at h
  rw [isP_pat]
  exact patOK_yes (Nat.le_trans h.length_le (isP_le hp)) ((isP_true.1 hp).2.2.sublist h)
theorem patK_all {p : List Int} (hp : isP p = true) (k : Int) : ∀ s, ∀ z ∈ patK p k s, isP z = true
  | 0, z, hz => by simp [patK] at hz
  | s + 1, z, hz => by
    rw [patK] at hz
    split at hz
    · rcases mem_putL.1 hz with hz | rfl
      · exact patK_all hp k s z hz
      · exact subK_isP hp s
    · exact patK_all hp k s z hz
theorem patK_yes {p : List Int} {k : Int} {s : Nat} (h : ((subK p s p.length).length : Int) = k) : patK p k (s + 1) = putL (patK p k s) (patL (subK p s p.length)) := by rw [patK, if_pos h]
theorem patK_no {p : List Int} {k : Int} {s : Nat} (h : ¬ ((subK p s p.length).length : Int) = k) : patK p k (s + 1) = patK p k s := by rw [patK, if_neg h]
theorem patsR_yes {p : List Int} {k : Int} (h : patsOK p k = true) : patsR p k = patK p k (2 ^ p.length) := by unfold patsR; rw [if_pos h]
theorem patsR_no {p : List Int} {k : Int} (h : patsOK p k = false) : patsR p k = [] := by unfold patsR; rw [if_neg (by simp [h])]

end Go.Proofs.Ytabfjmabiapgoaa


/-
  PLAIN: patterns of patterns are patterns; what FnPatterns needs of them.
-/

namespace Go.Proofs.Ytabfjmabiapgoaa
set_option maxRecDepth 100000

theorem hasR_yes {p q : List Int} (hp : isP p = true) (hq : isP q = true) (h : 0 < (occR p q).length) : hasR p q = true := by
  unfold hasR numOcc
  rw [if_pos (by simp [hp, hq])]
  exact decide_eq_true (by omega)
theorem hasR_iff {p q : List Int} (hp : isP p = true) (hq : isP q = true) : hasR p q = true ↔ ∃ pl, PlOK p.length pl ∧ pl.length = q.length ∧ Alike (nums p pl) q := by
  constructor
  · intro h
    unfold hasR numOcc at h
    rw [if_pos (by simp [hp, hq])] at h
    have := of_decide_eq_true h
    obtain ⟨pl, hpl⟩ := List.exists_mem_of_length_pos (show 0 < (occR p q).length by omega)
    obtain ⟨_, _, h3, h4, h5⟩ := isOcc_iff.1 (mem_occ.1 hpl)
    exact ⟨pl, h4, h3, (pat_eq_iff hq).1 h5⟩
  · rintro ⟨pl, h1, h2, h3⟩
    exact hasR_yes hp hq (List.length_pos_of_mem (a := pl) (mem_occ.2 (isOcc_iff.2 ⟨hp, hq, h2, h1, (pat_eq_iff hq).2 h3⟩)))
theorem hasR_sub {p s : List Int} (hp : isP p = true) (h : s.Sublist p) (hs : isP (patL s) = true) : hasR p (patL s) = true := hasR_yes hp hs (occ_sub hp h hs)
theorem numOcc_yes {p q : List Int} (hp : isP p = true) (hq : isP q = true) : numOcc p q = ((occR p q).length : Int) := by unfold numOcc; rw [if_pos (by simp [hp, hq])]
theorem num_inv {p q : List Int} (hp : isP p = true) (hq : isP q = true) : numOcc (invR p) (invR q) = ((occR p q).length : Int) := by
  rw [invR_yes hp, invR_yes hq]
  have := occ_inv_len hp hq
  unfold invL at this
  rw [numOcc_yes (isP_inv hp) (isP_inv hq), this]
theorem num_rev {p q : List Int} (hp : isP p = true) (hq : isP q = true) : numOcc (revR p) (revR q) = ((occR p q).length : Int) := by
  rw [revR_yes hp, revR_yes hq, numOcc_yes (isP_rev hp) (isP_rev hq), occ_rev_len]
/-- Each pattern is one. -/
theorem patK_mem {p : List Int} {k : Int} : ∀ {s : Nat} {x : List Int}, x ∈ patK p k s → ∃ t, x = patL (subK p t p.length)
  | 0, x, h => by rw [show patK p k 0 = [] from rfl] at h; cases h
  | s + 1, x, h => by
    by_cases hk : ((subK p s p.length).length : Int) = k
    · rw [patK_yes hk, mem_putL] at h
      rcases h with h | h
      · exact patK_mem h
      · exact ⟨s, h⟩
    · rw [patK_no hk] at h
      exact patK_mem h
theorem pats_has {p x : List Int} {k : Int} (h : x ∈ patsR p k) : hasR p x = true := by
  cases hk : patsOK p k with
  | false => rw [patsR_no hk] at h; cases h
  | true =>
    have hp : isP p = true := by unfold patsOK at hk; rw [Bool.and_eq_true] at hk; exact hk.1
    rw [patsR_yes hk] at h
    obtain ⟨t, rfl⟩ := patK_mem h
    refine hasR_sub hp ?_ (subK_isP hp t)
    have := subK_sub p t p.length (Nat.le_refl _)
    rwa [List.take_length] at this
theorem wpl_has {p : List Int} {x : Int} (h : wplOK p x = true) : hasR p (wplR p x) = true := by
  have hp : isP p = true := by unfold wplOK at h; rw [Bool.and_eq_true] at h; exact h.1
  rw [wplR_yes h]
  exact hasR_sub hp (cutAt_sub p _) (cutAt_isP hp _)
theorem wpl_low {p : List Int} {x : Int} (h : wplOK p x = true) : wplR p x ∈ lowR p := by
  have hp : isP p = true := by unfold wplOK at h; rw [Bool.and_eq_true] at h; exact h.1
  have hx : 1 ≤ x ∧ x ≤ (p.length : Int) := by unfold wplOK at h; rw [Bool.and_eq_true] at h; exact of_decide_eq_true h.2
  rw [wplR_yes h, lowR_yes hp]
  unfold lowK
  rw [(foldl_put _ [] List.Pairwise.nil).2.1]
  refine .inr (List.mem_map.2 ⟨x.toNat - 1, List.mem_range.2 (by omega), rfl⟩)
/-! how much it is -/
theorem tot_room (m : Nat) : ∀ l : List (List Int), (∀ z ∈ l, z.length ≤ m) → tot l ≤ m * l.length
  | [], _ => by simp [tot]
  | z :: l, h => by
    have h1 := h z (by simp)
    have h2 := tot_room m l fun y hy => h y (by simp [hy])
    simp only [tot, List.length_cons, List.map_cons, List.sum_cons, Nat.mul_add, Nat.mul_one] at h2 ⊢
    omega
theorem occ_room (p q : List Int) : (occR p q).length ≤ 256 ∧ tot (occR p q) ≤ 2048 := by
  have ht := tot_room 8 (occR p q) fun z hz => by
    obtain ⟨_, h2, h3, _⟩ := isOcc_iff.1 (mem_occ.1 hz)
    have := isP_le h2
    omega
  have hnum := numOcc_rng p q
  have h8 : (occR p q).length ≤ 256 := by
    cases hpp : isP p with
    | false => rw [occR_no (.inl hpp)]; simp
    | true =>
      cases hqq : isP q with
      | false => rw [occR_no (.inr hqq)]; simp
      | true => rw [numOcc_yes hpp hqq] at hnum; omega
  exact ⟨h8, by omega⟩
theorem pats_all {p z : List Int} {k : Int} (h : z ∈ patsR p k) : isP z = true := by
  cases hk : patsOK p k with
  | false => rw [patsR_no hk] at h; cases h
  | true =>
    have hp : isP p = true := by unfold patsOK at hk; rw [Bool.and_eq_true] at hk; exact hk.1
    rw [patsR_yes hk] at h
    exact patK_all hp k _ z h
theorem pats_size (p : List Int) (k : Int) : (patsR p k).length ≤ 256 ∧ tot (patsR p k) ≤ 2048 := by
  have ht := tot_room 8 (patsR p k) fun z hz => isP_le (pats_all hz)
  have h8 : (patsR p k).length ≤ 256 := by
    cases hk : patsOK p k with
    | false => rw [patsR_no hk]; simp
    | true =>
      have hp : isP p = true := by unfold patsOK at hk; rw [Bool.and_eq_true] at hk; exact hk.1
      rw [patsR_yes hk]
      have h1 := patK_len p k (2 ^ p.length)
      have h2 : 2 ^ p.length ≤ 2 ^ 8 := Nat.pow_le_pow_right (by omega) (isP_le hp)
      omega
  exact ⟨h8, by omega⟩
theorem low_all {p z : List Int} (h : z ∈ lowR p) : isP z = true := by
  cases hp : isP p with
  | false => rw [lowR_no hp] at h; cases h
  | true => rw [lowR_yes hp] at h; exact lowK_all hp _ z h
theorem low_size (p : List Int) : (lowR p).length ≤ 8 ∧ tot (lowR p) ≤ 64 := by
  have ht := tot_room 8 (lowR p) fun z hz => isP_le (low_all hz)
  have h8 : (lowR p).length ≤ 8 := by
    cases hp : isP p with
    | false => rw [lowR_no hp]; simp
    | true =>
      rw [lowR_yes hp]
      have h1 := lowK_len p p.length
      have := isP_le hp
      omega
  exact ⟨h8, by omega⟩
theorem occ_is {p q pl : List Int} (h : pl ∈ occR p q) : isOcc p q pl = true := mem_occ.1 h
end Go.Proofs.Ytabfjmabiapgoaa


/-
  spec.l8Fits, spec.IsNear, spec.CountNear, by their contracts.
-/

namespace Go.Proofs.Ytabfjmabiapgoaa
set_option maxRecDepth 100000
open Go.RowKit

theorem fitJ_step {J pl : List Int} {k : Nat} {x : Int} (hx : J[k]? = some x) (h : fitJ (J.take k) pl = true) (hf : at0 pl x.toNat = at0 pl (x.toNat - 1) + 1) : fitJ (J.take (k + 1)) pl = true := by
  rw [fitJ_iff] at h ⊢
  intro j hj
  rw [take_snoc_i hx, List.mem_append, List.mem_singleton] at hj
  rcases hj with hj | rfl
  · exact h j hj
  · exact hf
theorem fitJ_no {J pl : List Int} {k : Nat} {x : Int} (hx : J[k]? = some x) (hf : ¬ at0 pl x.toNat = at0 pl (x.toNat - 1) + 1) : fitJ J pl = false := by
  cases h : fitJ J pl with
  | false => rfl
  | true => exact absurd (fitJ_iff.1 h x (List.mem_of_getElem? hx)) hf
set_option maxHeartbeats 800000 in
theorem l8fits_any (A P : Option Addr) (n c B m d B' : Nat) (pl J : List Int) (w : World) (h : Arg w B A n c pl) (h' : Arg w B' P m d J) (hJ : PlOK (n - 1) J) (hpl : ∀ x ∈ pl, 1 ≤ x ∧ x ≤ 8) (hn : n ≤ 8) :
    Calls Try.prog 32 #[.slice A n c, .slice P m d] w fun e w' => e = .returned (.bool (fitJ J pl)) ∧ Drew w w' := by
  have hl := h.len
  have hl' := h'.len
  have hr := h.reads
  have hr' := h'.reads
  have hm := h'.le
  obtain ⟨b, hb⟩ : ∃ b, fitJ J pl = b := ⟨_, rfl⟩
  rw [hb]
  have HB := hide hb
  have HJ := hide (fun k x (hx : J[k]? = some x) => hJ.1 x (List.mem_of_getElem? hx))
  have HPL := hide (fun k x (hx : pl[k]? = some x) => hpl x (List.mem_of_getElem? hx))
  have HL := hide (⟨hl, hl'⟩ : pl.length = n ∧ J.length = m)
  clear h h' hJ hpl hl hl' hb
  go_enter Try.func32, Try.ntmps32
  go_wp2
  go_loopw [5] (fun i wr => ∃ k : Nat, k ≤ m ∧ i = .int .i64 k ∧ Drew w wr ∧ Hid (fitJ (J.take k) pl = true)) (fun i _ => m - (intOf i).toNat)
  case atStart => exact ⟨0, Nat.zero_le _, rfl, Drew.refl _, by exact (rfl : fitJ (J.take 0) pl = true)⟩
  case round =>
    obtain ⟨k, hk, rfl, hd, hs⟩ := hrel
    by_cases hlt : k < m
    · obtain ⟨ad, u, rfl, _, hu, hc⟩ := (hr'.ofDrew hd).at_ hlt
      obtain ⟨x, hx, rfl⟩ := i64_at hu
      have hxr := unhide HJ k x hx
      obtain ⟨ad1, u1, rfl, _, hu1, hc1⟩ := (hr.ofDrew hd).at_ (show x.toNat < n by omega)
      obtain ⟨ad2, u2, hA2, _, hu2, hc2⟩ := (hr.ofDrew hd).at_ (show x.toNat - 1 < n by omega)
      obtain rfl : ad1 = ad2 := by injection hA2
      obtain ⟨y, hy, rfl⟩ := i64_at hu1
      obtain ⟨z, hz, rfl⟩ := i64_at hu2
      have hzr := unhide HPL _ z hz
      have hyr := unhide HPL _ y hy
      have ey : at0 pl x.toNat = y := at0_of hy
      have ez : at0 pl (x.toNat - 1) = z := at0_of hz
      have hw1 : IntKind.i64.wrap (x - 1) = x - 1 := by rw [IntKind.wrap_i64]; omega
      have hw2 : IntKind.i64.wrap (z + 1) = z + 1 := by rw [IntKind.wrap_i64]; omega
      have hi2 : (x - 1).toNat = x.toNat - 1 := by omega
      have hb0 : 0 ≤ x := by omega
      have hb1 : x < (n : Int) := by omega
      have hb2 : 0 ≤ x - 1 := by omega
      have hb3 : x - 1 < (n : Int) := by omega
      have HD := hide hd
      by_cases hyz : y = z + 1
      · have hnext := hide (fitJ_step hx (unhide hs) (by rw [ey, ez]; exact hyz))
        subst hyz
        clear hx hy hz hu hu1 hu2 hs ey ez hr hr' hd hyr
        go_wp2
        go_quiet (fail)
        go_wp2
        go_roundw
        case rel => exact ⟨k + 1, by omega, by go_num, (unhide HD).more _, hnext⟩
        case measure => simp [intOf]; omega
      · obtain rfl : b = false := (unhide HB).symm.trans (fitJ_no hx (by rw [ey, ez]; exact hyz))
        have hne : (y == z + 1) = false := by simpa using hyz
        clear hx hy hz hu hu1 hu2 hs ey ez hr hr' hd hyr HB hyz
        go_wp2
        go_quiet (fail)
        go_wp2
        go_ret
        exact ⟨rfl, (unhide HD).more _⟩
    · obtain rfl : m = k := by omega
      obtain rfl : b = true := (unhide HB).symm.trans (by have h := unhide hs; rwa [List.take_of_length_le (by rw [(unhide HL).2]; exact Nat.le_refl _)] at h)
      clear HB hs
      go_wp2
      go_ret
      exact ⟨rfl, hd⟩
theorem take_last {J : List Int} {k : Nat} {y : Int} (hy : J[k]? = some y) : lastP (J.take (k + 1)) = y.toNat := by rw [take_snoc_i hy, lastP_snoc]
theorem plok_step {n : Nat} {J : List Int} {k : Nat} {x : Int} (hx : J[k]? = some x) : PlOK n (J.take (k + 1)) ↔ PlOK n (J.take k) ∧ (lastP (J.take k) : Int) < x ∧ x ≤ (n : Int) := by rw [take_snoc_i hx, PlOK.snoc]
theorem plok_no {n : Nat} {J : List Int} {k : Nat} (h : ¬ PlOK n (J.take k)) : ¬ PlOK n J := fun h2 => h (h2.take k)
theorem near_false {q J : List Int} (h : ¬ PlOK (q.length - 1) J) : nearOK q J = false := by unfold nearOK; rw [decide_eq_false h, Bool.and_false]
theorem near_true {q J : List Int} {b : Bool} (hq : isP q = b) (h : PlOK (q.length - 1) J) : nearOK q J = b := by unfold nearOK; rw [decide_eq_true h, Bool.and_true, hq]
set_option maxHeartbeats 1600000 in
theorem snear_any (A P : Option Addr) (n c B m d B' : Nat) (q J : List Int) (w : World) (h : Arg w B A n c q) (h' : Arg w B' P m d J) :
    Calls Try.prog 9 #[.agg #[.slice A n c, .slice P m d]] w (GivesB w (nearOK q J)) := by
  have hl := h.len
  have hl' := h'.len
  have hm := h'.le
  have hn := h.le
  obtain ⟨w0, hw0⟩ : ∃ w0, w0 = w.alloc (.cells #[.slice A n c, .slice P m d] 27) := ⟨_, rfl⟩
  have b0 : Below w.heap.size w w0 := by rw [hw0]; exact (Below.refl _ w).alloc (Nat.le_refl _) _
  have g0 : Whole w0 w.heap.size 27 #[.slice A n c, .slice P m d] := by rw [hw0]; exact Whole.new _ _ _
  have q0 := g0.cell 0
  have q1 := g0.cell 1
  simp only [List.getElem?_toArray, List.getElem?_cons_zero, List.getElem?_cons_succ] at q0 q1
  have hr' := (h'.below b0).reads
  obtain ⟨b, hb⟩ : ∃ b, nearOK q J = b := ⟨_, rfl⟩
  obtain ⟨bp, hbp⟩ : ∃ b, isP q = b := ⟨_, rfl⟩
  rw [hb]
  have HB := hide hb
  have HBP := hide hbp
  have HA := hide (fun wr (hd : Drew w0 wr) => sisperm_any A n c B q bp hbp wr (h.below (below_after b0 (hd.below _))).reads h.le h.cap)
  have HL := hide (⟨hl, hl'⟩ : q.length = n ∧ J.length = m)
  have HJS := hide (fun k x (hx : J[k]? = some x) => h'.small x (List.mem_of_getElem? hx))
  have hwn : IntKind.i64.wrap ((n : Int) - 1) = (n : Int) - 1 := by rw [IntKind.wrap_i64]; omega
  have HW := hide hw0
  clear h h' hl hl' hb hbp g0 hw0
  go_enter Try.func9, Try.ntmps9
  go_wp2
  rw [← unhide HW]
  clear HW
  go_loopw [3] (fun i wr => ∃ k : Nat, k ≤ m ∧ i = .int .i64 k ∧ Drew w0 wr ∧ Hid (PlOK (q.length - 1) (J.take k))) (fun i _ => m - (intOf i).toNat)
  case atStart => exact ⟨0, Nat.zero_le _, rfl, Drew.refl _, hide (PlOK.nil _)⟩
  case round =>
    obtain ⟨k, hk, rfl, hd, hs⟩ := hrel
    have c0 := (hd.cell ⟨w.heap.size, 0, none⟩).trans q0
    have c1 := (hd.cell ⟨w.heap.size, 1, none⟩).trans q1
    by_cases hlt : k < m
    · obtain ⟨ad, u, rfl, _, hu, hc⟩ := (hr'.ofDrew hd).at_ hlt
      obtain ⟨x, hx, rfl⟩ := i64_at hu
      obtain ⟨bi, hbi⟩ : ∃ bi, decide ((1 : Int) ≤ x ∧ x ≤ (n : Int) - 1) = bi := ⟨_, rfl⟩
      have HI := hide (fun w' => l1in_any x 1 ((n : Int) - 1) bi hbi w')
      have HD := hide hd
      have hstep := plok_step (n := q.length - 1) hx
      have hlq := (unhide HL).1
      cases bi with
      | false =>
        have hno : ¬ (1 ≤ x ∧ x ≤ (n : Int) - 1) := of_decide_eq_false hbi
        obtain rfl : b = false := (unhide HB).symm.trans (near_false (plok_no (k := k + 1) fun h2 => by
          have h3 := h2.1 x (by rw [take_snoc_i hx]; simp)
          omega))
        clear hx hu hs hbi hr' hd HB hstep hno q0 q1 hlq
        go_wp2
        go_quiet ((go_at_call 27; exact Calls.quiet_of_same (unhide HI _)))
        go_wp2
        go_ret
        exact ⟨rfl, below_after b0 (((unhide HD).more _).below _)⟩
      | true =>
        have hyes : 1 ≤ x ∧ x ≤ (n : Int) - 1 := of_decide_eq_true hbi
        by_cases h0 : k = 0
        · subst h0
          have hc0 : wr.cell? ad = some (.int .i64 x) := by rw [show ad = ad.add 0 by unfold Addr.add; split <;> simp_all]; exact hc
          have hnext := hide (hstep.2 ⟨unhide hs, by rw [List.take_zero, lastP_nil]; omega, by omega⟩)
          clear hx hu hs hbi hr' hd hstep hyes q0 q1 hlq
          go_wp2
          go_quiet ((go_at_call 27; exact Calls.quiet_of_same (unhide HI _)))
          go_wp2
          go_roundw
          case rel => exact ⟨1, by omega, by go_num, (unhide HD).more _, hnext⟩
          case measure => simp [intOf]; omega
        · obtain ⟨k2, rfl⟩ : ∃ k2, k = k2 + 1 := ⟨k - 1, by omega⟩
          obtain ⟨ad2, u2, hA2, _, hu2, hc2⟩ := (hr'.ofDrew hd).at_ (show k2 < m by omega)
          obtain rfl : ad = ad2 := by injection hA2
          obtain ⟨y, hy, rfl⟩ := i64_at hu2
          have hy1 : 1 ≤ y := ((unhide hs).1 y (by rw [take_snoc_i hy]; simp)).1
          have hlast := take_last hy
          have hgt : (0 : Int) < (k2 : Int) + 1 := by omega
          have hc3 : wr.cell? ⟨ad.block, ad.off + (k2 + 1), none⟩ = some (.int .i64 x) := by rw [← show ad.add (k2 + 1) = ⟨ad.block, ad.off + (k2 + 1), none⟩ by unfold Addr.add; rw [if_neg (by omega)]]; exact hc
          have hwk : IntKind.i64.wrap ((k2 : Int) + 1 - 1) = (k2 : Int) := by rw [IntKind.wrap_i64]; omega
          have hwk' : IntKind.i64.wrap (k2 : Int) = (k2 : Int) := by rw [IntKind.wrap_i64]; omega
          have hb2 : (k2 : Int) < (m : Int) := by omega
          have hb3 : (k2 : Int) + 1 < (m : Int) := by omega
          have hb4 : (0 : Int) ≤ (k2 : Int) := by omega
          by_cases hxy : x ≤ y
          · obtain rfl : b = false := (unhide HB).symm.trans (near_false (plok_no (k := k2 + 1 + 1) fun h2 => by
              have h3 := hstep.1 h2
              rw [hlast] at h3
              omega))
            clear hx hu hu2 hy hs hbi hr' hd HB hstep hyes q0 q1 hlq hlast h0
            go_wp2
            go_quiet ((go_at_call 27; exact Calls.quiet_of_same (unhide HI _)))
            go_wp2
            go_ret
            exact ⟨rfl, below_after b0 (((unhide HD).more _).below _)⟩
          · have hnext := hide (hstep.2 ⟨unhide hs, by rw [hlast]; omega, by omega⟩)
            clear hx hu hu2 hy hs hbi hr' hd hstep hyes q0 q1 hlq hlast h0
            go_wp2
            go_quiet ((go_at_call 27; exact Calls.quiet_of_same (unhide HI _)))
            go_wp2
            go_roundw
            case rel => exact ⟨k2 + 1 + 1, by omega, by go_num, (unhide HD).more _, hnext⟩
            case measure => simp [intOf]; omega
    · obtain rfl : m = k := by omega
      obtain rfl : bp = b := (near_true (unhide HBP) (by have h := unhide hs; rwa [List.take_of_length_le (by rw [(unhide HL).2]; exact Nat.le_refl _)] at h)).symm.trans (unhide HB)
      have H1 := hide (unhide HA wr hd)
      clear HB hs HA HBP
      go_wp2_with fail
      refine (unhide H1).mono ?_
      rintro e w2 ⟨rfl, d2⟩
      have d := below_after b0 ((hd.trans d2).below _)
      clear H1 d2 hd
      go_wp2
      go_ret
      exact ⟨rfl, d⟩
theorem near_take {p q J : List Int} {k : Nat} {z : List Int} (hz : (occR p q)[k]? = some z) : (((((occR p q).take (k + 1)).filter (fitJ J)).length : Nat) : Int) = ((((occR p q).take k).filter (fitJ J)).length : Int) + bitI (fitJ J z) := by
  rw [List.take_add_one, hz, Option.toList_some, List.filter_append, List.length_append]
  cases h : fitJ J z with
  | true => rw [List.filter_cons_of_pos h]; simp [bitI]
  | false => rw [List.filter_cons_of_neg (by simp [h])]; simp [bitI]
set_option maxHeartbeats 1600000 in
theorem scntn_any (A A' P : Option Addr) (n c B n' c' B' m d B2 : Nat) (p q J : List Int) (w : World) (h : Arg w B A n c p) (h' : Arg w B' A' n' c' q) (h2 : Arg w B2 P m d J) :
    Calls Try.prog 13 #[.slice A n c, .agg #[.slice A' n' c', .slice P m d]] w (GivesN w (numNear p q J)) := by
  obtain ⟨w0, hw0⟩ : ∃ w0, w0 = w.alloc (.cells #[.slice A' n' c', .slice P m d] 27) := ⟨_, rfl⟩
  have b0 : Below w.heap.size w w0 := by rw [hw0]; exact (Below.refl _ w).alloc (Nat.le_refl _) _
  have g0 : Whole w0 w.heap.size 27 #[.slice A' n' c', .slice P m d] := by rw [hw0]; exact Whole.new _ _ _
  obtain ⟨bp, hbp⟩ : ∃ b, isP p = b := ⟨_, rfl⟩
  have H1 := hide (show Calls Try.prog 28 #[.slice A n c] (w.alloc (.cells #[.slice A' n' c', .slice P m d] 27)) (fun e w' => e = .returned (.bool bp) ∧ Drew w0 w') from by
    rw [← hw0]; exact sisperm_any A n c B p bp hbp w0 (h.below b0).reads h.le h.cap)
  cases bp with
  | false =>
    rw [numNear_no (.inl hbp)]
    clear h h' h2 hbp hw0 g0
    go_enter Try.func13, Try.ntmps13
    go_wp2_with fail
    refine (unhide H1).mono ?_
    rintro e w1 ⟨rfl, hd⟩
    have hb1 := below_after b0 (hd.below _)
    clear H1 hd b0
    go_wp2
    go_ret
    exact ⟨rfl, hb1⟩
  | true =>
    obtain ⟨bn, hbn⟩ : ∃ b, nearOK q J = b := ⟨_, rfl⟩
    have H2 := hide (show ∀ w1, Drew w0 w1 → Calls Try.prog 9 #[.agg #[.slice A' n' c', .slice P m d]] w1 (GivesB w1 bn) from fun w1 hd => by
      rw [← hbn]; exact snear_any A' P n' c' B' m d B2 q J w1 (h'.below (below_after b0 (hd.below _))) (h2.below (below_after b0 (hd.below _))))
    cases bn with
    | false =>
      rw [numNear_no (.inr hbn)]
      clear h h' h2 hbp hw0 hbn
      go_enter Try.func13, Try.ntmps13
      go_wp2_with fail
      refine (unhide H1).mono ?_
      rintro e w1 ⟨rfl, hd⟩
      have g1 := g0.below (hd.below (w.heap.size + 1)) (by omega)
      have q0 := g1.cell 0
      have q1 := g1.cell 1
      have q2 := g1.lt
      simp only [List.getElem?_toArray, List.getElem?_cons_zero, List.getElem?_cons_succ] at q0 q1
      have H3 := hide (unhide H2 w1 hd)
      have hb1 := below_after b0 (hd.below _)
      clear H1 H2 hd b0 g0 g1
      go_wp2_with fail
      refine (unhide H3).mono ?_
      rintro e w2 ⟨rfl, d2⟩
      have hb2 := below_after hb1 d2
      clear H3 d2 hb1 q0 q1 q2
      go_wp2
      go_ret
      exact ⟨rfl, hb2⟩
    | true =>
      obtain ⟨hq, hJ⟩ := nearOK_iff.1 hbn
      rw [numNear_yes hbp hbn]
      unfold nearR
      have hl := h.len
      have hl' := h'.len
      have hn8 : n ≤ 8 := by have := isP_le hbp; omega
      have hn8' : n' ≤ 8 := by have := isP_le hq; omega
      have HO := hide (fun w2 (d2 : Below w.heap.size w w2) => soccs_any A A' n c B n' c' B' p q w2 (h.below d2) (h'.below d2))
      have HF := hide (show ∀ (w4 : World) (A4 : Option Addr) (c4 B4 : Nat) (z : List Int), z ∈ occR p q → Below w.heap.size w w4 → Ints w4 B4 (.slice A4 z.length c4) z → Calls Try.prog 32 #[.slice A4 z.length c4, .slice P m d] w4 (fun e w' => e = .returned (.bool (fitJ J z)) ∧ Drew w4 w') from fun w4 A4 c4 B4 z hz hb4 hI => by
        have ho := isOcc_iff.1 (mem_occ.1 hz)
        have hzl : z.length = n' := by omega
        exact l8fits_any A4 P z.length c4 _ m d B2 z J w4 (hI.arg (by omega) hI.cap (fun x hx => by have := ho.2.2.2.1.1 x hx; omega)) (h2.below hb4) (by rw [ho.2.2.1]; exact hJ) (fun x hx => by have := ho.2.2.2.1.1 x hx; omega) (by omega))
      have HR := hide (show (occR p q).length ≤ 1048576 from by have := (occ_room p q).1; omega)
      obtain ⟨L, hL⟩ : ∃ L, L = occR p q := ⟨_, rfl⟩
      have HT := hide (fun (k : Nat) (z : List Int) (hz : L[k]? = some z) => near_take (J := J) (hL ▸ hz))
      rw [← hL] at HO HF HR HT ⊢
      clear h h' h2 hbp hw0 hbn hq hJ hL hl hl'
      go_enter Try.func13, Try.ntmps13
      go_wp2_with fail
      refine (unhide H1).mono ?_
      rintro e w1 ⟨rfl, hd⟩
      have g1 := g0.below (hd.below (w.heap.size + 1)) (by omega)
      have q0 := g1.cell 0
      have q1 := g1.cell 1
      have q2 := g1.lt
      simp only [List.getElem?_toArray, List.getElem?_cons_zero, List.getElem?_cons_succ] at q0 q1
      have H3 := hide (unhide H2 w1 hd)
      have hb1 := below_after b0 (hd.below _)
      clear H1 H2 hd b0 g0
      go_wp2_with fail
      refine (unhide H3).mono ?_
      rintro e w2 ⟨rfl, d2⟩
      have g2 := g1.below d2 q2
      have hb2 := below_after hb1 d2
      clear H3 d2 hb1 q0 q1 q2 g1
      have q0 := g2.cell 0
      have q2 := g2.lt
      simp only [List.getElem?_toArray, List.getElem?_cons_zero] at q0
      have H4 := hide (unhide HO w2 hb2)
      clear HO
      go_wp2_with fail
      refine (unhide H4).mono ?_
      rintro e w3 ⟨A3, c3, rfl, o3, d3⟩
      have g3 := g2.below d3 q2
      have hb3 := below_after hb2 d3
      have q1 := g3.cell 1
      simp only [List.getElem?_toArray, List.getElem?_cons_zero, List.getElem?_cons_succ] at q1
      have hLn := unhide HR
      clear H4 d3 hb2 q0 q2 g2 g3
      go_wp2
      go_loopw [5, 7] (fun s i wr => ∃ k : Nat, k ≤ L.length ∧ i = .int .i64 k ∧ s = .int .i64 ((((L.take k).filter (fitJ J)).length : Nat) : Int) ∧ Drew w3 wr) (fun _ i _ => L.length - (intOf i).toNat)
      case atStart => exact ⟨0, Nat.zero_le _, rfl, rfl, Drew.refl _⟩
      case round =>
        obtain ⟨k, hk, rfl, rfl, hd⟩ := hrel
        by_cases hlt : k < L.length
        · have hb4 := below_after hb3 (hd.below _)
          obtain ⟨ad, A4, c4, z, rfl, hz, hcell, hI⟩ := (o3.below (hd.below _)).at_ hlt
          have hstep := unhide HT k z hz
          have q1' := (hd.cell ⟨w.heap.size, 1, none⟩).trans q1
          have HFZ := hide (show ∀ w', Drew wr w' → _ from fun w' d' => unhide HF w' A4 c4 _ z (List.mem_of_getElem? hz) (below_after hb4 (d'.below _)) (hI.below (d'.below _)))
          obtain ⟨bz, hbz⟩ : ∃ b, fitJ J z = b := ⟨_, rfl⟩
          rw [hbz] at HFZ hstep
          have hle : ((L.take k).filter (fitJ J)).length ≤ k := by
            have h1 := List.length_filter_le (fitJ J) (L.take k)
            rw [List.length_take] at h1; omega
          obtain ⟨s0, hs0⟩ : ∃ s0, s0 = ((L.take k).filter (fitJ J)).length := ⟨_, rfl⟩
          rw [← hs0] at hstep hle ⊢
          have hwr : IntKind.i64.wrap ((s0 : Int) + bitI bz) = (s0 : Int) + bitI bz := by rw [IntKind.wrap_i64]; cases bz <;> simp [bitI] <;> omega
          have HD := hide hd
          have HST := hide hstep
          clear hz hb4 hI hd hbz hstep hs0
          go_wp2
          go_quiet (first
            | (go_at_call 32; exact Calls.quiet_of (unhide HFZ _ ⟨_, rfl⟩))
            | (go_at_call 31; exact Calls.quiet_of_same (bit_any bz _)))
          go_wp2
          go_roundw
          case rel => exact ⟨k + 1, by omega, by go_num, by rw [unhide HST], (unhide HD).more _⟩
          case measure => simp [intOf]; omega
        · obtain rfl : L.length = k := by omega
          have hb4 := below_after hb3 (hd.below _)
          rw [List.take_length]
          clear hd hb3
          go_wp2
          go_ret
          exact ⟨rfl, hb4⟩
end Go.Proofs.Ytabfjmabiapgoaa


/-
  A STRUCT'S FIELD []int AS PART OF AN ARGUMENT: how it reads.
-/

namespace Go.Proofs.Ytabfjmabiapgoaa
set_option maxRecDepth 100000
open Go.RowKit Go.ChangeShapes Go.WideShapes Go.ChangeAt

/-- A field []int, as 'Reads'. -/
theorem open_ints_cell {H : Type} {enc : TypeId × Value → H} {P : Program} {w : World} {t e : TypeId} {v : Value} {y : DataW H × List MemPlace} {k : Nat} (ht : P.underlying t = some (.slice e)) (he : P.underlying e = some (.int .i64)) (hc : P.cellsOf e = 1)
    (hf : DataW.trod enc P w 0 (fun _ => true) true k t [v] = some y) (hlt : ∀ x ∈ y.2, x.block < w.heap.size) :
    ∃ (A : Option Addr) (n c : Nat) (zs : List Int), v = .slice A n c ∧ Reads w w.heap.size A n (i64s zs) ∧ n ≤ maxLen ∧ Small zs := by
  rcases open_ints ht he hc hf with ⟨hcs, hx⟩ | ⟨a, len', cap', zs, hcs, _, hl, hm, hz, hx, hcell, hws⟩
  · injection hcs with hcs
    subst hcs
    exact ⟨none, 0, 0, [], rfl, Reads.none_, Nat.zero_le _, fun z hz => by simp at hz⟩
  · injection hcs with hcs
    subst hcs
    subst hx
    simp only [if_true] at hz
    refine ⟨some a, len', cap', zs.take len', rfl, ⟨by rw [i64_length, List.length_take]; omega, fun hn => ⟨a, rfl, lt_of_row (j := 0) hlt (by omega), fun j u hu => ?_⟩⟩, by omega, small_of_wf fun z hz => hws z (List.mem_of_mem_take hz)⟩
    unfold i64s at hu
    rw [List.getElem?_map, List.getElem?_take] at hu
    by_cases hj : j < len'
    · rw [if_pos hj] at hu
      rw [hcell j (by omega), ← hu, List.getD_eq_getElem?_getD]
      have : zs[j]? = some zs[j] := List.getElem?_eq_getElem (by omega)
      rw [this]; rfl
    · rw [if_neg hj] at hu; cases hu
end Go.Proofs.Ytabfjmabiapgoaa


/-
  impl.joints (a bit for each joined number): jointsOf, has, fit; impl.IsNear, by their contracts.
-/

namespace Go.Proofs.Ytabfjmabiapgoaa
set_option maxRecDepth 100000
open Go.RowKit

/-- A bit for each number. -/
def jB (J : List Int) : Nat := J.foldl (fun a j => a ||| 2 ^ j.toNat) 0
theorem jB_nil : jB [] = 0 := rfl
theorem jB_snoc (J : List Int) (x : Int) : jB (J ++ [x]) = jB J ||| 2 ^ x.toNat := by unfold jB; rw [List.foldl_append]; rfl
theorem jB_step {J : List Int} {k : Nat} {x : Int} (hx : J[k]? = some x) : jB (J.take (k + 1)) = jB (J.take k) ||| 2 ^ x.toNat := by rw [take_snoc_i hx, jB_snoc]
theorem jB_lt_aux : ∀ (J : List Int) (a : Nat), a < 512 → (∀ x ∈ J, 0 ≤ x ∧ x ≤ 8) → J.foldl (fun a j => a ||| 2 ^ j.toNat) a < 512
  | [], a, ha, _ => ha
  | x :: J, a, ha, h => by
    rw [List.foldl_cons]
    refine jB_lt_aux J _ ?_ fun y hy => h y (List.mem_cons_of_mem _ hy)
    have hx := h x (List.mem_cons_self ..)
    have h2 : 2 ^ x.toNat < 2 ^ 9 := Nat.pow_lt_pow_right (by decide) (by omega)
    exact Nat.or_lt_two_pow (n := 9) ha h2
theorem jB_lt {J : List Int} (h : ∀ x ∈ J, 0 ≤ x ∧ x ≤ 8) : jB J < 512 := jB_lt_aux J 0 (by decide) h
theorem jB_test_aux (i : Nat) : ∀ (J : List Int) (a : Nat), (∀ x ∈ J, 0 ≤ x) → (J.foldl (fun a j => a ||| 2 ^ j.toNat) a).testBit i = (a.testBit i || decide ((i : Int) ∈ J))
  | [], a, _ => by simp
  | x :: J, a, h => by
    have hx := h x (List.mem_cons_self ..)
    rw [List.foldl_cons, jB_test_aux i J _ fun y hy => h y (List.mem_cons_of_mem _ hy), Nat.testBit_or, Nat.testBit_two_pow, Bool.or_assoc]
    congr 1
    by_cases e : x.toNat = i
    · have e2 : (i : Int) = x := by omega
      simp [e, e2]
    · have e2 : ¬ (i : Int) = x := by omega
      simp [e, e2]
theorem jB_test {J : List Int} (h : ∀ x ∈ J, 0 ≤ x) (i : Nat) : (jB J).testBit i = decide ((i : Int) ∈ J) := by
  unfold jB; rw [jB_test_aux i J 0 h]; simp
theorem bit_testU (s k : Nat) (hs : s < 512) : (bits .and .u64 ((s : Int) / 2 ^ k) 1 == 1) = s.testBit k := by
  have h0 : (s : Int) / 2 ^ k = ((s / 2 ^ k : Nat) : Int) := by push_cast; rfl
  have hle : s / 2 ^ k ≤ s := Nat.div_le_self _ _
  have h1 : bits .and .u64 ((s / 2 ^ k : Nat) : Int) 1 = ((s / 2 ^ k % 2 : Nat) : Int) := by
    have := bits_mask .u64 63 (by decide) (fun n h0 h1 => by rw [IntKind.wrap_u64]; omega) 1 (by decide) ((s / 2 ^ k : Nat) : Int) (Int.natCast_nonneg _) (Int.lt_of_le_of_lt (Int.ofNat_le.2 hle) (by omega))
    simpa using this
  rw [h0, h1, Nat.testBit_eq_decide_div_mod_eq]
  by_cases h : s / 2 ^ k % 2 = 1
  · rw [h]; rfl
  · have h2 : s / 2 ^ k % 2 = 0 := by omega
    rw [h2]; rfl
set_option maxHeartbeats 800000 in
theorem jots_any (A : Option Addr) (n c B : Nat) (J : List Int) (w : World) (h : Arg w B A n c J) (hJ : ∀ x ∈ J, 0 ≤ x ∧ x ≤ 8) :
    Calls Try.prog 33 #[.slice A n c] w fun e w' => e = .returned (.int .u64 (jB J : Nat)) ∧ Drew w w' := by
  have hl := h.len
  have hr := h.reads
  have hm := h.le
  have HJ := hide (fun k x (hx : J[k]? = some x) => hJ x (List.mem_of_getElem? hx))
  have HT := hide (fun k => jB_lt (J := J.take k) fun x hx => hJ x (List.mem_of_mem_take hx))
  have HL := hide hl
  clear h hl hJ
  go_enter Try.func33, Try.ntmps33
  go_wp2
  go_loopw [3, 8] (fun b i wr => ∃ k : Nat, k ≤ n ∧ i = .int .i64 k ∧ b = .int .u64 (jB (J.take k) : Nat) ∧ Drew w wr) (fun _ i _ => n - (intOf i).toNat)
  case atStart => exact ⟨0, Nat.zero_le _, rfl, rfl, Drew.refl _⟩
  case round =>
    obtain ⟨k, hk, rfl, rfl, hd⟩ := hrel
    by_cases hlt : k < n
    · obtain ⟨ad, u, rfl, _, hu, hc⟩ := (hr.ofDrew hd).at_ hlt
      obtain ⟨x, hx, rfl⟩ := i64_at hu
      obtain ⟨hx0, hx8⟩ := unhide HJ k x hx
      have hlt1 := unhide HT k
      have hstep := jB_step hx
      obtain ⟨j, rfl⟩ : ∃ j : Nat, x = (j : Int) := ⟨x.toNat, by omega⟩
      rw [Int.toNat_natCast] at hstep
      have hp : 2 ^ j < 2 ^ 9 := Nat.pow_lt_pow_right (by decide) (by omega)
      have hor := bits_or_u64_nat (jB (J.take k)) (2 ^ j) (by omega) (by omega)
      rw [← hstep] at hor
      clear hu hx hstep
      have HD := hide hd
      have HO := hide hor
      have hw2 : IntKind.u64.wrap (2 ^ j) = ((2 ^ j : Nat) : Int) := by
        have e : ((2 : Int) ^ j) = ((2 ^ j : Nat) : Int) := by push_cast; rfl
        rw [e, IntKind.wrap_u64]
        generalize 2 ^ j = P at hp
        omega
      have HW := hide hw2
      clear hd hor hw2
      go_wp2
      go_roundw
      case rel => exact ⟨k + 1, by omega, by go_num, by rw [unhide HW, unhide HO], unhide HD⟩
      case measure => simp [intOf]; omega
    · obtain rfl : n = k := by omega
      rw [List.take_of_length_le (Nat.le_of_eq (unhide HL))]
      go_wp2
      go_ret
      exact ⟨rfl, hd⟩
theorem jhas_any (s i : Nat) (hs : s < 512) (hi : i ≤ 62) (w : World) :
    Calls Try.prog 39 #[.int .u64 (s : Nat), .int .i64 i] w fun e w' => e = .returned (.bool (s.testBit i)) ∧ w' = w := by
  have H := hide (bit_testU s i hs)
  go_enter Try.func39, Try.ntmps39
  go_wp2
  go_ret
  exact ⟨ret_bool (unhide H), rfl⟩
theorem jhas_in {J : List Int} (hJ : ∀ x ∈ J, 0 ≤ x ∧ x ≤ 8) (i : Int) (hi : 0 ≤ i ∧ i ≤ 62) (b : Bool) (hb : decide (i ∈ J) = b) (w : World) :
    Calls Try.prog 39 #[.int .u64 (jB J : Nat), .int .i64 i] w fun e w' => e = .returned (.bool b) ∧ w' = w := by
  obtain ⟨k, rfl⟩ : ∃ k : Nat, i = (k : Int) := ⟨i.toNat, by omega⟩
  rw [← hb, ← jB_test (fun x hx => (hJ x hx).1)]
  exact jhas_any (jB J) k (jB_lt hJ) (by omega) w
set_option maxHeartbeats 800000 in
theorem jfit_any (A : Option Addr) (n c B : Nat) (pl J : List Int) (w : World) (h : Arg w B A n c pl) (hJ : PlOK (n - 1) J) (hpl : ∀ x ∈ pl, 1 ≤ x ∧ x ≤ 8) (hn : n ≤ 8) :
    Calls Try.prog 35 #[.int .u64 (jB J : Nat), .slice A n c] w fun e w' => e = .returned (.bool (fitJ J pl)) ∧ Drew w w' := by
  have hl := h.len
  have hr := h.reads
  obtain ⟨b, hb⟩ : ∃ b, fitJ J pl = b := ⟨_, rfl⟩
  rw [hb]
  have HB := hide hb
  have hJ8 : ∀ x ∈ J, 0 ≤ x ∧ x ≤ 8 := fun x hx => by have := hJ.1 x hx; omega
  have HJ := hide hJ
  have HH := hide (fun (i : Int) (hi : 0 ≤ i ∧ i ≤ 62) b hb (w' : World) => jhas_in hJ8 i hi b hb w')
  have HPL := hide (fun k x (hx : pl[k]? = some x) => hpl x (List.mem_of_getElem? hx))
  have HL := hide hl
  clear h hJ hJ8 hpl hl hb
  go_enter Try.func35, Try.ntmps35
  go_wp2
  go_loopw [5] (fun i wr => ∃ k : Nat, (k ≤ n ∨ k = 1) ∧ 1 ≤ k ∧ i = .int .i64 k ∧ Drew w wr ∧ Hid (∀ j ∈ J, j < (k : Int) → at0 pl j.toNat = at0 pl (j.toNat - 1) + 1)) (fun i _ => n - (intOf i).toNat)
  case atStart => exact ⟨1, .inr rfl, Nat.le_refl _, rfl, Drew.refl _, hide fun j hj hlt => by have := (unhide HJ).1 j hj; omega⟩
  case round =>
    obtain ⟨k, hk, hk1, rfl, hd, hs⟩ := hrel
    by_cases hlt : k < n
    · obtain ⟨k2, rfl⟩ : ∃ k2, k = k2 + 1 := ⟨k - 1, by omega⟩
      obtain ⟨ad1, u1, rfl, _, hu1, hc1⟩ := (hr.ofDrew hd).at_ hlt
      obtain ⟨ad2, u2, hA2, _, hu2, hc2⟩ := (hr.ofDrew hd).at_ (show k2 < n by omega)
      obtain rfl : ad1 = ad2 := by injection hA2
      obtain ⟨y, hy, rfl⟩ := i64_at hu1
      obtain ⟨z, hz, rfl⟩ := i64_at hu2
      have hzr := unhide HPL _ z hz
      have ey : at0 pl (k2 + 1) = y := at0_of hy
      have ez : at0 pl k2 = z := at0_of hz
      have hw2 : IntKind.i64.wrap (z + 1) = z + 1 := by rw [IntKind.wrap_i64]; omega
      have hc3 : wr.cell? ⟨ad1.block, ad1.off + (k2 + 1), none⟩ = some (.int .i64 y) := by rw [← show ad1.add (k2 + 1) = ⟨ad1.block, ad1.off + (k2 + 1), none⟩ by unfold Addr.add; rw [if_neg (by omega)]]; exact hc1
      have hwk : IntKind.i64.wrap ((k2 : Int) + 1 - 1) = (k2 : Int) := by rw [IntKind.wrap_i64]; omega
      have hwk' : IntKind.i64.wrap (k2 : Int) = (k2 : Int) := by rw [IntKind.wrap_i64]; omega
      have hb2 : (k2 : Int) < (n : Int) := by omega
      have hb3 : (k2 : Int) + 1 < (n : Int) := by omega
      have hb4 : (0 : Int) ≤ (k2 : Int) := by omega
      have HD := hide hd
      obtain ⟨bh, hbh⟩ : ∃ bh, decide ((k2 : Int) + 1 ∈ J) = bh := ⟨_, rfl⟩
      have HC := hide (fun w' => unhide HH ((k2 : Int) + 1) (by omega) bh hbh w')
      cases bh with
      | false =>
        have hnot : ¬ (k2 : Int) + 1 ∈ J := of_decide_eq_false hbh
        have hnext := hide (show ∀ j ∈ J, j < ((k2 + 1 + 1 : Nat) : Int) → at0 pl j.toNat = at0 pl (j.toNat - 1) + 1 from fun j hj hlt => by
          by_cases e : j = (k2 : Int) + 1
          · exact absurd (e ▸ hj) hnot
          · exact unhide hs j hj (by omega))
        clear hnot hbh hs ey ez hu1 hu2 hy hz hr hd HH hzr
        go_wp2
        go_quiet ((go_at_call 39; exact Calls.quiet_of_same (unhide HC _)))
        go_wp2
        go_roundw
        case rel => exact ⟨k2 + 1 + 1, .inl (by omega), by omega, by go_num, (unhide HD).more _, hnext⟩
        case measure => simp [intOf]; omega
      | true =>
        have hin : (k2 : Int) + 1 ∈ J := of_decide_eq_true hbh
        by_cases hyz : y = z + 1
        · have hnext := hide (show ∀ j ∈ J, j < ((k2 + 1 + 1 : Nat) : Int) → at0 pl j.toNat = at0 pl (j.toNat - 1) + 1 from fun j hj hlt => by
            by_cases e : j = (k2 : Int) + 1
            · subst e; rw [show ((k2 : Int) + 1).toNat = k2 + 1 by omega, Nat.add_sub_cancel, ey, ez]; exact hyz
            · exact unhide hs j hj (by omega))
          subst hyz
          clear hin hbh hs ey ez hu1 hu2 hy hz hr hd HH hzr
          go_wp2
          go_quiet ((go_at_call 39; exact Calls.quiet_of_same (unhide HC _)))
          go_wp2
          go_roundw
          case rel => exact ⟨k2 + 1 + 1, .inl (by omega), by omega, by go_num, (unhide HD).more _, hnext⟩
          case measure => simp [intOf]; omega
        · obtain rfl : b = false := (unhide HB).symm.trans (by
            cases hf : fitJ J pl with
            | false => rfl
            | true => exact absurd (by have := fitJ_iff.1 hf _ hin; rwa [show ((k2 : Int) + 1).toNat = k2 + 1 by omega, Nat.add_sub_cancel, ey, ez] at this) hyz)
          have hne : (y == z + 1) = false := by simpa using hyz
          clear hin hbh hs ey ez hu1 hu2 hy hz hr hd HH hzr HB hyz
          go_wp2
          go_quiet ((go_at_call 39; exact Calls.quiet_of_same (unhide HC _)))
          go_wp2
          go_ret
          exact ⟨rfl, (unhide HD).more _⟩
    · obtain rfl : b = true := (unhide HB).symm.trans (fitJ_iff.2 fun j hj => unhide hs j hj (by have := (unhide HJ).1 j hj; omega))
      clear HB hs HH
      go_wp2
      go_ret
      exact ⟨rfl, hd⟩
set_option maxHeartbeats 1600000 in
theorem inear_any (A P : Option Addr) (n c B m d B' : Nat) (q J : List Int) (w : World) (h : Arg w B A n c q) (h' : Arg w B' P m d J) :
    Calls Try.prog 11 #[.agg #[.slice A n c, .slice P m d]] w (GivesB w (nearOK q J)) := by
  have hl := h.len
  have hl' := h'.len
  have hm := h'.le
  have hn := h.le
  obtain ⟨w0, hw0⟩ : ∃ w0, w0 = w.alloc (.cells #[.slice A n c, .slice P m d] 27) := ⟨_, rfl⟩
  have b0 : Below w.heap.size w w0 := by rw [hw0]; exact (Below.refl _ w).alloc (Nat.le_refl _) _
  have g0 : Whole w0 w.heap.size 27 #[.slice A n c, .slice P m d] := by rw [hw0]; exact Whole.new _ _ _
  have hr' := (h'.below b0).reads
  obtain ⟨bp, hbp⟩ : ∃ b, isP q = b := ⟨_, rfl⟩
  have q0 := g0.cell 0
  simp only [List.getElem?_toArray, List.getElem?_cons_zero] at q0
  have H1 := hide (iisperm_any A n c B q bp hbp w0 (h.below b0).reads (h.below b0).under h.le h.small)
  cases bp with
  | false =>
    rw [show nearOK q J = false from by unfold nearOK; rw [hbp]; rfl]
    have HW := hide hw0
    clear h h' hl hl' hbp g0 hr'
    rw [hw0] at q0
    clear hw0
    go_enter Try.func11, Try.ntmps11
    go_wp2_with fail
    rw [← unhide HW]
    refine (unhide H1).mono ?_
    rintro e w1 ⟨rfl, d1⟩
    have d2 := below_after b0 d1
    clear H1 HW d1 b0
    go_wp2
    go_ret
    exact ⟨rfl, d2⟩
  | true =>
    obtain ⟨b, hb⟩ : ∃ b, nearOK q J = b := ⟨_, rfl⟩
    rw [hb]
    have HB := hide hb
    have HBP := hide hbp
    have HL := hide (⟨hl, hl'⟩ : q.length = n ∧ J.length = m)
    have HJS := hide (fun k x (hx : J[k]? = some x) => h'.small x (List.mem_of_getElem? hx))
    have HW := hide hw0
    have HU := hide (⟨h'.under, b0.size⟩ : B' ≤ w.heap.size ∧ w.heap.size ≤ w0.heap.size)
    have G0 := hide g0
    clear h h' hl hl' hbp g0 hb
    rw [hw0] at q0
    clear hw0
    go_enter Try.func11, Try.ntmps11
    go_wp2_with fail
    rw [← unhide HW]
    refine (unhide H1).mono ?_
    rintro e w1 ⟨rfl, d1⟩
    have d2 := below_after b0 d1
    have g1 := (unhide G0).below d1 (by have := (unhide G0).lt; omega)
    have c0' := g1.cell 0
    have c1' := g1.cell 1
    simp only [List.getElem?_toArray, List.getElem?_cons_zero, List.getElem?_cons_succ] at c0' c1'
    have hr1 := hr'.below (d1.mono (by have := unhide HU; omega))
    clear H1 HW d1 b0 q0 hr' G0 g1
    go_wp2
    go_loopw [3, 13] (fun l i wr => ∃ k : Nat, k ≤ m ∧ i = .int .i64 k ∧ l = .int .i64 (lastP (J.take k) : Nat) ∧ Drew w1 wr ∧ Hid (PlOK (q.length - 1) (J.take k))) (fun _ i _ => m - (intOf i).toNat)
    case atStart => exact ⟨0, Nat.zero_le _, rfl, by rw [List.take_zero, lastP_nil]; rfl, Drew.refl _, hide (PlOK.nil _)⟩
    case round =>
      obtain ⟨k, hk, rfl, rfl, hd, hs⟩ := hrel
      have c0 := (hd.cell ⟨w.heap.size, 0, none⟩).trans c0'
      have c1 := (hd.cell ⟨w.heap.size, 1, none⟩).trans c1'
      by_cases hlt : k < m
      · obtain ⟨ad, u, rfl, _, hu, hc⟩ := (hr1.ofDrew hd).at_ hlt
        obtain ⟨x, hx, rfl⟩ := i64_at hu
        have HD := hide hd
        have hstep := plok_step (n := q.length - 1) hx
        have hlq := (unhide HL).1
        have hlast := take_last hx
        obtain ⟨l, hl⟩ : ∃ l, lastP (J.take k) = l := ⟨_, rfl⟩
        rw [hl] at hstep ⊢
        by_cases hno : x ≤ (l : Int)
        · obtain rfl : b = false := (unhide HB).symm.trans (near_false (plok_no (k := k + 1) fun h2 => by
            have h3 := (hstep.1 h2).2.1
            omega))
          clear hx hu hs hr1 hd HB hstep c0' c1' hlq hlast hl
          go_wp2
          go_ret
          exact ⟨rfl, d2.trans ((unhide HD).below _)⟩
        · by_cases hge : (n : Int) ≤ x
          · obtain rfl : b = false := (unhide HB).symm.trans (near_false (plok_no (k := k + 1) fun h2 => by
              have h3 := (hstep.1 h2).2.2
              omega))
            clear hx hu hs hr1 hd HB hstep c0' c1' hlq hlast hl
            go_wp2
            go_ret
            exact ⟨rfl, d2.trans ((unhide HD).below _)⟩
          · have hnext := hide (hstep.2 ⟨unhide hs, by omega, by omega⟩)
            have hx' : x = ((x.toNat : Nat) : Int) := by omega
            have HX := hide (show Value.int .i64 x = .int .i64 (lastP (J.take (k + 1)) : Nat) by rw [hlast, ← hx'])
            clear hx hu hs hr1 hd hstep c0' c1' hlq hlast hl hx'
            go_wp2
            go_roundw
            case rel => exact ⟨k + 1, by omega, by go_num, unhide HX, unhide HD, hnext⟩
            case measure => simp [intOf]; omega
      · obtain rfl : m = k := by omega
        obtain rfl : true = b := (near_true (unhide HBP) (by have h := unhide hs; rwa [List.take_of_length_le (by rw [(unhide HL).2]; exact Nat.le_refl _)] at h)).symm.trans (unhide HB)
        clear HB hs hr1
        go_wp2
        go_ret
        exact ⟨rfl, d2.trans (hd.below _)⟩
end Go.Proofs.Ytabfjmabiapgoaa


/-
  A RANGE OVER A FUNCTION WHOSE ITERATOR TELLS THE ROUND WHAT THE HANDED VALUE POINTS TO.
-/

namespace Go.Proofs.Ytabfjmabiapgoaa
set_option maxRecDepth 100000
open Go.RowKit

variable {F : Fence} {n : Nat} {P : Program}
/-- The iterator hands x over in a world V that it has come to from U, where the last round ended: 'Kn U x V' holds; of a round that goes on it asks Kp. -/
def Tells {α : Type} (F : Fence) (n : Nat) (P : Program) (gf : Nat) (lb : Array Value) (en : α → Array Value) (Kn : World → α → World → Prop) (Kp : World → World → Prop) (S Sp : List α → Prop) (N : Nat) (w : World) : Prop :=
  ∀ (l : Nat) (J Jx : List α → World → Prop) (W : World), Below w.heap.size w W → AbidesFrom W.heap.size J → AbidesFrom W.heap.size Jx →
    (∀ pre x U V, J pre U → Below U.heap.size U V → Kn U x V → pre.length < N → YieldAt F (n - 1) P l (en x) V fun e V' => (e = .returned (.bool true) ∧ J (pre ++ [x]) V' ∧ Kp V V') ∨ (e = .returned (.bool false) ∧ Jx (pre ++ [x]) V')) →
    J [] W → CallsIn F n P gf (#[.func (.yield l) #[] #[]] ++ lb) W fun e V => (∃ v, e = .returned v) ∧ ((∃ xs, S xs ∧ J xs V) ∨ ∃ pre, Sp pre ∧ Jx pre V)

/-- The two blocks of the loop's own book-keeping, from block D on. -/
structure Desk (D : Nat) (r : Loop) (W : World) : Prop where
  rec_ : W.heap[D + 1]? = some (.loop r)
  marks : W.heap[D]? = some (.deferred (some []))
theorem Desk.lt {D : Nat} {r : Loop} {W : World} (h : Desk D r W) : D + 1 < W.heap.size := (Array.getElem?_eq_some_iff.1 h.rec_).1
theorem Desk.walked {D : Nat} {r : Loop} {W W' : World} {row : Option Nat} (h : Desk D r W) (hg : W.grownBy W' row) (hr : ∀ k, row = some k → ∃ o : Obj, W.heap[k]? = some o ∧ o.isWalk = true) : Desk D r W' :=
  ⟨(grownBy_keeps hg hr h.rec_ rfl).trans h.rec_, (grownBy_keeps hg hr h.marks rfl).trans h.marks⟩
theorem Desk.kept {D : Nat} {r : Loop} {W W' : World} (h : Desk D r W) (hk : KeepsFrom D W W') : Desk D r W' := ⟨hk.same _ _ (by omega) h.rec_ rfl, hk.same _ _ (Nat.le_refl _) h.marks rfl⟩
theorem Desk.later {D : Nat} {r : Loop} {W W' : World} (h : Desk D r W) (hb : Below W.heap.size W W') : Desk D r W' := ⟨(hb.block _ h.lt).trans h.rec_, (hb.block _ (by have := h.lt; omega)).trans h.marks⟩
/-- The same object put into both worlds. -/
theorem below_both {U V : World} {l : Nat} (h : Below U.heap.size U V) (hl : l < U.heap.size) (o : Obj) : Below (U.putObj l o).heap.size (U.putObj l o) (V.putObj l o) := by
  have hsU := (grownBy_putObj' U l o).size
  have hsz : (U.putObj l o).heap.size = U.heap.size := by unfold World.putObj; simp
  have hsz' : (V.putObj l o).heap.size = V.heap.size := by unfold World.putObj; simp
  refine ⟨h.os, h.tape, h.output, by rw [hsz, hsz']; exact h.size, fun i hi => ?_⟩
  rw [hsz] at hi
  by_cases e : i = l
  · subst e
    rw [World.putObj_heap_same hl, World.putObj_heap_same (Nat.lt_of_lt_of_le hl h.size)]
  · rw [World.putObj_heap_other e, World.putObj_heap_other e]
    exact h.block i hi
theorem Desk.turn {D : Nat} {r : Loop} {W : World} (h : Desk D r W) (r' : Loop) : Desk D r' (W.putObj (D + 1) (.loop r')) := ⟨World.putObj_heap_same h.lt, (World.putObj_heap_other (by omega)).trans h.marks⟩
theorem Desk.new (w : World) (r : Loop) : Desk w.heap.size r ((w.alloc (.deferred (some []))).alloc (.loop r)) := by
  refine ⟨?_, (Below.heap_alloc _ _ _ (by simp)).trans (World.alloc_heap_new w _)⟩
  have := World.alloc_heap_new (w.alloc (.deferred (some []))) (.loop r)
  rwa [World.size_alloc] at this
/-- What speaks of cells abides the turn of the record. -/
theorem own_turn {β : Type} {D : Nat} {I : β → World → Prop} (hI : OwnFrom D I) {s : β} {r r' : Loop} {W : World} (h : I s W) (hd : Desk D r W) : I s (W.putObj (D + 1) (.loop r')) := hI.putObj _ h (by omega) hd.rec_ rfl
theorem walks_own {β : Type} {D B : Nat} {I : β → World → Prop} (hI : OwnFrom D I) (hB : D ≤ B) {s : β} {W W' : World} {row : Option Nat} (h : I s W) (hg : W.grownBy W' row) (hr : ∀ k, row = some k → B ≤ k ∧ ∃ o : Obj, W.heap[k]? = some o ∧ o.isWalk = true) : I s W' :=
  hI s W W' row h hg fun k e => by
    obtain ⟨h1, o, h2, h3⟩ := hr k e
    exact ⟨by omega, o, h2, Obj.not_cells_of_walk h3⟩

set_option maxHeartbeats 1600000 in
theorem range_tells {α : Type} {g : Operand} {ps : Array Tmp} {assign body : Code} {Q : Exit → Act → World → Prop} {a : Act} {w : World}
    (hro : F.round = none) (h1 : 1 ≤ n) {gf : Nat} {lb : Array Value} (hg : a.eval g = .func (.func gf) #[] lb) (hFg : F.fn gf) (eg : ∀ args w, (callFunc gf args).run P w = .ok (.enter gf args) w)
    {en : α → Array Value} {Kn : World → α → World → Prop} {Kp : World → World → Prop} {S Sp : List α → Prop} {N : Nat} {w0 : World} (hseq : Tells F (n - 1) P gf lb en Kn Kp S Sp N w0) (hb0 : Below w0.heap.size w0 w)
    (hKt : ∀ {A B C : World}, Kp A B → Kp B C → Kp A C) (hKb : ∀ (W : World) (r r' : Loop), Desk w.heap.size r W → Kp W (W.putObj (w.heap.size + 1) (.loop r')))
    (hps : ∀ x, (en x).size = ps.size) (hKn : ∀ (U V : World) (x : α) (r r' : Loop), Desk w.heap.size r U → Desk w.heap.size r V → Kn U x V → Kn (U.putObj (w.heap.size + 1) (.loop r')) x (V.putObj (w.heap.size + 1) (.loop r')))
    (I : List α → World → Prop) (Ix : Code → List α → World → Prop) (hI : OwnFrom w.heap.size I) (hIx : ∀ c, OwnFrom w.heap.size (Ix c)) (h0 : I [] w) (a₁ : α → Act)
    (hassign : ∀ (l : Nat) (x : α) (W : World) (K : Act → World → Prop), K (a₁ x) W →
      assign.wpIn (F.inRound l) (n - 1 - 1) P (Exit.then K (fun _ _ _ => False)) { tmps := (ps.zip (en x)).foldl (fun t (p, v) => t.setIfInBounds p v) a.tmps, defers := [] } W)
    (hbody : ∀ (l : Nat) (pre : List α) (x : α) (U W : World), I pre U → Below U.heap.size U W → Kn U x W → pre.length < N → w.heap.size + 2 ≤ U.heap.size → body.wpIn (F.inRound l) (n - 1 - 1) P (ownPostG w.heap.size Kp I Ix (pre ++ [x]) W) (a₁ x) W)
    (hdone : ∀ (xs : List α) (W : World), S xs → I xs W → W.heap[w.heap.size]? = some (.deferred (some [])) → Q .normal { a with defers := { target := .collected w.heap.size, args := #[] } :: a.defers } W)
    (hstop : ∀ (c : Code) (pre : List α) (W : World), Sp pre → Ix c pre W → W.heap[w.heap.size]? = some (.deferred (some [])) → c.wpIn F n P Q { a with defers := { target := .collected w.heap.size, args := #[] } :: a.defers } W) :
    (Code.rangeFunc g ps assign body).wpIn F n P Q a w := by
  refine wpIn_rangeFunc fun fn hfn => ?_
  rw [hro]
  obtain ⟨R, hR⟩ : ∃ R : LoopState → Option Code → Loop, R = fun st pe => { state := st, pending := pe, fn, tmps := a.tmps, params := ps, assign, body, defers := w.heap.size } := ⟨_, rfl⟩
  have hd0 := Desk.new w (R .ready none)
  have hI0 : I [] ((w.alloc (.deferred (some []))).alloc (.loop (R .ready none))) := hI.alloc _ (hI.alloc _ h0)
  have hbel : Below w0.heap.size w0 ((w.alloc (.deferred (some []))).alloc (.loop (R .ready none))) := hb0.trans ((((Below.refl _ w).alloc (Nat.le_refl _) _).alloc (by simp) _).mono hb0.size)
  have hrun0 : (Instr.enterLoop fn a.tmps ps assign body none).run P w = .ok (w.heap.size + 1, [{ target := .collected w.heap.size, args := #[] }]) ((w.alloc (.deferred (some []))).alloc (.loop (R .ready none))) := by rw [hR]; exact run_enterLoop_outer _ _ _ _ _
  have hsz1 : w.heap.size ≤ ((w.alloc (.deferred (some []))).alloc (.loop (R .ready none))).heap.size := by simp; omega
  obtain ⟨W1, hW1⟩ : ∃ W1, W1 = (w.alloc (.deferred (some []))).alloc (.loop (R .ready none)) := ⟨_, rfl⟩
  rw [← hW1] at hd0 hI0 hbel hrun0 hsz1
  clear hW1
  refine ⟨w.heap.size + 1, [{ target := .collected w.heap.size, args := #[] }], W1, { target := .fn (.func gf) lb, args := #[.func (.yield (w.heap.size + 1)) #[] #[]] }, W1, gf,
    #[.func (.yield (w.heap.size + 1)) #[] #[]] ++ lb, W1, hrun0, ?_, ?_, ?_, fun _ => h1, ?_⟩
  · simp only [resolve, hg]
    simp [go_sem]
  · intro f' hf'
    simp [Target.leads] at hf'
    subst hf'
    exact hFg
  · simp [invoke, go_sem, eg]
  · refine (hseq (w.heap.size + 1) (fun pre W => I pre W ∧ Desk w.heap.size (R .ready none) W) (fun pre W => ∃ c, Ix c pre W ∧ Desk w.heap.size (R .done (some c)) W) W1 hbel
      (fun s X Y row hs hgr hr => ⟨walks_own hI hsz1 hs.1 hgr hr, hs.2.walked hgr fun k e => (hr k e).2⟩)
      (fun s X Y row hs hgr hr => by obtain ⟨c, hc, hd⟩ := hs; exact ⟨c, walks_own (hIx c) hsz1 hc hgr hr, hd.walked hgr fun k e => (hr k e).2⟩)
      ?_ ⟨hI0, hd0⟩).mono ?_
    · rintro pre x U V ⟨hi, hdU⟩ hbU hkn hlen
      have hd := hdU.later hbU
      have hy := run_yield (P := P) (args := en x) hd.rec_ (by rw [hR]; exact hps x)
      rw [hR] at hy
      refine ⟨fn, _, assign, body, hy, roundIn_of_wpIn hfn (hassign _ x V _ ⟨_, run_beginRound hd.rec_ (by rw [hR]), ?_⟩)⟩
      obtain ⟨r1, hr1⟩ : ∃ r1 : Loop, r1 = { R .ready none with state := .busy } := ⟨_, rfl⟩
      rw [← hr1]
      have hd1 := hd.turn r1
      have hk1 := hKb V _ r1 hd
      have hlt := (hdU.turn r1).lt
      refine wpIn_mono (hbody _ pre x _ _ (own_turn hI hi hdU) (below_both hbU hdU.lt _) (hKn _ _ _ _ r1 hdU hd hkn) hlen (by omega)) ?_
      -- the end of a round
      have fin : ∀ (c : Option Code) (V' : World), KeepsFrom w.heap.size (V.putObj (w.heap.size + 1) (.loop r1)) V' → Desk w.heap.size r1 V' ∧
          (Instr.endRound (w.heap.size + 1) c).run P V' = .ok (.bool c.isNone) (V'.putObj (w.heap.size + 1) (.loop (R (if c.isNone then .ready else .done) c))) := fun c V' hk => by
        have hd2 := hd1.kept hk
        refine ⟨hd2, ?_⟩
        have := run_endRound (P := P) c hd2.rec_
        rw [hr1] at this
        rw [this, hR]
      rintro e a3 V3 hp
      cases e with
      | normal =>
        obtain ⟨hd3, hrun⟩ := fin none V3 hp.1
        exact ⟨_, _, hrun, .inl ⟨rfl, ⟨own_turn hI hp.2.2 hd3, hd3.turn _⟩, hKt (hKt hk1 hp.2.1) (hKb _ _ _ hd3)⟩⟩
      | ret =>
        obtain ⟨hd3, hrun⟩ := fin (some .ret) V3 hp.1
        exact ⟨_, _, hrun, .inr ⟨rfl, .ret, own_turn (hIx _) hp.2 hd3, hd3.turn _⟩⟩
      | exit id =>
        obtain ⟨hd3, hrun⟩ := fin (some (.exit id)) V3 hp.1
        exact ⟨_, _, hrun, .inr ⟨rfl, .exit id, own_turn (hIx _) hp.2 hd3, hd3.turn _⟩⟩
      | goto t =>
        obtain ⟨hd3, hrun⟩ := fin (some (.goto t)) V3 hp.1
        exact ⟨_, _, hrun, .inr ⟨rfl, .goto t, own_turn (hIx _) hp.2 hd3, hd3.turn _⟩⟩
      | panic _ => exact hp.elim
      | outgrown => exact hp.elim
    · rintro e V ⟨⟨v, rfl⟩, hend⟩
      rcases hend with ⟨xs, hS, hi, hd⟩ | ⟨pre, hSp, c, hi, hd⟩
      · have hrun := run_endLoop (P := P) hd.rec_ (by rw [hR]; simp)
        rw [hR] at hrun
        exact ⟨none, _, hrun, hdone xs _ hS (own_turn hI hi hd) (hd.turn _).marks⟩
      · have hrun := run_endLoop (P := P) hd.rec_ (by rw [hR]; simp)
        rw [hR] at hrun
        exact ⟨some c, _, hrun, hstop c pre _ hSp (own_turn (hIx c) hi hd) (hd.turn _).marks⟩

/-! what a round keeps: rows -/
/-- Blocks of cells from block D on that hold no rows of rows lie as they lay. -/
structure RowsFrom (D : Nat) (W W' : World) : Prop where
  size : W.heap.size ≤ W'.heap.size
  same : ∀ (k : Nat) (cur : Array Value) (e : TypeId) (fr : Nat × Nat), D ≤ k → W.heap[k]? = some (.cells cur e fr) → e ≠ 22 → W'.heap[k]? = some (.cells cur e fr)
theorem RowsFrom.refl (D : Nat) (W : World) : RowsFrom D W W := ⟨Nat.le_refl _, fun _ _ _ _ _ h _ => h⟩
theorem RowsFrom.trans {D : Nat} {X Y Z : World} (h : RowsFrom D X Y) (k : RowsFrom D Y Z) : RowsFrom D X Z := ⟨Nat.le_trans h.size k.size, fun i cur e fr hi hk he => k.same i cur e fr hi (h.same i cur e fr hi hk he) he⟩
theorem RowsFrom.of_keepI {D : Nat} {W W' : World} (h : KeepI W W') : RowsFrom D W W' := ⟨h.size, fun k cur e fr _ hk he => (h.block k cur e fr hk he).trans hk⟩
theorem RowsFrom.of_below {D : Nat} {W W' : World} (h : Below W.heap.size W W') : RowsFrom D W W' := .of_keepI (.of_below h)
/-- A step that turns one block alone: it lies below D, or it holds no cells. -/
theorem RowsFrom.of_grownBy {D : Nat} {W W' : World} {row : Option Nat} (hg : W.grownBy W' row) (hr : ∀ k, row = some k → k < D ∨ ∃ o : Obj, W.heap[k]? = some o ∧ o.isCells = false) : RowsFrom D W W' :=
  ⟨hg.size, fun k cur e fr hk hc _ => (hg.block k (Array.getElem?_eq_some_iff.1 hc).1 fun e => by
    rcases hr k e.symm with h | ⟨o, ho, h⟩
    · omega
    · rw [hc] at ho; cases ho; cases h).trans hc⟩
theorem RowsFrom.turn {D B : Nat} {r : Loop} {W : World} (h : Desk B r W) (r' : Loop) : RowsFrom D W (W.putObj (B + 1) (.loop r')) := .of_grownBy (grownBy_putObj' W _ _) fun k e => by cases e; exact .inr ⟨_, h.rec_, rfl⟩
theorem RowsFrom.stored {D b : Nat} (W : World) (hb : b < D) (v : Value) : RowsFrom D W (W.setCell ⟨b, 0, none⟩ v) := .of_grownBy (grownBy_setCell' W b v) fun k e => by cases e; exact .inl hb
theorem Ints.rows {D : Nat} {W W' : World} {v : Value} {zs : List Int} (h : Ints W D v zs) (hk : RowsFrom D W W') : Ints W' D v zs := by
  refine ⟨h.1, ?_⟩
  rcases h.2 with h0 | ⟨g, cap, cur, e, hv, hb, hc, h1, h2, h3⟩
  · exact .inl h0
  · exact .inr ⟨g, cap, cur, e, hv, hb, hk.same g cur e _ hb hc h3, h1, h2, h3⟩
/-- A row speaks of cells alone. -/
theorem ints_own (D B : Nat) : OwnFrom D (fun (x : Value × List Int) W => Ints W B x.1 x.2) := fun x X Y row h hg hr => by
  refine ⟨h.1, ?_⟩
  rcases h.2 with h0 | ⟨g, cap, cur, e, hv, hb, hc, rest⟩
  · exact .inl h0
  · refine .inr ⟨g, cap, cur, e, hv, hb, (hg.block g (Array.getElem?_eq_some_iff.1 hc).1 fun e' => ?_).trans hc, rest⟩
    obtain ⟨_, o, ho, hcl⟩ := hr g e'.symm
    rw [hc] at ho; cases ho; cases hcl
/-- A row that was made since the last round: what range_tells asks of Kn. -/
theorem kn_row (D : Nat) (U V : World) (x : Value × List Int) (r r' : Loop) (_ : Desk D r U) (hd : Desk D r V) (h : Ints V U.heap.size x.1 x.2) : Ints (V.putObj (D + 1) (.loop r')) (U.putObj (D + 1) (.loop r')).heap.size x.1 x.2 := by
  have hsz : (U.putObj (D + 1) (.loop r')).heap.size = U.heap.size := by unfold World.putObj; simp
  rw [hsz]
  exact own_turn (ints_own D U.heap.size) (s := x) h hd
theorem intsS_own (D B : Nat) {β : Type} (v : Value) (f : β → List (List Int)) : OwnFrom D (fun (s : β) W => IntsS W B v (f s)) := fun s X Y row h hg hr => by
  obtain ⟨vs, h1, h2⟩ := h
  have hne : ∀ (u : Value) (zs : List Int), Ints X B u zs → Ints Y B u zs := fun u zs hu => ints_own D B (u, zs) X Y row hu hg hr
  refine ⟨vs, ?_, ⟨h2.len, fun i u zs hu hz => hne u zs (h2.row i u zs hu hz), h2.away⟩⟩
  refine h1.kept hg ?_
  rcases h1.2 with hn | ⟨g, cap, cur, hv, hb, hc, rest⟩
  · rw [hn.1]; exact .inl rfl
  · rw [hv]
    refine .inr fun e => ?_
    obtain ⟨_, o, ho, hcl⟩ := hr g e.symm
    rw [hc] at ho; cases ho; cases hcl
end Go.Proofs.Ytabfjmabiapgoaa


/-
  A RANGE OVER A FUNCTION WHOSE ITERATOR HAS BLOCKS OF ITS OWN (a list that is lent, an inner loop's desk): they lie in a zone right behind the loop's desk, and what the loop's body holds lies outside of it.
-/

namespace Go.Proofs.Ytabfjmabiapgoaa
set_option maxRecDepth 100000
open Go.RowKit

/-- What lies outside of [lo, hi) lies as it lay. -/
structure But (lo hi : Nat) (U V : World) : Prop where
  os : V.os = U.os
  tape : V.tape = U.tape
  output : V.output = U.output
  size : U.heap.size ≤ V.heap.size
  block : ∀ k, k < U.heap.size → k < lo ∨ hi ≤ k → V.heap[k]? = U.heap[k]?
theorem But.refl (lo hi : Nat) (U : World) : But lo hi U U := ⟨rfl, rfl, rfl, Nat.le_refl _, fun _ _ _ => rfl⟩
theorem But.trans {lo hi : Nat} {U V W : World} (h : But lo hi U V) (k : But lo hi V W) : But lo hi U W :=
  ⟨k.os.trans h.os, k.tape.trans h.tape, k.output.trans h.output, Nat.le_trans h.size k.size, fun i hi hz => (k.block i (Nat.lt_of_lt_of_le hi h.size) hz).trans (h.block i hi hz)⟩
theorem But.mono {lo hi lo' hi' : Nat} {U V : World} (h : But lo hi U V) (hl : lo' ≤ lo) (hh : hi ≤ hi') : But lo' hi' U V := ⟨h.os, h.tape, h.output, h.size, fun k hk hz => h.block k hk (by omega)⟩
theorem But.of_below {lo hi : Nat} {U V : World} (h : Below U.heap.size U V) : But lo hi U V := ⟨h.os, h.tape, h.output, h.size, fun k hk _ => h.block k hk⟩
/-- Changes at or behind lo alone, and no block lay behind hi. -/
theorem But.of_below_lo {lo hi : Nat} {U V : World} (h : Below lo U V) (hs : U.heap.size ≤ hi) : But lo hi U V := ⟨h.os, h.tape, h.output, h.size, fun k hk hz => h.block k (by omega)⟩
theorem But.below {lo hi n : Nat} {U V : World} (h : But lo hi U V) (hn : n ≤ lo) (hs : n ≤ U.heap.size) : Below n U V := ⟨h.os, h.tape, h.output, h.size, fun k hk => h.block k (by omega) (by omega)⟩
theorem But.alloc {lo hi : Nat} (U : World) (o : Obj) : But lo hi U (U.alloc o) := .of_below ((Below.refl _ U).alloc (Nat.le_refl _) o)
theorem But.grown {lo hi : Nat} {U V : World} {row : Option Nat} (hg : U.grownBy V row) (hr : ∀ k, row = some k → lo ≤ k ∧ k < hi) : But lo hi U V :=
  ⟨hg.os, hg.tape, hg.output, hg.size, fun k hk hz => hg.block k hk fun e => by have := hr k e.symm; omega⟩
theorem But.putObj {lo hi : Nat} (U : World) {k : Nat} (h1 : lo ≤ k) (h2 : k < hi) (o : Obj) : But lo hi U (U.putObj k o) := .grown (grownBy_putObj' U k o) fun j e => by cases e; exact ⟨h1, h2⟩
theorem But.setCell {lo hi : Nat} (U : World) {b : Nat} (h1 : lo ≤ b) (h2 : b < hi) (v : Value) : But lo hi U (U.setCell ⟨b, 0, none⟩ v) := .grown (grownBy_setCell' U b v) fun j e => by cases e; exact ⟨h1, h2⟩
theorem Desk.but {D lo hi : Nat} {r : Loop} {U V : World} (h : Desk D r U) (hb : But lo hi U V) (hz : D + 2 ≤ lo ∨ hi ≤ D) : Desk D r V :=
  ⟨(hb.block _ h.lt (by omega)).trans h.rec_, (hb.block _ (by have := h.lt; omega) (by omega)).trans h.marks⟩
theorem Boxed.but {W W' : World} {lo hi b : Nat} {t : TypeId} {v : Value} (h : Boxed W b t v) (hb : But lo hi W W') (hz : b < lo ∨ hi ≤ b) : Boxed W' b t v := (hb.block b h.lt hz).trans h
theorem Ints.but {W W' : World} {lo hi B : Nat} {v : Value} {zs : List Int} (h : Ints W B v zs) (hb : But lo hi W W') (hB : hi ≤ B) : Ints W' B v zs := by
  refine ⟨h.1, ?_⟩
  rcases h.2 with h0 | ⟨g, cap, cur, e, hv, hg, hc, rest⟩
  · exact .inl h0
  · exact .inr ⟨g, cap, cur, e, hv, hg, (hb.block g (Array.getElem?_eq_some_iff.1 hc).1 (by omega)).trans hc, rest⟩
theorem IntsS.but {W W' : World} {lo hi B : Nat} {v : Value} {zss : List (List Int)} (h : IntsS W B v zss) (hb : But lo hi W W') (hB : hi ≤ B) : IntsS W' B v zss := by
  obtain ⟨vs, h1, h2⟩ := h
  refine ⟨vs, ⟨h1.1, ?_⟩, ⟨h2.len, fun i u zs hu hz => (h2.row i u zs hu hz).but hb hB, h2.away⟩⟩
  rcases h1.2 with hn | ⟨g, cap, cur, hv, hg, hc, rest⟩
  · exact .inl hn
  · exact .inr ⟨g, cap, cur, hv, hg, (hb.block g (Array.getElem?_eq_some_iff.1 hc).1 (by omega)).trans hc, rest⟩

/-- The blocks of which P speaks lie as they lay. -/
structure Keep (P : Nat → Prop) (U V : World) : Prop where
  size : U.heap.size ≤ V.heap.size
  block : ∀ k, k < U.heap.size → P k → V.heap[k]? = U.heap[k]?
theorem Keep.refl (P : Nat → Prop) (U : World) : Keep P U U := ⟨Nat.le_refl _, fun _ _ _ => rfl⟩
theorem Keep.trans {P : Nat → Prop} {U V W : World} (h : Keep P U V) (k : Keep P V W) : Keep P U W := ⟨Nat.le_trans h.size k.size, fun i hi hp => (k.block i (Nat.lt_of_lt_of_le hi h.size) hp).trans (h.block i hi hp)⟩
theorem Keep.mono {P Q : Nat → Prop} {U V : World} (h : Keep P U V) (hq : ∀ k, Q k → P k) : Keep Q U V := ⟨h.size, fun k hk hp => h.block k hk (hq k hp)⟩
theorem Keep.of_below {P : Nat → Prop} {U V : World} (h : Below U.heap.size U V) : Keep P U V := ⟨h.size, fun k hk _ => h.block k hk⟩
theorem Keep.of_but {P : Nat → Prop} {lo hi : Nat} {U V : World} (h : But lo hi U V) (hp : ∀ k, P k → k < lo ∨ hi ≤ k) : Keep P U V := ⟨h.size, fun k hk h1 => h.block k hk (hp k h1)⟩
theorem Keep.putObj {P : Nat → Prop} (U : World) {b : Nat} (h : ¬ P b) (o : Obj) : Keep P U (U.putObj b o) := .of_but (.putObj U (Nat.le_refl b) (Nat.lt_succ_self b) o) fun k hk => by
  by_cases e : k = b
  · subst e; exact absurd hk h
  · omega
theorem Keep.setCell {P : Nat → Prop} (U : World) {b : Nat} (h : ¬ P b) (v : Value) : Keep P U (U.setCell ⟨b, 0, none⟩ v) := .of_but (.setCell U (Nat.le_refl b) (Nat.lt_succ_self b) v) fun k hk => by
  by_cases e : k = b
  · subst e; exact absurd hk h
  · omega
theorem Keep.desk {P : Nat → Prop} {D : Nat} {r : Loop} {U V : World} (h : Keep P U V) (hd : Desk D r U) (h1 : P D) (h2 : P (D + 1)) : Desk D r V :=
  ⟨(h.block _ hd.lt h2).trans hd.rec_, (h.block _ (by have := hd.lt; omega) h1).trans hd.marks⟩
theorem Keep.boxed {P : Nat → Prop} {b : Nat} {t : TypeId} {v : Value} {U V : World} (h : Keep P U V) (hd : Boxed U b t v) (h1 : P b) : Boxed V b t v := (h.block b hd.lt h1).trans hd

variable {F : Fence} {n : Nat} {P : Program}
/-- The iterator, whose own blocks are the z ones behind the loop's desk, hands x over in a world V that it has come to from U by new blocks alone; 'Kn U x V' holds; of a round that goes on it asks Kp. -/
def TellsZ {α : Type} (F : Fence) (n : Nat) (P : Program) (gf : Nat) (lb : Array Value) (z : Nat) (en : α → Array Value) (Kn : World → α → World → Prop) (Kp : World → World → Prop) (S Sp : List α → Prop) (N : Nat) (w : World) : Prop :=
  ∀ (l : Nat) (J Jx : List α → World → Prop) (W : World), Below w.heap.size w W → W.heap.size = w.heap.size + 2 →
    (∀ pre U V, J pre U → But (w.heap.size + 2) (w.heap.size + 2 + z) U V → J pre V) → (∀ pre U V, Jx pre U → But (w.heap.size + 2) (w.heap.size + 2 + z) U V → Jx pre V) →
    (∀ pre x U V, J pre U → w.heap.size + 2 + z ≤ U.heap.size → Below U.heap.size U V → Kn U x V → pre.length < N → YieldAt F (n - 1) P l (en x) V fun e V' => (e = .returned (.bool true) ∧ J (pre ++ [x]) V' ∧ Kp V V') ∨ (e = .returned (.bool false) ∧ Jx (pre ++ [x]) V' ∧ Kp V V')) →
    J [] W → CallsIn F n P gf (#[.func (.yield l) #[] #[]] ++ lb) W fun e V => (∃ v, e = .returned v) ∧ ((∃ xs, S xs ∧ J xs V) ∨ ∃ pre, Sp pre ∧ Jx pre V)

/-- The body's word at its ways out. -/
def postZ {α : Type} (D : Nat) (Kp : World → World → Prop) (I : List α → World → Prop) (Ix : Code → List α → World → Prop) (xs : List α) (W : World) : Exit → Act → World → Prop
  | .normal, _, W' => (∀ r, Desk D r W → Desk D r W') ∧ Kp W W' ∧ I xs W'
  | .ret, _, W' => (∀ r, Desk D r W → Desk D r W') ∧ Kp W W' ∧ Ix .ret xs W'
  | .exit id, _, W' => (∀ r, Desk D r W → Desk D r W') ∧ Kp W W' ∧ Ix (.exit id) xs W'
  | .goto t, _, W' => (∀ r, Desk D r W → Desk D r W') ∧ Kp W W' ∧ Ix (.goto t) xs W'
  | .panic _, _, _ => False
  | .outgrown, _, _ => False

set_option maxHeartbeats 1600000 in
theorem range_zone {α : Type} {g : Operand} {ps : Array Tmp} {assign body : Code} {Q : Exit → Act → World → Prop} {a : Act} {w : World}
    (hro : F.round = none) (h1 : 1 ≤ n) {gf : Nat} {lb : Array Value} (hg : a.eval g = .func (.func gf) #[] lb) (hFg : F.fn gf) (eg : ∀ args w, (callFunc gf args).run P w = .ok (.enter gf args) w)
    {z : Nat} {en : α → Array Value} {Kn : World → α → World → Prop} {Kp : World → World → Prop} {S Sp : List α → Prop} {N : Nat} (hseq : TellsZ F (n - 1) P gf lb z en Kn Kp S Sp N w)
    (hKt : ∀ {A B C : World}, Kp A B → Kp B C → Kp A C) (hKb : ∀ (W : World) (r r' : Loop), Desk w.heap.size r W → Kp W (W.putObj (w.heap.size + 1) (.loop r')))
    (hps : ∀ x, (en x).size = ps.size) (hKn : ∀ (U V : World) (x : α) (r r' : Loop), Desk w.heap.size r U → Desk w.heap.size r V → Kn U x V → Kn (U.putObj (w.heap.size + 1) (.loop r')) x (V.putObj (w.heap.size + 1) (.loop r')))
    (I : List α → World → Prop) (Ix : Code → List α → World → Prop) (hI : ∀ pre U V, I pre U → But w.heap.size (w.heap.size + 2 + z) U V → I pre V) (hIx : ∀ c pre U V, Ix c pre U → But w.heap.size (w.heap.size + 2 + z) U V → Ix c pre V) (h0 : I [] w) (a₁ : α → Act)
    (hassign : ∀ (l : Nat) (x : α) (W : World) (K : Act → World → Prop), K (a₁ x) W →
      assign.wpIn (F.inRound l) (n - 1 - 1) P (Exit.then K (fun _ _ _ => False)) { tmps := (ps.zip (en x)).foldl (fun t (p, v) => t.setIfInBounds p v) a.tmps, defers := [] } W)
    (hbody : ∀ (l : Nat) (pre : List α) (x : α) (U W : World), I pre U → w.heap.size + 2 + z ≤ U.heap.size → Below U.heap.size U W → Kn U x W → pre.length < N → body.wpIn (F.inRound l) (n - 1 - 1) P (postZ w.heap.size Kp I Ix (pre ++ [x]) W) (a₁ x) W)
    (hdone : ∀ (xs : List α) (W : World), S xs → I xs W → W.heap[w.heap.size]? = some (.deferred (some [])) → Q .normal { a with defers := { target := .collected w.heap.size, args := #[] } :: a.defers } W)
    (hstop : ∀ (c : Code) (pre : List α) (W : World), Sp pre → Ix c pre W → W.heap[w.heap.size]? = some (.deferred (some [])) → c.wpIn F n P Q { a with defers := { target := .collected w.heap.size, args := #[] } :: a.defers } W) :
    (Code.rangeFunc g ps assign body).wpIn F n P Q a w := by
  refine wpIn_rangeFunc fun fn hfn => ?_
  rw [hro]
  obtain ⟨R, hR⟩ : ∃ R : LoopState → Option Code → Loop, R = fun st pe => { state := st, pending := pe, fn, tmps := a.tmps, params := ps, assign, body, defers := w.heap.size } := ⟨_, rfl⟩
  have hd0 := Desk.new w (R .ready none)
  have hI0 : I [] ((w.alloc (.deferred (some []))).alloc (.loop (R .ready none))) := hI _ _ _ h0 ((But.alloc _ _).trans (But.alloc _ _))
  have hbel : Below w.heap.size w ((w.alloc (.deferred (some []))).alloc (.loop (R .ready none))) := (((Below.refl _ w).alloc (Nat.le_refl _) _).alloc (by simp) _)
  have hrun0 : (Instr.enterLoop fn a.tmps ps assign body none).run P w = .ok (w.heap.size + 1, [{ target := .collected w.heap.size, args := #[] }]) ((w.alloc (.deferred (some []))).alloc (.loop (R .ready none))) := by rw [hR]; exact run_enterLoop_outer _ _ _ _ _
  have hsz1 : ((w.alloc (.deferred (some []))).alloc (.loop (R .ready none))).heap.size = w.heap.size + 2 := by simp
  obtain ⟨W1, hW1⟩ : ∃ W1, W1 = (w.alloc (.deferred (some []))).alloc (.loop (R .ready none)) := ⟨_, rfl⟩
  rw [← hW1] at hd0 hI0 hbel hrun0 hsz1
  clear hW1
  have hturn : ∀ (W : World) (r' : Loop), But w.heap.size (w.heap.size + 2 + z) W (W.putObj (w.heap.size + 1) (.loop r')) := fun W r' => But.putObj W (by omega) (by omega) _
  refine ⟨w.heap.size + 1, [{ target := .collected w.heap.size, args := #[] }], W1, { target := .fn (.func gf) lb, args := #[.func (.yield (w.heap.size + 1)) #[] #[]] }, W1, gf,
    #[.func (.yield (w.heap.size + 1)) #[] #[]] ++ lb, W1, hrun0, ?_, ?_, ?_, fun _ => h1, ?_⟩
  · simp only [resolve, hg]
    simp [go_sem]
  · intro f' hf'
    simp [Target.leads] at hf'
    subst hf'
    exact hFg
  · simp [invoke, go_sem, eg]
  · refine (hseq (w.heap.size + 1) (fun pre W => I pre W ∧ Desk w.heap.size (R .ready none) W) (fun pre W => ∃ c, Ix c pre W ∧ Desk w.heap.size (R .done (some c)) W) W1 hbel hsz1
      (fun pre U V hs hb => ⟨hI _ _ _ hs.1 (hb.mono (by omega) (Nat.le_refl _)), hs.2.but hb (.inl (Nat.le_refl _))⟩)
      (fun pre U V hs hb => by obtain ⟨c, hc, hd⟩ := hs; exact ⟨c, hIx _ _ _ _ hc (hb.mono (by omega) (Nat.le_refl _)), hd.but hb (.inl (Nat.le_refl _))⟩)
      ?_ ⟨hI0, hd0⟩).mono ?_
    · rintro pre x U V ⟨hi, hdU⟩ hzU hbU hkn hlen
      have hd := hdU.later hbU
      have hy := run_yield (P := P) (args := en x) hd.rec_ (by rw [hR]; exact hps x)
      rw [hR] at hy
      refine ⟨fn, _, assign, body, hy, roundIn_of_wpIn hfn (hassign _ x V _ ⟨_, run_beginRound hd.rec_ (by rw [hR]), ?_⟩)⟩
      obtain ⟨r1, hr1⟩ : ∃ r1 : Loop, r1 = { R .ready none with state := .busy } := ⟨_, rfl⟩
      rw [← hr1]
      have hd1 := hd.turn r1
      have hk1 := hKb V _ r1 hd
      have hlt := (hdU.turn r1).lt
      have hszp : (U.putObj (w.heap.size + 1) (.loop r1)).heap.size = U.heap.size := by unfold World.putObj; simp
      refine wpIn_mono (hbody _ pre x _ _ (hI _ _ _ hi (hturn _ _)) (by omega) (below_both hbU hdU.lt _) (hKn _ _ _ _ r1 hdU hd hkn) hlen) ?_
      have fin : ∀ (c : Option Code) (V' : World), (∀ r, Desk w.heap.size r (V.putObj (w.heap.size + 1) (.loop r1)) → Desk w.heap.size r V') → Desk w.heap.size r1 V' ∧
          (Instr.endRound (w.heap.size + 1) c).run P V' = .ok (.bool c.isNone) (V'.putObj (w.heap.size + 1) (.loop (R (if c.isNone then .ready else .done) c))) := fun c V' hk => by
        have hd2 := hk _ hd1
        refine ⟨hd2, ?_⟩
        have := run_endRound (P := P) c hd2.rec_
        rw [hr1] at this
        rw [this, hR]
      rintro e a3 V3 hp
      cases e with
      | normal =>
        obtain ⟨hd3, hrun⟩ := fin none V3 hp.1
        exact ⟨_, _, hrun, .inl ⟨rfl, ⟨hI _ _ _ hp.2.2 (hturn _ _), hd3.turn _⟩, hKt (hKt hk1 hp.2.1) (hKb _ _ _ hd3)⟩⟩
      | ret =>
        obtain ⟨hd3, hrun⟩ := fin (some .ret) V3 hp.1
        exact ⟨_, _, hrun, .inr ⟨rfl, ⟨.ret, hIx _ _ _ _ hp.2.2 (hturn _ _), hd3.turn _⟩, hKt (hKt hk1 hp.2.1) (hKb _ _ _ hd3)⟩⟩
      | exit id =>
        obtain ⟨hd3, hrun⟩ := fin (some (.exit id)) V3 hp.1
        exact ⟨_, _, hrun, .inr ⟨rfl, ⟨.exit id, hIx _ _ _ _ hp.2.2 (hturn _ _), hd3.turn _⟩, hKt (hKt hk1 hp.2.1) (hKb _ _ _ hd3)⟩⟩
      | goto t =>
        obtain ⟨hd3, hrun⟩ := fin (some (.goto t)) V3 hp.1
        exact ⟨_, _, hrun, .inr ⟨rfl, ⟨.goto t, hIx _ _ _ _ hp.2.2 (hturn _ _), hd3.turn _⟩, hKt (hKt hk1 hp.2.1) (hKb _ _ _ hd3)⟩⟩
      | panic _ => exact hp.elim
      | outgrown => exact hp.elim
    · rintro e V ⟨⟨v, rfl⟩, hend⟩
      rcases hend with ⟨xs, hS, hi, hd⟩ | ⟨pre, hSp, c, hi, hd⟩
      · have hrun := run_endLoop (P := P) hd.rec_ (by rw [hR]; simp)
        rw [hR] at hrun
        exact ⟨none, _, hrun, hdone xs _ hS (hI _ _ _ hi (hturn _ _)) (hd.turn _).marks⟩
      · have hrun := run_endLoop (P := P) hd.rec_ (by rw [hR]; simp)
        rw [hR] at hrun
        exact ⟨some c, _, hrun, hstop c pre _ hSp (hIx _ _ _ _ hi (hturn _ _)) (hd.turn _).marks⟩
end Go.Proofs.Ytabfjmabiapgoaa
