/-
  Words and contracts that the laws lean on, bundled: LowS, PatsS, PatF, NearS, NearV, NearX, TxtM, TxtS, Draw8.
-/
import Derived.Test.YtnnpefgbneldiaaB2
import Derived.Test.YtnnpefgbneldiaaB3
import Derived.Test.YtnnpefgbneldiaaB6
import Derived.Test.YtnnpefgbneldiaaB4
import Derived.Deep.RegionHeld3
import Derived.Laws.BitsLemmas
import Derived.Test.YtnnpefgbneldiaaB7
import Derived.Test.YtnnpefgbneldiaaB8
import Derived.BigQuiet
import Derived.Deep.RegionLaw

/-
  spec.l7Without, spec.WithoutPlace, spec.LowersOf, by their contracts.
-/

namespace Go.Proofs.Ytnnpefgbneldiaa
set_option maxRecDepth 100000
open Go.RowKit

theorem place_nat' {n : Nat} {x : Int} (h : 1 ≤ x ∧ x ≤ (n : Int)) : ∃ X : Nat, x = ((X + 1 : Nat) : Int) ∧ X < n := ⟨x.toNat - 1, by omega, by omega⟩
/-- A list without the number at index k. -/
def cutAt (p : List Int) (k : Nat) : List Int := p.take k ++ p.drop (k + 1)
theorem cutAt_len {p : List Int} {k : Nat} (h : k < p.length) : (cutAt p k).length + 1 = p.length := by
  unfold cutAt
  rw [List.length_append, List.length_take, List.length_drop]; omega
theorem cutAt_sub (p : List Int) (k : Nat) : (cutAt p k).Sublist p := by
  have h : (p.take k ++ p.drop (k + 1)).Sublist (p.take k ++ p.drop k) := (List.Sublist.refl _).append (by
    rw [← List.drop_drop]; exact List.drop_sublist _ _)
  rwa [List.take_append_drop] at h
theorem cutAt_isP {p : List Int} (hp : isP p = true) (k : Nat) : isP (patL (cutAt p k)) = true := by
  rw [isP_pat]
  have h := isP_true.1 hp
  exact patOK_yes (Nat.le_trans (cutAt_sub p k).length_le (isP_le hp)) (h.2.2.sublist (cutAt_sub p k))

def wplOK (p : List Int) (x : Int) : Bool := isP p && decide (1 ≤ x ∧ x ≤ (p.length : Int))
def wplR (p : List Int) (x : Int) : List Int := if wplOK p x then patL (cutAt p (x.toNat - 1)) else []
theorem wplR_yes {p : List Int} {x : Int} (h : wplOK p x = true) : wplR p x = patL (cutAt p (x.toNat - 1)) := by unfold wplR; rw [if_pos h]
theorem wplR_no {p : List Int} {x : Int} (h : wplOK p x = false) : wplR p x = [] := by unfold wplR; rw [if_neg (by simp [h])]
theorem wplR_le (p : List Int) (x : Int) : (wplR p x).length ≤ 8 := by
  cases h : wplOK p x with
  | false => rw [wplR_no h]; exact Nat.zero_le _
  | true =>
    have hp : isP p = true := by unfold wplOK at h; simp at h; exact h.1
    rw [wplR_yes h]
    exact isP_le (cutAt_isP hp _)
/-- The patterns without one of the first k indices, in order. -/
def lowK (p : List Int) (k : Nat) : List (List Int) := ((List.range k).map fun i => patL (cutAt p i)).foldl putL []
theorem lowK_step (p : List Int) (k : Nat) : lowK p (k + 1) = putL (lowK p k) (patL (cutAt p k)) := by
  unfold lowK
  rw [List.range_succ, List.map_append, List.foldl_append]; rfl
theorem lowK_all {p : List Int} (hp : isP p = true) : ∀ k, ∀ z ∈ lowK p k, isP z = true
  | 0, z, hz => by simp [lowK] at hz
  | k + 1, z, hz => by
    rw [lowK_step, mem_putL] at hz
    rcases hz with hz | rfl
    · exact lowK_all hp k z hz
    · exact cutAt_isP hp k
theorem lowK_len (p : List Int) : ∀ k, (lowK p k).length ≤ k
  | 0 => by simp [lowK]
  | k + 1 => by
    have h1 := lowK_len p k
    have h2 := (putL_len (lowK p k) (patL (cutAt p k))).2
    rw [lowK_step]; omega
def lowR (p : List Int) : List (List Int) := if isP p then lowK p p.length else []
theorem lowR_yes {p : List Int} (h : isP p = true) : lowR p = lowK p p.length := by unfold lowR; rw [if_pos h]
theorem lowR_no {p : List Int} (h : isP p = false) : lowR p = [] := by unfold lowR; rw [if_neg (by simp [h])]
end Go.Proofs.Ytnnpefgbneldiaa


/-
  spec.PatternsIn, by its contract.
-/

namespace Go.Proofs.Ytnnpefgbneldiaa
set_option maxRecDepth 100000
open Go.RowKit

/-- The numbers at those of the first k indices whose bit is set. -/
def subK (p : List Int) (s : Nat) : Nat → List Int
  | 0 => []
  | k + 1 => if s.testBit k then subK p s k ++ [at0 p k] else subK p s k
theorem subK_len (p : List Int) (s : Nat) : ∀ k, (subK p s k).length ≤ k
  | 0 => Nat.le_refl _
  | k + 1 => by
    have := subK_len p s k
    rw [subK]; split <;> simp <;> omega
/-- The patterns of length k of the first s sets of indices, in order. -/
def patK (p : List Int) (k : Int) : Nat → List (List Int)
  | 0 => []
  | s + 1 => if ((subK p s p.length).length : Int) = k then putL (patK p k s) (patL (subK p s p.length)) else patK p k s
def patsOK (p : List Int) (k : Int) : Bool := isP p && decide (0 ≤ k ∧ k ≤ (p.length : Int))
def patsR (p : List Int) (k : Int) : List (List Int) := if patsOK p k then patK p k (2 ^ p.length) else []

theorem bit_test (s k : Nat) (hs : s ≤ 256) : (bits .and .i64 ((s : Int) / 2 ^ k) 1 == 1) = s.testBit k := by
  have h0 : (s : Int) / 2 ^ k = ((s / 2 ^ k : Nat) : Int) := by push_cast; rfl
  have hle : s / 2 ^ k ≤ s := Nat.div_le_self _ _
  have h1 : bits .and .i64 ((s / 2 ^ k : Nat) : Int) 1 = ((s / 2 ^ k % 2 : Nat) : Int) := by
    have := bits_mask .i64 63 (by decide) (fun n h0 h1 => by rw [IntKind.wrap_i64]; omega) 1 (by decide) ((s / 2 ^ k : Nat) : Int) (Int.natCast_nonneg _) (Int.lt_of_le_of_lt (Int.ofNat_le.2 hle) (by omega))
    simpa using this
  rw [h0, h1, Nat.testBit_eq_decide_div_mod_eq]
  by_cases h : s / 2 ^ k % 2 = 1
  · rw [h]; rfl
  · have h2 : s / 2 ^ k % 2 = 0 := by omega
    rw [h2]; rfl
theorem patK_len (p : List Int) (k : Int) : ∀ s, (patK p k s).length ≤ s
  | 0 => Nat.le_refl _
  | s + 1 => by
    have h1 := patK_len p k s
    have h2 := (putL_len (patK p k s) (patL (subK p s p.length))).2
    rw [patK]; split <;> omega
theorem subK_sub (p : List Int) (s : Nat) : ∀ k, k ≤ p.length → (subK p s k).Sublist (p.take k)
  | 0, _ => by simp [subK]
  | k + 1, hk => by
    have ih := subK_sub p s k (by omega)
    rw [take_snoc_i (at0_some (show k < p.length by omega)), subK]
    split
    · exact ih.append (List.Sublist.refl _)
    · exact ih.trans (List.sublist_append_left _ _)
theorem subK_isP {p : List Int} (hp : isP p = true) (s : Nat) : isP (patL (subK p s p.length)) = true := by
  have h := subK_sub p s p.length (Nat.le_refl _)
  rw [List.take_length] at h
  rw [isP_pat]
  exact patOK_yes (Nat.le_trans h.length_le (isP_le hp)) ((isP_true.1 hp).2.2.sublist h)
theorem patK_all {p : List Int} (hp : isP p = true) (k : Int) : ∀ s, ∀ z ∈ patK p k s, isP z = true
  | 0, z, hz => by simp [patK] at hz
  | s + 1, z, hz => by
    rw [patK] at hz
    split at hz
    · rcases mem_putL.1 hz with hz | rfl
      · exact patK_all hp k s z hz
      · exact subK_isP hp s
    · exact patK_all hp k s z hz
theorem patK_yes {p : List Int} {k : Int} {s : Nat} (h : ((subK p s p.length).length : Int) = k) : patK p k (s + 1) = putL (patK p k s) (patL (subK p s p.length)) := by rw [patK, if_pos h]
theorem patK_no {p : List Int} {k : Int} {s : Nat} (h : ¬ ((subK p s p.length).length : Int) = k) : patK p k (s + 1) = patK p k s := by rw [patK, if_neg h]
theorem patsR_yes {p : List Int} {k : Int} (h : patsOK p k = true) : patsR p k = patK p k (2 ^ p.length) := by unfold patsR; rw [if_pos h]
theorem patsR_no {p : List Int} {k : Int} (h : patsOK p k = false) : patsR p k = [] := by unfold patsR; rw [if_neg (by simp [h])]

end Go.Proofs.Ytnnpefgbneldiaa


/-
  PLAIN: patterns of patterns are patterns; what FnPatterns needs of them.
-/

namespace Go.Proofs.Ytnnpefgbneldiaa
set_option maxRecDepth 100000

theorem hasR_yes {p q : List Int} (hp : isP p = true) (hq : isP q = true) (h : 0 < (occR p q).length) : hasR p q = true := by
  unfold hasR numOcc
  rw [if_pos (by simp [hp, hq])]
  exact decide_eq_true (by omega)
theorem hasR_iff {p q : List Int} (hp : isP p = true) (hq : isP q = true) : hasR p q = true ↔ ∃ pl, PlOK p.length pl ∧ pl.length = q.length ∧ Alike (nums p pl) q := by
  constructor
  · intro h
    unfold hasR numOcc at h
    rw [if_pos (by simp [hp, hq])] at h
    have := of_decide_eq_true h
    obtain ⟨pl, hpl⟩ := List.exists_mem_of_length_pos (show 0 < (occR p q).length by omega)
    obtain ⟨_, _, h3, h4, h5⟩ := isOcc_iff.1 (mem_occ.1 hpl)
    exact ⟨pl, h4, h3, (pat_eq_iff hq).1 h5⟩
  · rintro ⟨pl, h1, h2, h3⟩
    exact hasR_yes hp hq (List.length_pos_of_mem (a := pl) (mem_occ.2 (isOcc_iff.2 ⟨hp, hq, h2, h1, (pat_eq_iff hq).2 h3⟩)))
theorem hasR_sub {p s : List Int} (hp : isP p = true) (h : s.Sublist p) (hs : isP (patL s) = true) : hasR p (patL s) = true := hasR_yes hp hs (occ_sub hp h hs)
theorem numOcc_yes {p q : List Int} (hp : isP p = true) (hq : isP q = true) : numOcc p q = ((occR p q).length : Int) := by unfold numOcc; rw [if_pos (by simp [hp, hq])]
theorem num_inv {p q : List Int} (hp : isP p = true) (hq : isP q = true) : numOcc (invR p) (invR q) = ((occR p q).length : Int) := by
  rw [invR_yes hp, invR_yes hq]
  have := occ_inv_len hp hq
  unfold invL at this
  rw [numOcc_yes (isP_inv hp) (isP_inv hq), this]
theorem num_rev {p q : List Int} (hp : isP p = true) (hq : isP q = true) : numOcc (revR p) (revR q) = ((occR p q).length : Int) := by
  rw [revR_yes hp, revR_yes hq, numOcc_yes (isP_rev hp) (isP_rev hq), occ_rev_len]
/-- Each pattern is one. -/
theorem patK_mem {p : List Int} {k : Int} : ∀ {s : Nat} {x : List Int}, x ∈ patK p k s → ∃ t, x = patL (subK p t p.length)
  | 0, x, h => by rw [show patK p k 0 = [] from rfl] at h; cases h
  | s + 1, x, h => by
    by_cases hk : ((subK p s p.length).length : Int) = k
    · rw [patK_yes hk, mem_putL] at h
      rcases h with h | h
      · exact patK_mem h
      · exact ⟨s, h⟩
    · rw [patK_no hk] at h
      exact patK_mem h
theorem pats_has {p x : List Int} {k : Int} (h : x ∈ patsR p k) : hasR p x = true := by
  cases hk : patsOK p k with
  | false => rw [patsR_no hk] at h; cases h
  | true =>
    have hp : isP p = true := by unfold patsOK at hk; rw [Bool.and_eq_true] at hk; exact hk.1
    rw [patsR_yes hk] at h
    obtain ⟨t, rfl⟩ := patK_mem h
    refine hasR_sub hp ?_ (subK_isP hp t)
    have := subK_sub p t p.length (Nat.le_refl _)
    rwa [List.take_length] at this
theorem wpl_has {p : List Int} {x : Int} (h : wplOK p x = true) : hasR p (wplR p x) = true := by
  have hp : isP p = true := by unfold wplOK at h; rw [Bool.and_eq_true] at h; exact h.1
  rw [wplR_yes h]
  exact hasR_sub hp (cutAt_sub p _) (cutAt_isP hp _)
theorem wpl_low {p : List Int} {x : Int} (h : wplOK p x = true) : wplR p x ∈ lowR p := by
  have hp : isP p = true := by unfold wplOK at h; rw [Bool.and_eq_true] at h; exact h.1
  have hx : 1 ≤ x ∧ x ≤ (p.length : Int) := by unfold wplOK at h; rw [Bool.and_eq_true] at h; exact of_decide_eq_true h.2
  rw [wplR_yes h, lowR_yes hp]
  unfold lowK
  rw [(foldl_put _ [] List.Pairwise.nil).2.1]
  refine .inr (List.mem_map.2 ⟨x.toNat - 1, List.mem_range.2 (by omega), rfl⟩)
/-! how much it is -/
theorem tot_room (m : Nat) : ∀ l : List (List Int), (∀ z ∈ l, z.length ≤ m) → tot l ≤ m * l.length
  | [], _ => by simp [tot]
  | z :: l, h => by
    have h1 := h z (by simp)
    have h2 := tot_room m l fun y hy => h y (by simp [hy])
    simp only [tot, List.length_cons, List.map_cons, List.sum_cons, Nat.mul_add, Nat.mul_one] at h2 ⊢
    omega
theorem occ_room (p q : List Int) : (occR p q).length ≤ 256 ∧ tot (occR p q) ≤ 2048 := by
  have ht := tot_room 8 (occR p q) fun z hz => by
    obtain ⟨_, h2, h3, _⟩ := isOcc_iff.1 (mem_occ.1 hz)
    have := isP_le h2
    omega
  have hnum := numOcc_rng p q
  have h8 : (occR p q).length ≤ 256 := by
    cases hpp : isP p with
    | false => rw [occR_no (.inl hpp)]; simp
    | true =>
      cases hqq : isP q with
      | false => rw [occR_no (.inr hqq)]; simp
      | true => rw [numOcc_yes hpp hqq] at hnum; omega
  exact ⟨h8, by omega⟩
theorem pats_all {p z : List Int} {k : Int} (h : z ∈ patsR p k) : isP z = true := by
  cases hk : patsOK p k with
  | false => rw [patsR_no hk] at h; cases h
  | true =>
    have hp : isP p = true := by unfold patsOK at hk; rw [Bool.and_eq_true] at hk; exact hk.1
    rw [patsR_yes hk] at h
    exact patK_all hp k _ z h
theorem pats_size (p : List Int) (k : Int) : (patsR p k).length ≤ 256 ∧ tot (patsR p k) ≤ 2048 := by
  have ht := tot_room 8 (patsR p k) fun z hz => isP_le (pats_all hz)
  have h8 : (patsR p k).length ≤ 256 := by
    cases hk : patsOK p k with
    | false => rw [patsR_no hk]; simp
    | true =>
      have hp : isP p = true := by unfold patsOK at hk; rw [Bool.and_eq_true] at hk; exact hk.1
      rw [patsR_yes hk]
      have h1 := patK_len p k (2 ^ p.length)
      have h2 : 2 ^ p.length ≤ 2 ^ 8 := Nat.pow_le_pow_right (by omega) (isP_le hp)
      omega
  exact ⟨h8, by omega⟩
theorem low_all {p z : List Int} (h : z ∈ lowR p) : isP z = true := by
  cases hp : isP p with
  | false => rw [lowR_no hp] at h; cases h
  | true => rw [lowR_yes hp] at h; exact lowK_all hp _ z h
theorem low_size (p : List Int) : (lowR p).length ≤ 8 ∧ tot (lowR p) ≤ 64 := by
  have ht := tot_room 8 (lowR p) fun z hz => isP_le (low_all hz)
  have h8 : (lowR p).length ≤ 8 := by
    cases hp : isP p with
    | false => rw [lowR_no hp]; simp
    | true =>
      rw [lowR_yes hp]
      have h1 := lowK_len p p.length
      have := isP_le hp
      omega
  exact ⟨h8, by omega⟩
theorem occ_is {p q pl : List Int} (h : pl ∈ occR p q) : isOcc p q pl = true := mem_occ.1 h
end Go.Proofs.Ytnnpefgbneldiaa


/-
  spec.l8Fits, spec.IsNear, spec.CountNear, by their contracts.
-/

namespace Go.Proofs.Ytnnpefgbneldiaa
set_option maxRecDepth 100000
open Go.RowKit

theorem fitJ_step {J pl : List Int} {k : Nat} {x : Int} (hx : J[k]? = some x) (h : fitJ (J.take k) pl = true) (hf : at0 pl x.toNat = at0 pl (x.toNat - 1) + 1) : fitJ (J.take (k + 1)) pl = true := by
  rw [fitJ_iff] at h ⊢
  intro j hj
  rw [take_snoc_i hx, List.mem_append, List.mem_singleton] at hj
  rcases hj with hj | rfl
  · exact h j hj
  · exact hf
theorem fitJ_no {J pl : List Int} {k : Nat} {x : Int} (hx : J[k]? = some x) (hf : ¬ at0 pl x.toNat = at0 pl (x.toNat - 1) + 1) : fitJ J pl = false := by
  cases h : fitJ J pl with
  | false => rfl
  | true => exact absurd (fitJ_iff.1 h x (List.mem_of_getElem? hx)) hf
set_option maxHeartbeats 800000 in
theorem l8fits_any (A P : Option Addr) (n c B m d B' : Nat) (pl J : List Int) (w : World) (h : Arg w B A n c pl) (h' : Arg w B' P m d J) (hJ : PlOK (n - 1) J) (hpl : ∀ x ∈ pl, 1 ≤ x ∧ x ≤ 8) (hn : n ≤ 8) :
    Calls Try.prog 91 #[.slice A n c, .slice P m d] w fun e w' => e = .returned (.bool (fitJ J pl)) ∧ Drew w w' := by
  have hl := h.len
  have hl' := h'.len
  have hr := h.reads
  have hr' := h'.reads
  have hm := h'.le
  obtain ⟨b, hb⟩ : ∃ b, fitJ J pl = b := ⟨_, rfl⟩
  rw [hb]
  have HB := hide hb
  have HJ := hide (fun k x (hx : J[k]? = some x) => hJ.1 x (List.mem_of_getElem? hx))
  have HPL := hide (fun k x (hx : pl[k]? = some x) => hpl x (List.mem_of_getElem? hx))
  have HL := hide (⟨hl, hl'⟩ : pl.length = n ∧ J.length = m)
  clear h h' hJ hpl hl hl' hb
  go_enter Try.func91, Try.ntmps91
  go_wp2
  go_loopw [5] (fun i wr => ∃ k : Nat, k ≤ m ∧ i = .int .i64 k ∧ Drew w wr ∧ Hid (fitJ (J.take k) pl = true)) (fun i _ => m - (intOf i).toNat)
  case atStart => exact ⟨0, Nat.zero_le _, rfl, Drew.refl _, by exact (rfl : fitJ (J.take 0) pl = true)⟩
  case round =>
    obtain ⟨k, hk, rfl, hd, hs⟩ := hrel
    by_cases hlt : k < m
    · obtain ⟨ad, u, rfl, _, hu, hc⟩ := (hr'.ofDrew hd).at_ hlt
      obtain ⟨x, hx, rfl⟩ := i64_at hu
      have hxr := unhide HJ k x hx
      obtain ⟨ad1, u1, rfl, _, hu1, hc1⟩ := (hr.ofDrew hd).at_ (show x.toNat < n by omega)
      obtain ⟨ad2, u2, hA2, _, hu2, hc2⟩ := (hr.ofDrew hd).at_ (show x.toNat - 1 < n by omega)
      obtain rfl : ad1 = ad2 := by injection hA2
      obtain ⟨y, hy, rfl⟩ := i64_at hu1
      obtain ⟨z, hz, rfl⟩ := i64_at hu2
      have hzr := unhide HPL _ z hz
      have hyr := unhide HPL _ y hy
      have ey : at0 pl x.toNat = y := at0_of hy
      have ez : at0 pl (x.toNat - 1) = z := at0_of hz
      have hw1 : IntKind.i64.wrap (x - 1) = x - 1 := by rw [IntKind.wrap_i64]; omega
      have hw2 : IntKind.i64.wrap (z + 1) = z + 1 := by rw [IntKind.wrap_i64]; omega
      have hi2 : (x - 1).toNat = x.toNat - 1 := by omega
      have hb0 : 0 ≤ x := by omega
      have hb1 : x < (n : Int) := by omega
      have hb2 : 0 ≤ x - 1 := by omega
      have hb3 : x - 1 < (n : Int) := by omega
      have HD := hide hd
      by_cases hyz : y = z + 1
      · have hnext := hide (fitJ_step hx (unhide hs) (by rw [ey, ez]; exact hyz))
        subst hyz
        clear hx hy hz hu hu1 hu2 hs ey ez hr hr' hd hyr
        go_wp2
        go_quiet (fail)
        go_wp2
        go_roundw
        case rel => exact ⟨k + 1, by omega, by go_num, (unhide HD).more _, hnext⟩
        case measure => simp [intOf]; omega
      · obtain rfl : b = false := (unhide HB).symm.trans (fitJ_no hx (by rw [ey, ez]; exact hyz))
        have hne : (y == z + 1) = false := by simpa using hyz
        clear hx hy hz hu hu1 hu2 hs ey ez hr hr' hd hyr HB hyz
        go_wp2
        go_quiet (fail)
        go_wp2
        go_ret
        exact ⟨rfl, (unhide HD).more _⟩
    · obtain rfl : m = k := by omega
      obtain rfl : b = true := (unhide HB).symm.trans (by have h := unhide hs; rwa [List.take_of_length_le (by rw [(unhide HL).2]; exact Nat.le_refl _)] at h)
      clear HB hs
      go_wp2
      go_ret
      exact ⟨rfl, hd⟩
theorem take_last {J : List Int} {k : Nat} {y : Int} (hy : J[k]? = some y) : lastP (J.take (k + 1)) = y.toNat := by rw [take_snoc_i hy, lastP_snoc]
theorem plok_step {n : Nat} {J : List Int} {k : Nat} {x : Int} (hx : J[k]? = some x) : PlOK n (J.take (k + 1)) ↔ PlOK n (J.take k) ∧ (lastP (J.take k) : Int) < x ∧ x ≤ (n : Int) := by rw [take_snoc_i hx, PlOK.snoc]
theorem plok_no {n : Nat} {J : List Int} {k : Nat} (h : ¬ PlOK n (J.take k)) : ¬ PlOK n J := fun h2 => h (h2.take k)
theorem near_false {q J : List Int} (h : ¬ PlOK (q.length - 1) J) : nearOK q J = false := by unfold nearOK; rw [decide_eq_false h, Bool.and_false]
theorem near_true {q J : List Int} {b : Bool} (hq : isP q = b) (h : PlOK (q.length - 1) J) : nearOK q J = b := by unfold nearOK; rw [decide_eq_true h, Bool.and_true, hq]
set_option maxHeartbeats 1600000 in
theorem snear_any (A P : Option Addr) (n c B m d B' : Nat) (q J : List Int) (w : World) (h : Arg w B A n c q) (h' : Arg w B' P m d J) :
    Calls Try.prog 79 #[.agg #[.slice A n c, .slice P m d]] w (GivesB w (nearOK q J)) := by
  have hl := h.len
  have hl' := h'.len
  have hm := h'.le
  have hn := h.le
  obtain ⟨w0, hw0⟩ : ∃ w0, w0 = w.alloc (.cells #[.slice A n c, .slice P m d] 52) := ⟨_, rfl⟩
  have b0 : Below w.heap.size w w0 := by rw [hw0]; exact (Below.refl _ w).alloc (Nat.le_refl _) _
  have g0 : Whole w0 w.heap.size 52 #[.slice A n c, .slice P m d] := by rw [hw0]; exact Whole.new _ _ _
  have q0 := g0.cell 0
  have q1 := g0.cell 1
  simp only [List.getElem?_toArray, List.getElem?_cons_zero, List.getElem?_cons_succ] at q0 q1
  have hr' := (h'.below b0).reads
  obtain ⟨b, hb⟩ : ∃ b, nearOK q J = b := ⟨_, rfl⟩
  obtain ⟨bp, hbp⟩ : ∃ b, isP q = b := ⟨_, rfl⟩
  rw [hb]
  have HB := hide hb
  have HBP := hide hbp
  have HA := hide (fun wr (hd : Drew w0 wr) => sisperm_any A n c B q bp hbp wr (h.below (below_after b0 (hd.below _))).reads h.le h.cap)
  have HL := hide (⟨hl, hl'⟩ : q.length = n ∧ J.length = m)
  have HJS := hide (fun k x (hx : J[k]? = some x) => h'.small x (List.mem_of_getElem? hx))
  have hwn : IntKind.i64.wrap ((n : Int) - 1) = (n : Int) - 1 := by rw [IntKind.wrap_i64]; omega
  have HW := hide hw0
  clear h h' hl hl' hb hbp g0 hw0
  go_enter Try.func79, Try.ntmps79
  go_wp2
  rw [← unhide HW]
  clear HW
  go_loopw [3] (fun i wr => ∃ k : Nat, k ≤ m ∧ i = .int .i64 k ∧ Drew w0 wr ∧ Hid (PlOK (q.length - 1) (J.take k))) (fun i _ => m - (intOf i).toNat)
  case atStart => exact ⟨0, Nat.zero_le _, rfl, Drew.refl _, hide (PlOK.nil _)⟩
  case round =>
    obtain ⟨k, hk, rfl, hd, hs⟩ := hrel
    have c0 := (hd.cell ⟨w.heap.size, 0, none⟩).trans q0
    have c1 := (hd.cell ⟨w.heap.size, 1, none⟩).trans q1
    by_cases hlt : k < m
    · obtain ⟨ad, u, rfl, _, hu, hc⟩ := (hr'.ofDrew hd).at_ hlt
      obtain ⟨x, hx, rfl⟩ := i64_at hu
      obtain ⟨bi, hbi⟩ : ∃ bi, decide ((1 : Int) ≤ x ∧ x ≤ (n : Int) - 1) = bi := ⟨_, rfl⟩
      have HI := hide (fun w' => l1in_any x 1 ((n : Int) - 1) bi hbi w')
      have HD := hide hd
      have hstep := plok_step (n := q.length - 1) hx
      have hlq := (unhide HL).1
      cases bi with
      | false =>
        have hno : ¬ (1 ≤ x ∧ x ≤ (n : Int) - 1) := of_decide_eq_false hbi
        obtain rfl : b = false := (unhide HB).symm.trans (near_false (plok_no (k := k + 1) fun h2 => by
          have h3 := h2.1 x (by rw [take_snoc_i hx]; simp)
          omega))
        clear hx hu hs hbi hr' hd HB hstep hno q0 q1 hlq
        go_wp2
        go_quiet ((go_at_call 69; exact Calls.quiet_of_same (unhide HI _)))
        go_wp2
        go_ret
        exact ⟨rfl, below_after b0 (((unhide HD).more _).below _)⟩
      | true =>
        have hyes : 1 ≤ x ∧ x ≤ (n : Int) - 1 := of_decide_eq_true hbi
        by_cases h0 : k = 0
        · subst h0
          have hc0 : wr.cell? ad = some (.int .i64 x) := by rw [show ad = ad.add 0 by unfold Addr.add; split <;> simp_all]; exact hc
          have hnext := hide (hstep.2 ⟨unhide hs, by rw [List.take_zero, lastP_nil]; omega, by omega⟩)
          clear hx hu hs hbi hr' hd hstep hyes q0 q1 hlq
          go_wp2
          go_quiet ((go_at_call 69; exact Calls.quiet_of_same (unhide HI _)))
          go_wp2
          go_roundw
          case rel => exact ⟨1, by omega, by go_num, (unhide HD).more _, hnext⟩
          case measure => simp [intOf]; omega
        · obtain ⟨k2, rfl⟩ : ∃ k2, k = k2 + 1 := ⟨k - 1, by omega⟩
          obtain ⟨ad2, u2, hA2, _, hu2, hc2⟩ := (hr'.ofDrew hd).at_ (show k2 < m by omega)
          obtain rfl : ad = ad2 := by injection hA2
          obtain ⟨y, hy, rfl⟩ := i64_at hu2
          have hy1 : 1 ≤ y := ((unhide hs).1 y (by rw [take_snoc_i hy]; simp)).1
          have hlast := take_last hy
          have hgt : (0 : Int) < (k2 : Int) + 1 := by omega
          have hc3 : wr.cell? ⟨ad.block, ad.off + (k2 + 1), none⟩ = some (.int .i64 x) := by rw [← show ad.add (k2 + 1) = ⟨ad.block, ad.off + (k2 + 1), none⟩ by unfold Addr.add; rw [if_neg (by omega)]]; exact hc
          have hwk : IntKind.i64.wrap ((k2 : Int) + 1 - 1) = (k2 : Int) := by rw [IntKind.wrap_i64]; omega
          have hwk' : IntKind.i64.wrap (k2 : Int) = (k2 : Int) := by rw [IntKind.wrap_i64]; omega
          have hb2 : (k2 : Int) < (m : Int) := by omega
          have hb3 : (k2 : Int) + 1 < (m : Int) := by omega
          have hb4 : (0 : Int) ≤ (k2 : Int) := by omega
          by_cases hxy : x ≤ y
          · obtain rfl : b = false := (unhide HB).symm.trans (near_false (plok_no (k := k2 + 1 + 1) fun h2 => by
              have h3 := hstep.1 h2
              rw [hlast] at h3
              omega))
            clear hx hu hu2 hy hs hbi hr' hd HB hstep hyes q0 q1 hlq hlast h0
            go_wp2
            go_quiet ((go_at_call 69; exact Calls.quiet_of_same (unhide HI _)))
            go_wp2
            go_ret
            exact ⟨rfl, below_after b0 (((unhide HD).more _).below _)⟩
          · have hnext := hide (hstep.2 ⟨unhide hs, by rw [hlast]; omega, by omega⟩)
            clear hx hu hu2 hy hs hbi hr' hd hstep hyes q0 q1 hlq hlast h0
            go_wp2
            go_quiet ((go_at_call 69; exact Calls.quiet_of_same (unhide HI _)))
            go_wp2
            go_roundw
            case rel => exact ⟨k2 + 1 + 1, by omega, by go_num, (unhide HD).more _, hnext⟩
            case measure => simp [intOf]; omega
    · obtain rfl : m = k := by omega
      obtain rfl : bp = b := (near_true (unhide HBP) (by have h := unhide hs; rwa [List.take_of_length_le (by rw [(unhide HL).2]; exact Nat.le_refl _)] at h)).symm.trans (unhide HB)
      have H1 := hide (unhide HA wr hd)
      clear HB hs HA HBP
      go_wp2_with fail
      refine (unhide H1).mono ?_
      rintro e w2 ⟨rfl, d2⟩
      have d := below_after b0 ((hd.trans d2).below _)
      clear H1 d2 hd
      go_wp2
      go_ret
      exact ⟨rfl, d⟩
theorem near_take {p q J : List Int} {k : Nat} {z : List Int} (hz : (occR p q)[k]? = some z) : (((((occR p q).take (k + 1)).filter (fitJ J)).length : Nat) : Int) = ((((occR p q).take k).filter (fitJ J)).length : Int) + bitI (fitJ J z) := by
  rw [List.take_add_one, hz, Option.toList_some, List.filter_append, List.length_append]
  cases h : fitJ J z with
  | true => rw [List.filter_cons_of_pos h]; simp [bitI]
  | false => rw [List.filter_cons_of_neg (by simp [h])]; simp [bitI]
set_option maxHeartbeats 1600000 in
theorem scntn_any (A A' P : Option Addr) (n c B n' c' B' m d B2 : Nat) (p q J : List Int) (w : World) (h : Arg w B A n c p) (h' : Arg w B' A' n' c' q) (h2 : Arg w B2 P m d J) :
    Calls Try.prog 52 #[.slice A n c, .agg #[.slice A' n' c', .slice P m d]] w (GivesN w (numNear p q J)) := by
  obtain ⟨w0, hw0⟩ : ∃ w0, w0 = w.alloc (.cells #[.slice A' n' c', .slice P m d] 52) := ⟨_, rfl⟩
  have b0 : Below w.heap.size w w0 := by rw [hw0]; exact (Below.refl _ w).alloc (Nat.le_refl _) _
  have g0 : Whole w0 w.heap.size 52 #[.slice A' n' c', .slice P m d] := by rw [hw0]; exact Whole.new _ _ _
  obtain ⟨bp, hbp⟩ : ∃ b, isP p = b := ⟨_, rfl⟩
  have H1 := hide (show Calls Try.prog 51 #[.slice A n c] (w.alloc (.cells #[.slice A' n' c', .slice P m d] 52)) (fun e w' => e = .returned (.bool bp) ∧ Drew w0 w') from by
    rw [← hw0]; exact sisperm_any A n c B p bp hbp w0 (h.below b0).reads h.le h.cap)
  cases bp with
  | false =>
    rw [numNear_no (.inl hbp)]
    clear h h' h2 hbp hw0 g0
    go_enter Try.func52, Try.ntmps52
    go_wp2_with fail
    refine (unhide H1).mono ?_
    rintro e w1 ⟨rfl, hd⟩
    have hb1 := below_after b0 (hd.below _)
    clear H1 hd b0
    go_wp2
    go_ret
    exact ⟨rfl, hb1⟩
  | true =>
    obtain ⟨bn, hbn⟩ : ∃ b, nearOK q J = b := ⟨_, rfl⟩
    have H2 := hide (show ∀ w1, Drew w0 w1 → Calls Try.prog 79 #[.agg #[.slice A' n' c', .slice P m d]] w1 (GivesB w1 bn) from fun w1 hd => by
      rw [← hbn]; exact snear_any A' P n' c' B' m d B2 q J w1 (h'.below (below_after b0 (hd.below _))) (h2.below (below_after b0 (hd.below _))))
    cases bn with
    | false =>
      rw [numNear_no (.inr hbn)]
      clear h h' h2 hbp hw0 hbn
      go_enter Try.func52, Try.ntmps52
      go_wp2_with fail
      refine (unhide H1).mono ?_
      rintro e w1 ⟨rfl, hd⟩
      have g1 := g0.below (hd.below (w.heap.size + 1)) (by omega)
      have q0 := g1.cell 0
      have q1 := g1.cell 1
      have q2 := g1.lt
      simp only [List.getElem?_toArray, List.getElem?_cons_zero, List.getElem?_cons_succ] at q0 q1
      have H3 := hide (unhide H2 w1 hd)
      have hb1 := below_after b0 (hd.below _)
      clear H1 H2 hd b0 g0 g1
      go_wp2_with fail
      refine (unhide H3).mono ?_
      rintro e w2 ⟨rfl, d2⟩
      have hb2 := below_after hb1 d2
      clear H3 d2 hb1 q0 q1 q2
      go_wp2
      go_ret
      exact ⟨rfl, hb2⟩
    | true =>
      obtain ⟨hq, hJ⟩ := nearOK_iff.1 hbn
      rw [numNear_yes hbp hbn]
      unfold nearR
      have hl := h.len
      have hl' := h'.len
      have hn8 : n ≤ 8 := by have := isP_le hbp; omega
      have hn8' : n' ≤ 8 := by have := isP_le hq; omega
      have HO := hide (fun w2 (d2 : Below w.heap.size w w2) => soccs_any A A' n c B n' c' B' p q w2 (h.below d2) (h'.below d2))
      have HF := hide (show ∀ (w4 : World) (A4 : Option Addr) (c4 B4 : Nat) (z : List Int), z ∈ occR p q → Below w.heap.size w w4 → Ints w4 B4 (.slice A4 z.length c4) z → Calls Try.prog 91 #[.slice A4 z.length c4, .slice P m d] w4 (fun e w' => e = .returned (.bool (fitJ J z)) ∧ Drew w4 w') from fun w4 A4 c4 B4 z hz hb4 hI => by
        have ho := isOcc_iff.1 (mem_occ.1 hz)
        have hzl : z.length = n' := by omega
        exact l8fits_any A4 P z.length c4 _ m d B2 z J w4 (hI.arg (by omega) hI.cap (fun x hx => by have := ho.2.2.2.1.1 x hx; omega)) (h2.below hb4) (by rw [ho.2.2.1]; exact hJ) (fun x hx => by have := ho.2.2.2.1.1 x hx; omega) (by omega))
      have HR := hide (show (occR p q).length ≤ 1048576 from by have := (occ_room p q).1; omega)
      obtain ⟨L, hL⟩ : ∃ L, L = occR p q := ⟨_, rfl⟩
      have HT := hide (fun (k : Nat) (z : List Int) (hz : L[k]? = some z) => near_take (J := J) (hL ▸ hz))
      rw [← hL] at HO HF HR HT ⊢
      clear h h' h2 hbp hw0 hbn hq hJ hL hl hl'
      go_enter Try.func52, Try.ntmps52
      go_wp2_with fail
      refine (unhide H1).mono ?_
      rintro e w1 ⟨rfl, hd⟩
      have g1 := g0.below (hd.below (w.heap.size + 1)) (by omega)
      have q0 := g1.cell 0
      have q1 := g1.cell 1
      have q2 := g1.lt
      simp only [List.getElem?_toArray, List.getElem?_cons_zero, List.getElem?_cons_succ] at q0 q1
      have H3 := hide (unhide H2 w1 hd)
      have hb1 := below_after b0 (hd.below _)
      clear H1 H2 hd b0 g0
      go_wp2_with fail
      refine (unhide H3).mono ?_
      rintro e w2 ⟨rfl, d2⟩
      have g2 := g1.below d2 q2
      have hb2 := below_after hb1 d2
      clear H3 d2 hb1 q0 q1 q2 g1
      have q0 := g2.cell 0
      have q2 := g2.lt
      simp only [List.getElem?_toArray, List.getElem?_cons_zero] at q0
      have H4 := hide (unhide HO w2 hb2)
      clear HO
      go_wp2_with fail
      refine (unhide H4).mono ?_
      rintro e w3 ⟨A3, c3, rfl, o3, d3⟩
      have g3 := g2.below d3 q2
      have hb3 := below_after hb2 d3
      have q1 := g3.cell 1
      simp only [List.getElem?_toArray, List.getElem?_cons_zero, List.getElem?_cons_succ] at q1
      have hLn := unhide HR
      clear H4 d3 hb2 q0 q2 g2 g3
      go_wp2
      go_loopw [5, 7] (fun s i wr => ∃ k : Nat, k ≤ L.length ∧ i = .int .i64 k ∧ s = .int .i64 ((((L.take k).filter (fitJ J)).length : Nat) : Int) ∧ Drew w3 wr) (fun _ i _ => L.length - (intOf i).toNat)
      case atStart => exact ⟨0, Nat.zero_le _, rfl, rfl, Drew.refl _⟩
      case round =>
        obtain ⟨k, hk, rfl, rfl, hd⟩ := hrel
        by_cases hlt : k < L.length
        · have hb4 := below_after hb3 (hd.below _)
          obtain ⟨ad, A4, c4, z, rfl, hz, hcell, hI⟩ := (o3.below (hd.below _)).at_ hlt
          have hstep := unhide HT k z hz
          have q1' := (hd.cell ⟨w.heap.size, 1, none⟩).trans q1
          have HFZ := hide (show ∀ w', Drew wr w' → _ from fun w' d' => unhide HF w' A4 c4 _ z (List.mem_of_getElem? hz) (below_after hb4 (d'.below _)) (hI.below (d'.below _)))
          obtain ⟨bz, hbz⟩ : ∃ b, fitJ J z = b := ⟨_, rfl⟩
          rw [hbz] at HFZ hstep
          have hle : ((L.take k).filter (fitJ J)).length ≤ k := by
            have h1 := List.length_filter_le (fitJ J) (L.take k)
            rw [List.length_take] at h1; omega
          obtain ⟨s0, hs0⟩ : ∃ s0, s0 = ((L.take k).filter (fitJ J)).length := ⟨_, rfl⟩
          rw [← hs0] at hstep hle ⊢
          have hwr : IntKind.i64.wrap ((s0 : Int) + bitI bz) = (s0 : Int) + bitI bz := by rw [IntKind.wrap_i64]; cases bz <;> simp [bitI] <;> omega
          have HD := hide hd
          have HST := hide hstep
          clear hz hb4 hI hd hbz hstep hs0
          go_wp2
          go_quiet (first
            | (go_at_call 91; exact Calls.quiet_of (unhide HFZ _ ⟨_, rfl⟩))
            | (go_at_call 58; exact Calls.quiet_of_same (bit_any bz _)))
          go_wp2
          go_roundw
          case rel => exact ⟨k + 1, by omega, by go_num, by rw [unhide HST], (unhide HD).more _⟩
          case measure => simp [intOf]; omega
        · obtain rfl : L.length = k := by omega
          have hb4 := below_after hb3 (hd.below _)
          rw [List.take_length]
          clear hd hb3
          go_wp2
          go_ret
          exact ⟨rfl, hb4⟩
end Go.Proofs.Ytnnpefgbneldiaa


/-
  spec.ReverseNear, by its contract.
-/

namespace Go.Proofs.Ytnnpefgbneldiaa
set_option maxRecDepth 100000
open Go.RowKit

theorem plOK_len {n : Nat} {pl : List Int} (h : PlOK n pl) : pl.length ≤ n := by
  by_cases h0 : pl.length = 0
  · omega
  · have key : ∀ i, i < pl.length → (i : Int) + 1 ≤ at0 pl i := by
      intro i
      induction i with
      | zero => intro hi; have := (h.rng hi).1; simpa using this
      | succ i ih => intro hi; have h1 := ih (by omega); have h2 := h.mono (show i < i + 1 by omega) hi; omega
    have h1 := key (pl.length - 1) (by omega)
    have h2 := (h.rng (i := pl.length - 1) (by omega)).2
    omega
theorem ints_under {w w' : World} {B g : Nat} {v : Value} {zs : List Int} (h : Ints w B v zs) (hu : Until g v) (hb : Below (g + 1) w w') : Ints w' B v zs := by
  refine ⟨h.1, ?_⟩
  rcases h.2 with h0 | ⟨k, cap, cur, e, hv, hk, hc, rest⟩
  · exact .inl h0
  · have hlt : k < g := hu k (by rw [hv]; rfl)
    exact .inr ⟨k, cap, cur, e, hv, hk, (hb.block k (by omega)).trans hc, rest⟩
def revQ (q J : List Int) : List Int := if nearOK q J then q.reverse else []
def revJJ (q J : List Int) : List Int := if nearOK q J then plRev (q.length - 1) J else []
/-- The first j of the joined places of the reverse. -/
def revP (n : Nat) (J : List Int) (j : Nat) : List Int := (J.reverse.take j).map fun x => (n : Int) - x
theorem revP_step {n i : Nat} {J : List Int} {x : Int} (hx : J[i]? = some x) (j : Nat) (hj : j = J.length - (i + 1)) : revP n J (j + 1) = revP n J j ++ [(n : Int) - x] := by
  have hi : i < J.length := (List.getElem?_eq_some_iff.1 hx).1
  unfold revP
  rw [List.take_add_one, List.getElem?_reverse (by omega), show J.length - 1 - j = i by omega, hx, List.map_append]
  rfl
theorem revP_all {q J : List Int} (h : nearOK q J = true) : revP q.length J J.length = plRev (q.length - 1) J := by
  have hJ := (nearOK_iff.1 h).2
  unfold revP plRev
  rw [List.take_of_length_le (by rw [List.length_reverse]; exact Nat.le_refl _), List.map_reverse]
  congr 1
  refine List.map_congr_left fun x hx => ?_
  have := hJ.1 x hx
  omega
theorem rev_own {w : World} {B j n : Nat} {v : Value} {J xs : List Int} {y : Int} (h : w.ownsRow B 3 1 v (j + 1) (i64s (revP n J j ++ [y]))) (hx : revP n J j ++ [y] = xs) : ∃ A c, v = .slice A (j + 1) c ∧ w.ownsRow B 3 1 (.slice A (j + 1) c) (j + 1) (i64s xs) := by
  rw [hx] at h
  rcases h.2 with ⟨_, h0⟩ | ⟨g, cap, cur, rfl, hr⟩
  · omega
  · exact ⟨_, _, rfl, h⟩
end Go.Proofs.Ytnnpefgbneldiaa


/-
  PLAIN: the text of neighboring places, and back. Nothing here speaks of the program.
-/

namespace Go.Proofs.Ytnnpefgbneldiaa
set_option maxRecDepth 100000

theorem ints_unique : ∀ {a b : List Int}, a.Pairwise (· < ·) → b.Pairwise (· < ·) → (∀ x, x ∈ a ↔ x ∈ b) → a = b
  | [], [], _, _, _ => rfl
  | [], y :: b, _, _, h => by have := (h y).2 (by simp); simp at this
  | x :: a, [], _, _, h => by have := (h x).1 (by simp); simp at this
  | x :: a, y :: b, ha, hb, h => by
    have h1 := List.pairwise_cons.1 ha
    have h2 := List.pairwise_cons.1 hb
    have hxy : x = y := by
      rcases List.mem_cons.1 ((h x).1 (by simp)) with e | e
      · exact e
      · rcases List.mem_cons.1 ((h y).2 (by simp)) with e' | e'
        · exact e'.symm
        · have := h2.1 x e; have := h1.1 y e'; omega
    subst hxy
    rw [ints_unique h1.2 h2.2 fun z => by
      constructor
      · intro hz
        rcases List.mem_cons.1 ((h z).1 (by simp [hz])) with e | e
        · have := h1.1 z hz; omega
        · exact e
      · intro hz
        rcases List.mem_cons.1 ((h z).2 (by simp [hz])) with e | e
        · have := h2.1 z hz; omega
        · exact e]

/-- The text of the first k numbers. -/
def nearB (q J : List Int) : Nat → List UInt8
  | 0 => []
  | k + 1 => nearB q J k ++ ((if 0 < k ∧ ¬ (k : Int) ∈ J then [95] else []) ++ [dgt (at0 q k)])
def ntext (q J : List Int) : ByteArray := if nearOK q J then (if q = [] then ⟨#[45]⟩ else ⟨(nearB q J q.length).toArray⟩) else ByteArray.empty
theorem ntext_no {q J : List Int} (h : nearOK q J = false) : ntext q J = ByteArray.empty := by unfold ntext; rw [if_neg (by simp [h])]
theorem ntext_nil {q J : List Int} (h : nearOK q J = true) (h0 : q.length = 0) : ntext q J = ⟨#[45]⟩ := by unfold ntext; rw [if_pos h, if_pos (List.eq_nil_of_length_eq_zero h0)]
theorem ntext_yes {q J : List Int} (h : nearOK q J = true) (h0 : q.length ≠ 0) : ntext q J = ⟨(nearB q J q.length).toArray⟩ := by unfold ntext; rw [if_pos h, if_neg (fun e => h0 (by rw [e]; rfl))]
theorem nearB_len (q J : List Int) : ∀ k, (nearB q J k).length ≤ 2 * k
  | 0 => Nat.le_refl _
  | k + 1 => by
    have := nearB_len q J k
    rw [nearB]; split <;> simp <;> omega

/-- A text without what stands between. -/
def scanD (s : List UInt8) : List UInt8 := s.filter fun b => decide (b ≠ 95)
/-- The joined places that the first k bytes tell. -/
def scanJ (s : List UInt8) : Nat → List Int
  | 0 => []
  | k + 1 => if s[k]?.getD 0 = 95 then scanJ s k else if 0 < k ∧ s[k - 1]?.getD 0 ≠ 95 then scanJ s k ++ [((scanD (s.take k)).length : Int)] else scanJ s k
theorem scanJ_app (s t : List UInt8) : ∀ k, k ≤ s.length → scanJ (s ++ t) k = scanJ s k
  | 0, _ => rfl
  | k + 1, h => by
    rw [scanJ, scanJ, scanJ_app s t k (by omega), List.getElem?_append_left (by omega), List.getElem?_append_left (show k - 1 < s.length by omega), List.take_append_of_le_length (by omega)]
theorem dgt_ne {z : Int} (h0 : 1 ≤ z) (h1 : z ≤ 8) : dgt z ≠ 95 := by
  obtain ⟨n, rfl⟩ : ∃ n : Nat, z = (n : Int) := ⟨z.toNat, by omega⟩
  have h2 : n ≤ 8 := by omega
  have : ∀ m, m ≤ 8 → dgt ((m : Nat) : Int) ≠ 95 := by decide
  exact this n h2
theorem scan_near {q J : List Int} (hq : isP q = true) : ∀ k, k ≤ q.length → scanD (nearB q J k) = textL (q.take k) ∧ scanJ (nearB q J k) (nearB q J k).length = (((List.range k).filter fun (i : Nat) => decide (0 < i ∧ (i : Int) ∈ J)) : List Nat).map (fun (i : Nat) => (i : Int)) ∧ (0 < k → (nearB q J k)[(nearB q J k).length - 1]?.getD 0 ≠ 95)
  | 0, _ => ⟨rfl, rfl, fun h => by omega⟩
  | k + 1, h => by
    obtain ⟨h1, h2, h3⟩ := scan_near (J := J) hq k (by omega)
    have hr := isP_range hq (at0_some (show k < q.length by omega))
    have h8 := isP_le hq
    have hd := dgt_ne hr.1 (by omega)
    have hD : scanD [dgt (at0 q k)] = [dgt (at0 q k)] := by unfold scanD; rw [List.filter_cons_of_pos (by simpa using hd)]; rfl
    have ht : textL (q.take (k + 1)) = textL (q.take k) ++ [dgt (at0 q k)] := textL_step (at0_some (by omega))
    have hlen : (scanD (nearB q J k)).length = k := by rw [h1, textL_length, List.length_take]; omega
    rw [List.range_succ, List.filter_append, List.map_append]
    by_cases hs : 0 < k ∧ ¬ (k : Int) ∈ J
    · have e : nearB q J (k + 1) = (nearB q J k ++ [95]) ++ [dgt (at0 q k)] := by rw [nearB, if_pos hs, List.append_assoc]
      rw [e]
      refine ⟨?_, ?_, fun _ => ?_⟩
      · unfold scanD at h1 hD ⊢
        rw [List.filter_append, List.filter_append, h1, hD, ht]
        simp
      · rw [List.length_append, List.length_append, List.length_singleton, List.length_singleton, scanJ, if_neg (by simpa using hd), if_neg (by simp), scanJ_app _ _ _ (by simp), scanJ, if_pos (by simp), scanJ_app _ _ _ (Nat.le_refl _), h2]
        rw [List.filter_cons_of_neg (by simp [hs])]
        simp
      · simpa using hd
    · have e : nearB q J (k + 1) = nearB q J k ++ [dgt (at0 q k)] := by rw [nearB, if_neg hs, List.nil_append]
      rw [e]
      refine ⟨?_, ?_, fun _ => ?_⟩
      · unfold scanD at h1 hD ⊢
        rw [List.filter_append, h1, hD, ht]
      · rw [List.length_append, List.length_singleton, scanJ, if_neg (by simpa using hd), scanJ_app _ _ _ (Nat.le_refl _), h2]
        by_cases h0 : k = 0
        · subst h0
          rw [if_neg (by simp [nearB])]
          simp
        · have hp : 0 < (nearB q J k).length := by
            have h4 : (scanD (nearB q J k)).length ≤ (nearB q J k).length := List.length_filter_le _ _
            omega
          have hj : (k : Int) ∈ J := by
            by_cases hj : (k : Int) ∈ J
            · exact hj
            · exact absurd ⟨by omega, hj⟩ hs
          rw [if_pos ⟨hp, by rw [List.getElem?_append_left (by omega)]; exact h3 (by omega)⟩, List.take_append_of_le_length (Nat.le_refl _), List.take_length, hlen, List.filter_cons_of_pos (by simp [hj]; omega)]
          rfl
      · simpa using hd
theorem scan_back {q J : List Int} (h : nearOK q J = true) : scanD (nearB q J q.length) = textL q ∧ scanJ (nearB q J q.length) (nearB q J q.length).length = J := by
  obtain ⟨hq, hJ⟩ := nearOK_iff.1 h
  obtain ⟨h1, h2, _⟩ := scan_near (J := J) hq q.length (Nat.le_refl _)
  refine ⟨by rw [h1, List.take_length], ?_⟩
  rw [h2]
  refine ints_unique ?_ hJ.2 fun x => ?_
  · rw [List.pairwise_map]
    exact ((List.pairwise_lt_range (n := q.length)).sublist List.filter_sublist).imp fun h => by omega
  · rw [List.mem_map]
    constructor
    · rintro ⟨i, hi, rfl⟩
      rw [List.mem_filter, decide_eq_true_eq] at hi
      exact hi.2.2
    · intro hx
      have hr := hJ.1 x hx
      exact ⟨x.toNat, by rw [List.mem_filter, List.mem_range, decide_eq_true_eq]; exact ⟨by omega, by omega, by rw [show ((x.toNat : Nat) : Int) = x by omega]; exact hx⟩, by omega⟩
end Go.Proofs.Ytnnpefgbneldiaa


/-
  PLAIN: the bytes of a text with gaps put between them. Nothing here speaks of the program.
-/

namespace Go.Proofs.Ytnnpefgbneldiaa
set_option maxRecDepth 100000

/-- The first k bytes with a gap ahead of each whose place is not joined. -/
def gapB (J : List Int) (L : List UInt8) : Nat → List UInt8
  | 0 => []
  | k + 1 => gapB J L k ++ ((if 0 < k ∧ ¬ (k : Int) ∈ J then [95] else []) ++ [L.getD k 0])
theorem gapB_len (J : List Int) (L : List UInt8) : ∀ k, (gapB J L k).length ≤ 2 * k
  | 0 => Nat.le_refl _
  | k + 1 => by
    have := gapB_len J L k
    rw [gapB]; split <;> simp <;> omega
theorem gapB_yes {J : List Int} {L : List UInt8} {k : Nat} {b : UInt8} (hb : L[k]? = some b) (h : 0 < k ∧ ¬ (k : Int) ∈ J) : gapB J L (k + 1) = (gapB J L k ++ [95]) ++ [b] := by
  rw [gapB, if_pos h, List.getD_eq_getElem?_getD, hb, List.append_assoc]; rfl
theorem gapB_no {J : List Int} {L : List UInt8} {k : Nat} {b : UInt8} (hb : L[k]? = some b) (h : ¬ (0 < k ∧ ¬ (k : Int) ∈ J)) : gapB J L (k + 1) = gapB J L k ++ [b] := by
  rw [gapB, if_neg h, List.getD_eq_getElem?_getD, hb, List.nil_append]; rfl
theorem gapB_near (q J : List Int) : ∀ k, k ≤ q.length → gapB J (textL q) k = nearB q J k
  | 0, _ => rfl
  | k + 1, h => by
    have h1 : (textL q)[k]? = some (dgt (at0 q k)) := by unfold textL; rw [List.getElem?_map, at0_some (by omega)]; rfl
    rw [gapB, nearB, gapB_near q J k (by omega), List.getD_eq_getElem?_getD, h1]
    rfl
/-- The bytes of a permutation's text. -/
def ptextL (q : List Int) : List UInt8 := if q = [] then [45] else textL q
theorem ptext_list {q : List Int} (h : isP q = true) : ptext q = ⟨(ptextL q).toArray⟩ := by
  unfold ptextL
  by_cases h0 : q = []
  · rw [if_pos h0, ptext_nil h (by rw [h0]; rfl)]
  · rw [if_neg h0, ptext_yes h (fun e => h0 (List.eq_nil_of_length_eq_zero e))]
theorem ptextL_len {q : List Int} (h : isP q = true) : 1 ≤ (ptextL q).length ∧ (ptextL q).length ≤ 8 := by
  unfold ptextL
  have := isP_le h
  by_cases h0 : q = []
  · rw [if_pos h0]; simp
  · rw [if_neg h0, textL_length]
    have : q.length ≠ 0 := fun e => h0 (List.eq_nil_of_length_eq_zero e)
    omega
theorem gapB_text {q J : List Int} (h : nearOK q J = true) : ByteArray.mk (gapB J (ptextL q) (ptextL q).length).toArray = ntext q J := by
  unfold ptextL
  by_cases h0 : q = []
  · subst h0
    rw [if_pos rfl, ntext_nil h rfl]
    rfl
  · rw [if_neg h0, ntext_yes h (fun e => h0 (List.eq_nil_of_length_eq_zero e)), textL_length, gapB_near q J _ (Nat.le_refl _)]
end Go.Proofs.Ytnnpefgbneldiaa


/-
  spec.NearText, by its contract.
-/

namespace Go.Proofs.Ytnnpefgbneldiaa
set_option maxRecDepth 100000
open Go.RowKit

theorem nearB_yes {q J : List Int} {k : Nat} (h : 0 < k ∧ ¬ (k : Int) ∈ J) : nearB q J (k + 1) = (nearB q J k ++ [95]) ++ [dgt (at0 q k)] := by rw [nearB, if_pos h, List.append_assoc]
theorem nearB_no {q J : List Int} {k : Nat} (h : ¬ (0 < k ∧ ¬ (k : Int) ∈ J)) : nearB q J (k + 1) = nearB q J k ++ [dgt (at0 q k)] := by rw [nearB, if_neg h, List.nil_append]
end Go.Proofs.Ytnnpefgbneldiaa


/-
  THE DRAWS OF CHAPTER 8: spec.l8Draw, spec.DrawCountNear, spec.DrawParseNear, spec.DrawConsecutiveOf, by their contracts.
-/

namespace Go.Proofs.Ytnnpefgbneldiaa
set_option maxRecDepth 100000
open Go.RowKit

/-- A drawn struct of two short rows. -/
def DrawnN (B cb : Nat) (w : World) (e : Ending) (w' : World) : Prop :=
  ∃ A c P d q J, e = .returned (.agg #[.slice A q.length c, .slice P J.length d]) ∧ Lite 9 q ∧ Lite 9 J ∧ NearAt w' w.heap.size (.slice A q.length c) (.slice P J.length d) q J ∧ Cur w' B cb ∧ w.grownBy w' (some cb)
/-- What stands while it is drawn. -/
structure At8 (w : World) (B cb g : Nat) (A : Option Addr) (c : Nat) (q : List Int) (P : Option Addr) (d : Nat) (J : List Int) (wr : World) : Prop where
  x : Whole wr g 52 #[.slice A q.length c, .slice P J.length d]
  o : wr.ownsRow (g + 1) 3 1 (.slice P J.length d) J.length (i64s J)
  r : Whole wr w.heap.size 52 #[.slice none 0 0, .slice none 0 0]
  p : Ints wr (w.heap.size + 1) (.slice A q.length c) q
  u : Until g (.slice A q.length c)
  s : Side B cb w wr
  g : w.heap.size < g
section
variable {w wr w' : World} {B cb g c d : Nat} {A P : Option Addr} {q J : List Int}
theorem At8.drawn (h : At8 w B cb g A c q P d J wr) (hc : Cur w' B cb) (hg : wr.grownBy w' (some cb)) : At8 w B cb g A c q P d J w' := by
  have h1 := h.s.lt
  have h2 := h.g
  exact ⟨h.x.grown hg (fun e => by injection e with e; omega), own_drawn h.o hg (by omega), h.r.grown hg (fun e => by injection e with e; omega), h.p.drawn hg (by omega), h.u, h.s.drawn hc hg, h.g⟩
theorem At8.push {P' : Option Addr} {d' : Nat} {z : Int} (h : At8 w B cb g A c q P d J wr) (hb : Below (g + 1) wr w') (ho : w'.ownsRow (g + 1) 3 1 (.slice P' (J.length + 1) d') (J.length + 1) (i64s (J ++ [z]))) :
    At8 w B cb g A c q P' d' (J ++ [z]) (w'.setCell ⟨g, 1, none⟩ (.slice P' (J.length + 1) d')) := by
  have h2 := h.g
  have hl : (J ++ [z]).length = J.length + 1 := by simp
  refine ⟨?_, ?_, ?_, ?_, h.u, ?_, h.g⟩
  · rw [hl]; exact (h.x.below hb (Nat.lt_succ_self g)).put 1 (.slice P' (J.length + 1) d')
  · rw [hl]; exact own_past ho (p := ⟨g, 1, none⟩) (Nat.lt_succ_self g) _
  · exact (h.r.below hb (by omega)).far (p := ⟨g, 1, none⟩) (by simp; omega) _
  · exact (ints_under h.p h.u hb).kept (grownBy_setCellA w' ⟨g, 1, none⟩ (.slice P' (J.length + 1) d')) (away_block h.u)
  · exact h.s.low ((hb.mono (by omega)).setCell (p := ⟨g, 1, none⟩) (by show w.heap.size ≤ g; omega) _)
theorem At8.done (h : At8 w B cb g A c q P d J wr) (hq : Lite 9 q) (hJ : Lite 9 J) : DrawnN B cb w (.returned (.agg #[.slice A q.length c, .slice P J.length d])) ((wr.setCell ⟨w.heap.size, 0, none⟩ (.slice A q.length c)).setCell ⟨w.heap.size, 1, none⟩ (.slice P J.length d)) := by
  have h2 := h.g
  have hI : Ints wr (g + 1) (.slice P J.length d) J := Ints.of_own h.o
  have hS := h.s.low (((Below.refl w.heap.size wr).setCell (p := ⟨w.heap.size, 0, none⟩) (Nat.le_refl _) (.slice A q.length c)).setCell (p := ⟨w.heap.size, 1, none⟩) (Nat.le_refl _) (.slice P J.length d))
  refine ⟨A, c, P, d, q, J, rfl, hq, hJ, ⟨?_, ?_, apart h.u hI.since (by omega)⟩, hS.cur, hS.gr⟩
  · exact ((h.p.past (by show w.heap.size < _; omega) _).past (by show w.heap.size < _; omega) _).low (by omega)
  · exact ((hI.past (by show w.heap.size < _; omega) _).past (by show w.heap.size < _; omega) _).low (by omega)
end
/-- 'append(s, z)' at a step of a region that has drawn its order ahead of the new block. -/
theorem step_append_one0 {ops : Array Oper} {o : Oper} {a : Act} {W : World} {K : Act → World → Prop} {Q : Exit → Act → World → Prop} {E : Prop} (hgd : o.guard = none) (s x : Operand)
    (ho : o.op = .call { callee := .builtin .append, args := #[s, x], argTypes := #[24, 24] })
    (base m : Nat) (w0 wr : World) (v : Value) (xs : List Int) (z : Int) (hs : a.eval s = v) (hx : a.eval x = .slice (some ⟨wr.heap.size, 0, none⟩) 1 1) (hW : W = wr.alloc (.cells #[.int .i64 z] 3)) (hown : wr.ownsRow base 3 1 v m (i64s xs))
    (hz : -9223372036854775808 ≤ z ∧ z ≤ 9223372036854775807) (hm : m ≤ 1099511627776) (hb : Below base w0 wr) (hbase : base ≤ wr.heap.size)
    (hK : ∀ v' w', w'.ownsRow base 3 1 v' (m + 1) (i64s (xs ++ [z])) → Below base w0 w' → K (a.put o.dst v') w') :
    if Region.wanted o (yielded ops a.tmps) = true then Oper.wp Try.prog o a W K Q else E := by
  subst hW
  have hal := (Below.refl wr.heap.size wr).alloc (Nat.le_refl _) (.cells #[.int .i64 z] 3)
  refine step_append_arg hgd s x ho base (wr.heap.size + 1) m 1 1 w0 v (some ⟨wr.heap.size, 0, none⟩) xs [z] hs hx (own_below hown hal) ?_ hm (hb.trans (hal.mono hbase)) (Nat.le_trans hbase hal.size) fun v' w' h1 h2 _ => hK v' w' h1 h2
  refine ⟨reads_new wr (.int .i64 z) 3, by simp, by omega, Nat.le_refl _, fun y hy => ?_, fun e => by cases e⟩
  rw [List.mem_singleton] at hy
  subst hy
  exact hz
theorem lite9 {zs : List Int} (hl : zs.length ≤ 9) (h : ∀ z ∈ zs, 0 ≤ z ∧ z ≤ 8) : Lite 9 zs := ⟨hl, fun z hz => by have := h z hz; omega⟩
set_option maxHeartbeats 800000 in
theorem l8draw_any (B cb : Nat) (w : World) (hc : Cur w B cb) : Calls Try.prog 76 #[.pointer (some ⟨cb, 0, none⟩)] w (DrawnN B cb w) := by
  obtain ⟨i0, hi, hz0, hz1, hz2⟩ := info_parts intInfo
  obtain ⟨w0, hw0⟩ : ∃ w0, w0 = w.alloc (.cells #[.slice none 0 0, .slice none 0 0] 52) := ⟨_, rfl⟩
  have hR0 : Whole w0 w.heap.size 52 #[.slice none 0 0, .slice none 0 0] := by rw [hw0]; exact Whole.new _ _ _
  have hs0 : w0.heap.size = w.heap.size + 1 := by rw [hw0]; simp
  have b0 : Below w.heap.size w w0 := by rw [hw0]; exact (Below.refl _ w).alloc (Nat.le_refl _) _
  have hal := (Below.refl w0.heap.size w0).alloc (Nat.le_refl _) (.cells ([0, 1, 2, 3, 3, 4].map (Value.int .i64)).toArray 3)
  have hS := ((Side.start hc).below b0).below hal
  have hcl := hc.lt
  have hne : w.heap.size + 1 ≠ cb := by omega
  have hblk : Blk (w0.alloc (.cells ([0, 1, 2, 3, 3, 4].map (Value.int .i64)).toArray 3)) (w.heap.size + 1) 3 ([0, 1, 2, 3, 3, 4].map (Value.int .i64)).toArray := by
    have := Blk.new w0 3 ([0, 1, 2, 3, 3, 4].map (Value.int .i64)).toArray
    rwa [hs0] at this
  have H1 := hide (pickInt_any B cb (w.heap.size + 1) 6 6 [0, 1, 2, 3, 3, 4] _ hS.cur hblk hne rfl (by omega) (by omega))
  have hR1 := hR0.below hal (by omega)
  simp only [List.map_cons, List.map_nil] at hS H1 hR1
  have HI0 := hide (⟨hi, hz0, hz1, hz2⟩ : Try.prog.info? 3 = some i0 ∧ i0.zero = some (.int .i64 0) ∧ i0.size = 1 ∧ i0.bytes = 8)
  rw [hw0] at H1
  have hs1 : w.heap.size + 1 ≤ w0.heap.size := by omega
  have HW0 := hide hw0
  clear hal hc hR0 b0 hs0 hw0 hi hz0 hz1 hz2 hblk
  go_enter Try.func76, Try.ntmps76
  go_wp2_with fail
  refine (unhide H1).mono ?_
  rintro e w1 ⟨v, rfl, ⟨x, hx, rfl⟩, hc1, hg1⟩
  rw [← unhide HW0] at hg1
  have hx4 : 0 ≤ x ∧ x ≤ 4 := by
    simp only [List.mem_cons, List.not_mem_nil, or_false] at hx
    omega
  obtain ⟨m, rfl⟩ : ∃ m : Nat, x = m := ⟨x.toNat, by omega⟩
  have hm : m ≤ 4 := by omega
  have hS1 := hS.drawn hc1 hg1
  have hR1' := hR1.grown hg1 (fun e => by injection e with e; omega)
  have H2 := hide (l2draw_any B cb m (by omega) w1 hc1)
  have hs2 := hg1.size
  clear H1 hx hx4 hS hc1 hg1 hR1
  go_wp2_with fail
  refine (unhide H2).mono ?_
  rintro e w2 ⟨A2, c2, q, rfl, hl, hown, hc2, hg2⟩
  have hS2 := hS1.drawn hc2 hg2
  have hR2 := hR1'.grown hg2 (fun e => by injection e with e; omega)
  have hI2 : Ints w2 w1.heap.size (.slice A2 q.length c2) q := Ints.of_own hown
  have hs3 := hg2.size
  have hw1s : w.heap.size + 1 ≤ w1.heap.size := by simp at hs2; omega
  obtain ⟨g, hg⟩ : ∃ g, g = w2.heap.size := ⟨_, rfl⟩
  obtain ⟨w3, hw3⟩ : ∃ w3, w3 = w2.alloc (.cells #[.slice A2 q.length c2, .slice none 0 0] 52) := ⟨_, rfl⟩
  have b23 : Below w2.heap.size w2 w3 := by rw [hw3]; exact (Below.refl _ w2).alloc (Nat.le_refl _) _
  have hAt : At8 w B cb g A2 c2 q none 0 [] w3 := by
    have hxw : Whole w3 w2.heap.size 52 #[.slice A2 q.length c2, .slice none 0 0] := by rw [hw3]; exact Whole.new _ _ _
    exact ⟨by rw [hg]; exact hxw, World.ownsRow_nil _ _ _ _, hR2.below b23 hR2.lt, (hI2.below b23).low hw1s, by rw [hg]; exact hI2.until_, hS2.below b23, by omega⟩
  have hql : q.length ≤ 4 := by have := hl.1; omega
  have HQ := hide hl.2
  have HW3 := hide hw3
  have HG := hide hg
  clear H2 hl hc2 hg2 hS1 hS2 hR1' hR2 hI2 hown b23 hw3 hg HW0
  go_wp2
  rw [← unhide HW3, ← unhide HG]
  clear HW3 HG
  go_loopw [4] (fun i wr => ∃ (k : Nat) (P : Option Addr) (d : Nat) (J : List Int), 1 ≤ k ∧ k ≤ 5 ∧ i = .int .i64 k ∧ J.length + 1 ≤ k ∧ Hid (∀ z ∈ J, 0 ≤ z ∧ z ≤ 8) ∧ At8 w B cb g A2 c2 q P d J wr) (fun i _ => 5 - (intOf i).toNat)
  case atStart => exact ⟨1, none, 0, [], Nat.le_refl _, by omega, rfl, Nat.le_refl _, hide (fun z hz => by simp at hz), hAt⟩
  case round =>
    obtain ⟨k, P, d, J, hk1, hk5, rfl, hJk, hJ, hA⟩ := hrel
    clear hAt
    have x0 := hA.x.cell 0
    have x1 := hA.x.cell 1
    have xl := hA.x.lt
    simp only [List.getElem?_toArray, List.getElem?_cons_zero, List.getElem?_cons_succ] at x0 x1
    by_cases hlt : k < q.length
    · have H3 := hide (once_any B cb 2 (by omega) wr hA.s.cur)
      have HA := hide hA
      clear hA
      go_wp2_with fail
      refine (unhide H3).mono ?_
      rintro e w4 ⟨v, rfl, ⟨b, rfl⟩, hc4, hg4⟩
      have hA4 := (unhide HA).drawn hc4 hg4
      clear H3 hc4 hg4 x0 x1 xl HA
      cases b with
      | false =>
        go_wp2
        go_roundw
        case rel => exact ⟨k + 1, P, d, J, by omega, by omega, by go_num, by omega, hJ, hA4⟩
        case measure => simp [intOf]; omega
      | true =>
        have x1 := hA4.x.cell 1
        have f1 := hA4.x.frozen 1
        have xl := hA4.x.lt
        have hO := hA4.o
        simp only [List.getElem?_toArray, List.getElem?_cons_zero, List.getElem?_cons_succ] at x1
        have HA := hide hA4
        obtain ⟨hi, hz0, hz1, hz2⟩ := unhide HI0
        obtain ⟨jl, hjl⟩ : ∃ j, j = J.length := ⟨_, rfl⟩
        rw [← hjl] at x1 hO hJk
        have HJL := hide hjl
        clear hA4 hjl
        go_wp2_with (at_builtin; refine wpList_append_one rfl (.tmp 21) (.tmp 23) 24 rfl (g + 1) 3 i0 (.int .i64 0) 8 Try.underlying24 hi hz0 hz1 hz2 rfl w4 w4 _ jl (i64s J) rfl hO (.int .i64 (k : Int)) rfl rfl rfl (by omega) (by unfold maxLen; omega) (Below.refl _ _) xl ?_)
        intro v' w' hO' hb' hg'
        obtain ⟨P', d', rfl⟩ : ∃ P' d', v' = .slice P' (jl + 1) d' := by
          obtain ⟨g9, c9, e, _⟩ := own_first hO' (by omega)
          exact ⟨_, _, e⟩
        have hX1 := (unhide HA).x.below hb' (Nat.lt_succ_self g)
        have r1' := hX1.cell 1
        have f1' := hX1.frozen 1
        have l1' := hX1.lt
        simp only [List.getElem?_toArray, List.getElem?_cons_zero, List.getElem?_cons_succ] at r1'
        rw [← unhide HJL] at r1'
        have hA5 : At8 w B cb g A2 c2 q P' d' (J ++ [(k : Int)]) (w'.setCell ⟨g, 1, none⟩ (.slice P' (jl + 1) d')) := by
          rw [unhide HJL] at hO' ⊢
          rw [i64_snoc2] at hO'
          exact (unhide HA).push hb' hO'
        have hJ2 := hide (show ∀ z ∈ J ++ [(k : Int)], 0 ≤ z ∧ z ≤ 8 from fun z hz => by
          rcases List.mem_append.1 hz with hz | hz
          · exact unhide hJ z hz
          · rw [List.mem_singleton] at hz; subst hz; omega)
        have hJl2 := hide (show (J ++ [(k : Int)]).length + 1 ≤ k + 1 from by rw [List.length_append, List.length_singleton, ← unhide HJL]; omega)
        clear x1 f1 xl hO hO' hb' hg' hX1 HA hi hz0 hz1 hz2 hJ
        go_wp2
        go_roundw
        case rel => exact ⟨k + 1, P', d', J ++ [(k : Int)], by omega, by omega, by go_num, unhide hJl2, hJ2, hA5⟩
        case measure => simp [intOf]; omega
    · have H3 := hide (once_any B cb 14 (by omega) wr hA.s.cur)
      have HA := hide hA
      clear hA
      go_wp2_with fail
      refine (unhide H3).mono ?_
      rintro e w4 ⟨v, rfl, ⟨b, rfl⟩, hc4, hg4⟩
      have hA4 := (unhide HA).drawn hc4 hg4
      have hLq : Lite 9 q := ⟨by omega, unhide HQ⟩
      clear H3 hc4 hg4 x0 x1 xl HA
      have x0 := hA4.x.cell 0
      have x1 := hA4.x.cell 1
      simp only [List.getElem?_toArray, List.getElem?_cons_zero, List.getElem?_cons_succ] at x0 x1
      cases b with
      | false =>
        have hLJ : Lite 9 J := lite9 (by omega) (unhide hJ)
        have q0 := hA4.r.cell 0
        have q1 := hA4.r.cell 1
        have e0 := hA4.r.frozen 0
        have e1 := hA4.r.frozen 1
        have hltr := hA4.r.lt
        simp only [List.getElem?_toArray, List.getElem?_cons_zero, List.getElem?_cons_succ] at q0 q1
        have HE := hide (hA4.done hLq hLJ)
        have hWe := (hA4.r.put 0 (.slice A2 q.length c2)).put 1 (.slice P J.length d)
        have HWE := hide hWe
        clear hA4 hLq hLJ hWe hJ
        go_wp2_with fail
        have hWe := unhide HWE
        refine bodyPost_ret (v := .agg #[.slice A2 q.length c2, .slice P J.length d]) (results_cell_row Try.results76 _ _ w.heap.size 52 _ (0, 0) _ rfl hWe Try.underlying52 rfl nearInfo) rfl ?_
        exact unhide HE
      | true =>
        have f1 := hA4.x.frozen 1
        have xl := hA4.x.lt
        have bd : Below w4.heap.size w4 w4.drew := (Below.refl _ w4).drew
        have hcd : Cur w4.drew B cb := hA4.s.cur.below bd
        have hAd : At8 w B cb g A2 c2 q P d J w4.drew := hA4.drawn hcd ⟨rfl, rfl, rfl, Nat.le_refl _, fun _ _ _ => rfl⟩
        have x1d : w4.drew.cell? ⟨g, 1, none⟩ = some (.slice P J.length d) := x1
        have H4 := hide (below_any B cb 5 (by omega) w4.drew hcd)
        have HAd := hide hAd
        have hJ4 : J.length ≤ 8 := by omega
        have HJ := hJ
        clear hA4 bd hcd hAd hJ
        go_wp2_with fail
        go_region_law
          (first
            | (go_simp; go_at_call 57; refine (unhide H4).mono ?_; rintro e w5 ⟨v, rfl, ⟨y, rfl, hy0, hy1⟩, hc5, hg5⟩; rw [if_pos (by omega)] at hy1; have hA5 := hide ((unhide HAd).drawn hc5 hg5); have x5 := (unhide hA5).x.cell 1; simp only [List.getElem?_toArray, List.getElem?_cons_zero, List.getElem?_cons_succ] at x5; have l5 := (unhide hA5).x.lt; have x5a := fun o => (((Below.refl w5.heap.size w5).alloc (Nat.le_refl _) o).cell (p := ⟨g, 1, none⟩) l5).trans x5; have o5 := (unhide hA5).o; clear hc5 hg5)
            | (refine step_append_one0 (by rfl) (.tmp 29) (.tmp 32) (by rfl) (g + 1) J.length w5 w5 _ J y (by rfl) (by rfl) (by rfl) o5 (by omega) (by omega) (Below.refl _ _) l5 ?_; intro v' w' hO' hb'; obtain ⟨g9, c9, rfl, _⟩ := own_first hO' (Nat.succ_pos _); have hX1 := (unhide hA5).x.below hb' (Nat.lt_succ_self g); have r1' := hX1.cell 1; have f1' := hX1.frozen 1; have l1' := hX1.lt; simp only [List.getElem?_toArray, List.getElem?_cons_zero, List.getElem?_cons_succ] at r1'; have hA6 := hide ((unhide hA5).push hb' hO'); clear hX1 hO' hb'))
        all_goals
          have hA7 := unhide hA6
          have hJ2 : ∀ z ∈ J ++ [y], 0 ≤ z ∧ z ≤ 8 := fun z hz => by
            rcases List.mem_append.1 hz with hz | hz
            · exact unhide HJ z hz
            · rw [List.mem_singleton] at hz; subst hz; omega
          have hjl : (J ++ [y]).length = J.length + 1 := by simp
          have hLJ : Lite 9 (J ++ [y]) := lite9 (by rw [hjl]; omega) hJ2
          have q0 := hA7.r.cell 0
          have q1 := hA7.r.cell 1
          have e0 := hA7.r.frozen 0
          have e1 := hA7.r.frozen 1
          have hltr := hA7.r.lt
          have p0 := hA7.x.cell 0
          have p1 := hA7.x.cell 1
          simp only [List.getElem?_toArray, List.getElem?_cons_zero, List.getElem?_cons_succ] at q0 q1 p0 p1
          have HE := hA7.done hLq hLJ
          have hWe := (hA7.r.put 0 (.slice A2 q.length c2)).put 1 (.slice (some ⟨g9, 0, none⟩) (J ++ [y]).length c9)
          rw [hjl] at p1 HE hWe
          have HEE := hide HE
          have HWE := hide hWe
          clear hA7 hJ2 hjl hLJ HE hWe hA5 hA6 o5 x5 x5a l5 HAd H4 r1' f1' l1' x1d x0 x1 f1 xl
          go_wp2_with fail
          have hWe := unhide HWE
          refine bodyPost_ret (v := .agg #[.slice A2 q.length c2, .slice (some ⟨g9, 0, none⟩) (J.length + 1) c9]) (results_cell_row Try.results76 _ _ w.heap.size 52 _ (0, 0) _ rfl hWe Try.underlying52 rfl nearInfo) rfl ?_
          exact unhide HEE
theorem results_tmp_cell {P : Program} {fn : Func} {p u : Tmp} {ty : TypeId} (h : fn.results = #[.tmp u, .cell p ty]) (tmps : Array Value) (w : World) (g : Nat) (t : TypeId) (cs : Array Value) (fr : Nat × Nat) (d : TypeDesc)
    (hp : tmps.getD p undef = .pointer (some ⟨g, 0, none⟩)) (hg : w.heap[g]? = some (.cells cs t fr))
    (hu : P.underlying ty = some d) (hd : (match d with | .struct _ | .array _ _ => true | _ => false) = true) (hi : (P.info? ty).map (·.size) = some cs.size) :
    (results fn tmps).run P w = .ok (.tuple #[tmps.getD u undef, .agg cs]) w := by
  have e : (results fn tmps).run P w = ((asAddr (tmps.getD p undef)).run P w).andThen fun a w₁ => ((loadVar ty a).run P w₁).andThen fun v w₂ => .ok (.tuple #[tmps.getD u undef, v]) w₂ := by
    simp only [results, h]
    simp [Sem.run_bind, Result.andThen]
  rw [e, hp]
  simp [asAddr, Result.andThen, run_loadVar_row w g t ty cs fr d hg hu hd hi]
/-- A row and a struct of two rows, drawn from the bytes. -/
def DrewIN (w : World) (e : Ending) (w' : World) : Prop :=
  ∃ A0 c0 p A c P d q J, e = .returned (.tuple #[.slice A0 p.length c0, .agg #[.slice A q.length c, .slice P J.length d]]) ∧ Lite 9 p ∧ Lite 9 q ∧ Lite 9 J ∧ Ints w' w.heap.size (.slice A0 p.length c0) p ∧ NearAt w' w.heap.size (.slice A q.length c) (.slice P J.length d) q J ∧ Below w.heap.size w w'
theorem ntext_size (q J : List Int) : (ntext q J).size ≤ 16 := by
  unfold ntext
  cases h : nearOK q J with
  | false => simp
  | true =>
    have h8 := isP_le (nearOK_iff.1 h).1
    have h9 := nearB_len q J q.length
    rw [if_pos rfl]
    split
    · decide
    · show (nearB q J q.length).toArray.size ≤ 16
      rw [List.size_toArray]; omega
def marks5 : List ByteArray := [⟨#[95]⟩, ⟨#[49]⟩, ⟨#[50]⟩, ⟨#[45]⟩, ⟨#[51]⟩]
theorem marks5_short : ∀ t ∈ marks5, t.size ≤ 100 := by
  intro t ht
  simp only [marks5, List.mem_cons, List.not_mem_nil, or_false] at ht
  rcases ht with rfl | rfl | rfl | rfl | rfl <;> decide
end Go.Proofs.Ytnnpefgbneldiaa
