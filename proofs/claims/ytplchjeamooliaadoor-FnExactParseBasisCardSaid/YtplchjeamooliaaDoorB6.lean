/-
  Words and contracts that the laws lean on, bundled: PermsOf, Fill, SymS, ClsS, AllS, OrdS, ClassO, OccR, PatF.
-/
import Derived.Test.YtplchjeamooliaaDoorB2
import Derived.Test.YtplchjeamooliaaDoorB3
import Derived.Test.YtplchjeamooliaaDoorB1
import Derived.Test.YtplchjeamooliaaDoorB4
import Derived.Test.YtplchjeamooliaaDoorB5
import Derived.Deep.RegionHeld3

/-
  spec.PermsOf and impl.PermsOf, by their contracts.
-/

namespace Go.Proofs.YtplchjeamooliaaDoor
set_option maxRecDepth 100000
open Go.RowKit

theorem own_head {w : World} {base n : Nat} {v : Value} {xs : List Value} {e : TypeId} (h : w.ownsRow base e 1 v n xs) (hn : 0 < n) : ∃ g c, v = .slice (some ⟨g, 0, none⟩) n c := by
  rcases h.2 with ⟨_, h0⟩ | ⟨g, cap, cur, rfl, _⟩
  · omega
  · exact ⟨g, cap, rfl⟩

theorem IntsS.push {w : World} {B : Nat} {v : Value} {vs : List Value} {zss : List (List Int)} {u : Value} {zs : List Int} {n : Nat} (hn : n = zss.length) (hown : w.ownsRow B 30 1 v (n + 1) (vs ++ [u])) (hin : Inner w B (vs ++ [u]) (zss ++ [zs])) : IntsS w B v (zss ++ [zs]) := by
  subst hn
  refine ⟨vs ++ [u], ?_, hin⟩
  rw [List.length_append]
  exact hown

end Go.Proofs.YtplchjeamooliaaDoor


/-
  spec.l2Fill and spec.PermsOf, by their contracts.
-/

namespace Go.Proofs.YtplchjeamooliaaDoor
set_option maxRecDepth 100000
open Go.RowKit

def FillEnds (w : World) (B : Nat) (zss : List (List Int)) (e : Ending) (w' : World) : Prop := ∃ v, e = .returned v ∧ IntsS w' B v zss ∧ Below B w w' ∧ KeepI w w'
/-- What l2Fill is handed: a head, a list of rows, the head away from them. -/
structure Handed (w : World) (B : Nat) (hv : Value) (hd : List Int) (ov : Value) (out : List (List Int)) (vs : List Value) : Prop where
  head : Ints w B hv hd
  own : w.ownsRow B 30 1 ov out.length vs
  inner : Inner w B vs out
  away : ∀ x ∈ vs, Away x hv

theorem below_ends {w0 w w' : World} {B : Nat} {zss : List (List Int)} {e : Ending} (hb : Below B w0 w) (hk : KeepI w0 w) (h : FillEnds w B zss e w') : FillEnds w0 B zss e w' := by
  obtain ⟨v, he, hI, hb2, hk2⟩ := h
  exact ⟨v, he, hI, hb.trans hb2, hk.trans hk2⟩

end Go.Proofs.YtplchjeamooliaaDoor


/-
  spec.l3Symmetry and spec.SymmetryOf, by their contracts.
-/

namespace Go.Proofs.YtplchjeamooliaaDoor
set_option maxRecDepth 100000
open Go.RowKit

end Go.Proofs.YtplchjeamooliaaDoor


/-
  spec.SymmetryClass and spec.LeastSymmetry, by their contracts.
-/

namespace Go.Proofs.YtplchjeamooliaaDoor
set_option maxRecDepth 100000
open Go.RowKit

theorem PutS.start (w : World) : PutS (w.alloc (.cells #[] 30)) w.heap.size (.slice (some ⟨w.heap.size, 0, none⟩) 0 0) [] := ⟨IntsS.made0 w w.heap.size (Nat.le_refl _), w.heap.size, 0, rfl⟩
theorem PutS.below {w w' : World} {B : Nat} {v : Value} {zss : List (List Int)} (h : PutS w B v zss) (hb : Below w.heap.size w w') : PutS w' B v zss := ⟨h.1.below hb, h.2⟩
theorem PutS.keepDrew {w w' : World} {B : Nat} {v : Value} {zss : List (List Int)} (h : PutS w B v zss) (hd : Drew w w') : PutS w' B v zss := h.below (hd.below _)
theorem ordL_all {l : List (List Int)} (h : allP l = true) (k : Nat) : ∀ z ∈ ordL l k, isP z = true := fun _ hz => allP_at h (List.mem_of_mem_take (ordL_mem.1 hz))
theorem tot_le8 : ∀ l : List (List Int), (∀ z ∈ l, z.length ≤ 8) → tot l ≤ 8 * l.length
  | [], _ => by simp [tot]
  | z :: l, h => by
    have h1 := h z (by simp)
    have h2 := tot_le8 l fun y hy => h y (by simp [hy])
    simp only [tot, List.length_cons, List.map_cons, List.sum_cons] at h2 ⊢
    omega
theorem clsR_small (p : List Int) : (clsR p).length ≤ 8 ∧ tot (clsR p) ≤ 64 := by
  have h1 := clsR_len p
  have h2 := tot_le8 (clsR p) fun z hz => isP_le (clsR_mem hz)
  omega
end Go.Proofs.YtplchjeamooliaaDoor


/-
  spec.l3All, by its contract.
-/

namespace Go.Proofs.YtplchjeamooliaaDoor
set_option maxRecDepth 100000
open Go.RowKit

end Go.Proofs.YtplchjeamooliaaDoor


/-
  spec.l3All and spec.OrderPerms, by their contracts.
-/

namespace Go.Proofs.YtplchjeamooliaaDoor
set_option maxRecDepth 100000
open Go.RowKit

theorem tot_app (a b : List (List Int)) : tot (a ++ b) = tot a + tot b := by simp [tot]
theorem tot_put (l : List (List Int)) (p : List Int) : tot (putL l p) ≤ tot l + p.length := by
  unfold putL
  split
  · omega
  · have h := congrArg tot (List.take_append_drop (scanL l p l.length) l)
    rw [tot_app] at h
    rw [tot_app, tot_app]
    have : tot [p] = p.length := by simp [tot]
    omega
theorem tot_foldl : ∀ (l a : List (List Int)), tot (l.foldl putL a) ≤ tot a + tot l
  | [], a => by simp [tot]
  | p :: l, a => by
    have h1 := tot_foldl l (putL a p)
    have h2 := tot_put a p
    have h3 := tot_app [p] l
    have h4 : tot [p] = p.length := by simp [tot]
    rw [List.foldl_cons]
    rw [List.singleton_append] at h3
    omega
theorem ordR_tot (l : List (List Int)) : tot (ordR l) ≤ tot l := by
  cases h : allP l with
  | true =>
    rw [ordR_yes h]
    unfold ordL
    have h1 := tot_foldl (l.take l.length) []
    rw [List.take_length] at h1 ⊢
    simpa [tot] using h1
  | false => rw [ordR_no h]; simp [tot]
end Go.Proofs.YtplchjeamooliaaDoor


/-
  spec.ClassOf and spec.MakeBasis, by their contracts.
-/

namespace Go.Proofs.YtplchjeamooliaaDoor
set_option maxRecDepth 100000
open Go.RowKit

theorem clsO_no {L : List (List Int)} {m : Int} (h : ¬ (basis L = true ∧ 0 ≤ m ∧ m ≤ 6)) : clsO L m = [] := by unfold clsO; rw [if_neg h]
theorem clsO_yes {L : List (List Int)} {k : Nat} (h : basis L = true) (hk : k ≤ 6) : clsO L (k : Int) = sift (avo L) (permL k) (permL k).length := by
  unfold clsO
  rw [if_pos ⟨h, by omega, by omega⟩, sift_all, Int.toNat_natCast]
  rfl
theorem permL_isPm : ∀ n : Nat, n ≤ 6 → ∀ z ∈ permL n, isP z = true := by decide +kernel
end Go.Proofs.YtplchjeamooliaaDoor


/-
  spec.OccurrencesOf, spec.CountPattern, spec.HasPattern, spec.IsOccurrence, by their contracts.
-/

namespace Go.Proofs.YtplchjeamooliaaDoor
set_option maxRecDepth 100000
open Go.RowKit

/-- How often q occurs in p. -/
def numOcc (p q : List Int) : Int := if isP p && isP q then ((occR p q).length : Int) else -1
def hasR (p q : List Int) : Bool := decide (1 ≤ numOcc p q)
theorem numOcc_rng (p q : List Int) : -1 ≤ numOcc p q ∧ numOcc p q ≤ 256 := by
  unfold numOcc
  by_cases h : (isP p && isP q) = true
  · rw [if_pos h]
    have := occ_size p q (by simp at h; exact h.1)
    omega
  · rw [if_neg h]; omega
end Go.Proofs.YtplchjeamooliaaDoor


/-
  PLAIN: patterns of patterns are patterns; what FnPatterns needs of them.
-/

namespace Go.Proofs.YtplchjeamooliaaDoor
set_option maxRecDepth 100000

theorem hasR_yes {p q : List Int} (hp : isP p = true) (hq : isP q = true) (h : 0 < (occR p q).length) : hasR p q = true := by
  unfold hasR numOcc
  rw [if_pos (by simp [hp, hq])]
  exact decide_eq_true (by omega)
theorem hasR_iff {p q : List Int} (hp : isP p = true) (hq : isP q = true) : hasR p q = true ↔ ∃ pl, PlOK p.length pl ∧ pl.length = q.length ∧ Alike (nums p pl) q := by
  constructor
  · intro h
    unfold hasR numOcc at h
    rw [if_pos (by simp [hp, hq])] at h
    have := of_decide_eq_true h
    obtain ⟨pl, hpl⟩ := List.exists_mem_of_length_pos (show 0 < (occR p q).length by omega)
    obtain ⟨_, _, h3, h4, h5⟩ := isOcc_iff.1 (mem_occ.1 hpl)
    exact ⟨pl, h4, h3, (pat_eq_iff hq).1 h5⟩
  · rintro ⟨pl, h1, h2, h3⟩
    exact hasR_yes hp hq (List.length_pos_of_mem (a := pl) (mem_occ.2 (isOcc_iff.2 ⟨hp, hq, h2, h1, (pat_eq_iff hq).2 h3⟩)))
theorem hasR_sub {p s : List Int} (hp : isP p = true) (h : s.Sublist p) (hs : isP (patL s) = true) : hasR p (patL s) = true := hasR_yes hp hs (occ_sub hp h hs)
theorem numOcc_yes {p q : List Int} (hp : isP p = true) (hq : isP q = true) : numOcc p q = ((occR p q).length : Int) := by unfold numOcc; rw [if_pos (by simp [hp, hq])]
theorem num_inv {p q : List Int} (hp : isP p = true) (hq : isP q = true) : numOcc (invR p) (invR q) = ((occR p q).length : Int) := by
  rw [invR_yes hp, invR_yes hq]
  have := occ_inv_len hp hq
  unfold invL at this
  rw [numOcc_yes (isP_inv hp) (isP_inv hq), this]
theorem num_rev {p q : List Int} (hp : isP p = true) (hq : isP q = true) : numOcc (revR p) (revR q) = ((occR p q).length : Int) := by
  rw [revR_yes hp, revR_yes hq, numOcc_yes (isP_rev hp) (isP_rev hq), occ_rev_len]
/-- Each pattern is one. -/
theorem patK_mem {p : List Int} {k : Int} : ∀ {s : Nat} {x : List Int}, x ∈ patK p k s → ∃ t, x = patL (subK p t p.length)
  | 0, x, h => by rw [show patK p k 0 = [] from rfl] at h; cases h
  | s + 1, x, h => by
    by_cases hk : ((subK p s p.length).length : Int) = k
    · rw [patK_yes hk, mem_putL] at h
      rcases h with h | h
      · exact patK_mem h
      · exact ⟨s, h⟩
    · rw [patK_no hk] at h
      exact patK_mem h
theorem pats_has {p x : List Int} {k : Int} (h : x ∈ patsR p k) : hasR p x = true := by
  cases hk : patsOK p k with
  | false => rw [patsR_no hk] at h; cases h
  | true =>
    have hp : isP p = true := by unfold patsOK at hk; rw [Bool.and_eq_true] at hk; exact hk.1
    rw [patsR_yes hk] at h
    obtain ⟨t, rfl⟩ := patK_mem h
    refine hasR_sub hp ?_ (subK_isP hp t)
    have := subK_sub p t p.length (Nat.le_refl _)
    rwa [List.take_length] at this
theorem wpl_has {p : List Int} {x : Int} (h : wplOK p x = true) : hasR p (wplR p x) = true := by
  have hp : isP p = true := by unfold wplOK at h; rw [Bool.and_eq_true] at h; exact h.1
  rw [wplR_yes h]
  exact hasR_sub hp (cutAt_sub p _) (cutAt_isP hp _)
theorem wpl_low {p : List Int} {x : Int} (h : wplOK p x = true) : wplR p x ∈ lowR p := by
  have hp : isP p = true := by unfold wplOK at h; rw [Bool.and_eq_true] at h; exact h.1
  have hx : 1 ≤ x ∧ x ≤ (p.length : Int) := by unfold wplOK at h; rw [Bool.and_eq_true] at h; exact of_decide_eq_true h.2
  rw [wplR_yes h, lowR_yes hp]
  unfold lowK
  rw [(foldl_put _ [] List.Pairwise.nil).2.1]
  refine .inr (List.mem_map.2 ⟨x.toNat - 1, List.mem_range.2 (by omega), rfl⟩)
/-! how much it is -/
theorem tot_room (m : Nat) : ∀ l : List (List Int), (∀ z ∈ l, z.length ≤ m) → tot l ≤ m * l.length
  | [], _ => by simp [tot]
  | z :: l, h => by
    have h1 := h z (by simp)
    have h2 := tot_room m l fun y hy => h y (by simp [hy])
    simp only [tot, List.length_cons, List.map_cons, List.sum_cons, Nat.mul_add, Nat.mul_one] at h2 ⊢
    omega
theorem occ_room (p q : List Int) : (occR p q).length ≤ 256 ∧ tot (occR p q) ≤ 2048 := by
  have ht := tot_room 8 (occR p q) fun z hz => by
    obtain ⟨_, h2, h3, _⟩ := isOcc_iff.1 (mem_occ.1 hz)
    have := isP_le h2
    omega
  have hnum := numOcc_rng p q
  have h8 : (occR p q).length ≤ 256 := by
    cases hpp : isP p with
    | false => rw [occR_no (.inl hpp)]; simp
    | true =>
      cases hqq : isP q with
      | false => rw [occR_no (.inr hqq)]; simp
      | true => rw [numOcc_yes hpp hqq] at hnum; omega
  exact ⟨h8, by omega⟩
theorem pats_all {p z : List Int} {k : Int} (h : z ∈ patsR p k) : isP z = true := by
  cases hk : patsOK p k with
  | false => rw [patsR_no hk] at h; cases h
  | true =>
    have hp : isP p = true := by unfold patsOK at hk; rw [Bool.and_eq_true] at hk; exact hk.1
    rw [patsR_yes hk] at h
    exact patK_all hp k _ z h
theorem pats_size (p : List Int) (k : Int) : (patsR p k).length ≤ 256 ∧ tot (patsR p k) ≤ 2048 := by
  have ht := tot_room 8 (patsR p k) fun z hz => isP_le (pats_all hz)
  have h8 : (patsR p k).length ≤ 256 := by
    cases hk : patsOK p k with
    | false => rw [patsR_no hk]; simp
    | true =>
      have hp : isP p = true := by unfold patsOK at hk; rw [Bool.and_eq_true] at hk; exact hk.1
      rw [patsR_yes hk]
      have h1 := patK_len p k (2 ^ p.length)
      have h2 : 2 ^ p.length ≤ 2 ^ 8 := Nat.pow_le_pow_right (by omega) (isP_le hp)
      omega
  exact ⟨h8, by omega⟩
theorem low_all {p z : List Int} (h : z ∈ lowR p) : isP z = true := by
  cases hp : isP p with
  | false => rw [lowR_no hp] at h; cases h
  | true => rw [lowR_yes hp] at h; exact lowK_all hp _ z h
theorem low_size (p : List Int) : (lowR p).length ≤ 8 ∧ tot (lowR p) ≤ 64 := by
  have ht := tot_room 8 (lowR p) fun z hz => isP_le (low_all hz)
  have h8 : (lowR p).length ≤ 8 := by
    cases hp : isP p with
    | false => rw [lowR_no hp]; simp
    | true =>
      rw [lowR_yes hp]
      have h1 := lowK_len p p.length
      have := isP_le hp
      omega
  exact ⟨h8, by omega⟩
theorem occ_is {p q pl : List Int} (h : pl ∈ occR p q) : isOcc p q pl = true := mem_occ.1 h
end Go.Proofs.YtplchjeamooliaaDoor
