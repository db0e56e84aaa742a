/-
  Words and contracts that the laws lean on, bundled: PatF, IsOccI, Sort, Compact, OrdP, PatsI, LowI, Conc, End.
-/
import Derived.Test.YtichenjbkclljaaB4
import Derived.Test.YtichenjbkclljaaB5
import Derived.Test.YtichenjbkclljaaB3
import Derived.Test.YtichenjbkclljaaShelfF
import Derived.Deep.RegionHeld3
import Derived.Lib.SliceRun
import Derived.Laws.BitsLemmas
import Derived.Test.YtichenjbkclljaaB2
import Derived.Lib.AppendZeros
import Derived.Test.YtichenjbkclljaaRows
import Derived.ProofKit
import Derived.OpenShut
import Derived.Carry
import Derived.SliceStrings

/-
  PLAIN: patterns of patterns are patterns; what FnPatterns needs of them.
-/

namespace Go.Proofs.Ytichenjbkclljaa
set_option maxRecDepth 100000

theorem hasR_yes {p q : List Int} (hp : isP p = true) (hq : isP q = true) (h : 0 < (occR p q).length) : hasR p q = true := by
  unfold hasR numOcc
  rw [if_pos (by simp [hp, hq])]
  exact decide_eq_true (by omega)
theorem hasR_iff {p q : List Int} (hp : isP p = true) (hq : isP q = true) : hasR p q = true ↔ ∃ pl, PlOK p.length pl ∧ pl.length = q.length ∧ Alike (nums p pl) q := by
  constructor
  · intro h
    unfold hasR numOcc at h
    rw [if_pos (by simp [hp, hq])] at h
    have := of_decide_eq_true h
    obtain ⟨pl, hpl⟩ := List.exists_mem_of_length_pos (show 0 < (occR p q).length by omega)
    obtain ⟨_, _, h3, h4, h5⟩ := isOcc_iff.1 (mem_occ.1 hpl)
    exact ⟨pl, h4, h3, (pat_eq_iff hq).1 h5⟩
  · rintro ⟨pl, h1, h2, h3⟩
    exact hasR_yes hp hq (List.length_pos_of_mem (a := pl) (mem_occ.2 (isOcc_iff.2 ⟨hp, hq, h2, h1, (pat_eq_iff hq).2 h3⟩)))
theorem hasR_sub {p s : List Int} (hp : isP p = true) (h : s.Sublist p) (hs : isP (patL s) = true) : hasR p (patL s) = true := hasR_yes hp hs (occ_sub hp h hs)
theorem numOcc_yes {p q : List Int} (hp : isP p = true) (hq : isP q = true) : numOcc p q = ((occR p q).length : Int) := by unfold numOcc; rw [if_pos (by simp [hp, hq])]
theorem num_inv {p q : List Int} (hp : isP p = true) (hq : isP q = true) : numOcc (invR p) (invR q) = ((occR p q).length : Int) := by
  rw [invR_yes hp, invR_yes hq]
  have := occ_inv_len hp hq
  unfold invL at this
  rw [numOcc_yes (isP_inv hp) (isP_inv hq), this]
theorem num_rev {p q : List Int} (hp : isP p = true) (hq : isP q = true) : numOcc (revR p) (revR q) = ((occR p q).length : Int) := by
  rw [revR_yes hp, revR_yes hq, numOcc_yes (isP_rev hp) (isP_rev hq), occ_rev_len]
/-- Each pattern is one. -/
theorem patK_mem {p : List Int} {k : Int} : ∀ {s : Nat} {x : List Int}, x ∈ patK p k s → ∃ t, x = patL (subK p t p.length)
  | 0, x, h => by rw [show patK p k 0 = [] from rfl] at h; cases h
  | s + 1, x, h => by
    by_cases hk : ((subK p s p.length).length : Int) = k
    · rw [patK_yes hk, mem_putL] at h
      rcases h with h | h
      · exact patK_mem h
      · exact ⟨s, h⟩
    · rw [patK_no hk] at h
      exact patK_mem h
theorem pats_has {p x : List Int} {k : Int} (h : x ∈ patsR p k) : hasR p x = true := by
  cases hk : patsOK p k with
  | false => rw [patsR_no hk] at h; cases h
  | true =>
    have hp : isP p = true := by unfold patsOK at hk; rw [Bool.and_eq_true] at hk; exact hk.1
    rw [patsR_yes hk] at h
    obtain ⟨t, rfl⟩ := patK_mem h
    refine hasR_sub hp ?_ (subK_isP hp t)
    have := subK_sub p t p.length (Nat.le_refl _)
    rwa [List.take_length] at this
theorem wpl_has {p : List Int} {x : Int} (h : wplOK p x = true) : hasR p (wplR p x) = true := by
  have hp : isP p = true := by unfold wplOK at h; rw [Bool.and_eq_true] at h; exact h.1
  rw [wplR_yes h]
  exact hasR_sub hp (cutAt_sub p _) (cutAt_isP hp _)
theorem wpl_low {p : List Int} {x : Int} (h : wplOK p x = true) : wplR p x ∈ lowR p := by
  have hp : isP p = true := by unfold wplOK at h; rw [Bool.and_eq_true] at h; exact h.1
  have hx : 1 ≤ x ∧ x ≤ (p.length : Int) := by unfold wplOK at h; rw [Bool.and_eq_true] at h; exact of_decide_eq_true h.2
  rw [wplR_yes h, lowR_yes hp]
  unfold lowK
  rw [(foldl_put _ [] List.Pairwise.nil).2.1]
  refine .inr (List.mem_map.2 ⟨x.toNat - 1, List.mem_range.2 (by omega), rfl⟩)
/-! how much it is -/
theorem tot_room (m : Nat) : ∀ l : List (List Int), (∀ z ∈ l, z.length ≤ m) → tot l ≤ m * l.length
  | [], _ => by simp [tot]
  | z :: l, h => by
    have h1 := h z (by simp)
    have h2 := tot_room m l fun y hy => h y (by simp [hy])
    simp only [tot, List.length_cons, List.map_cons, List.sum_cons, Nat.mul_add, Nat.mul_one] at h2 ⊢
    omega
theorem occ_room (p q : List Int) : (occR p q).length ≤ 256 ∧ tot (occR p q) ≤ 2048 := by
  have ht := tot_room 8 (occR p q) fun z hz => by
    obtain ⟨_, h2, h3, _⟩ := isOcc_iff.1 (mem_occ.1 hz)
    have := isP_le h2
    omega
  have hnum := numOcc_rng p q
  have h8 : (occR p q).length ≤ 256 := by
    cases hpp : isP p with
    | false => rw [occR_no (.inl hpp)]; simp
    | true =>
      cases hqq : isP q with
      | false => rw [occR_no (.inr hqq)]; simp
      | true => rw [numOcc_yes hpp hqq] at hnum; omega
  exact ⟨h8, by omega⟩
theorem pats_all {p z : List Int} {k : Int} (h : z ∈ patsR p k) : isP z = true := by
  cases hk : patsOK p k with
  | false => rw [patsR_no hk] at h; cases h
  | true =>
    have hp : isP p = true := by unfold patsOK at hk; rw [Bool.and_eq_true] at hk; exact hk.1
    rw [patsR_yes hk] at h
    exact patK_all hp k _ z h
theorem pats_size (p : List Int) (k : Int) : (patsR p k).length ≤ 256 ∧ tot (patsR p k) ≤ 2048 := by
  have ht := tot_room 8 (patsR p k) fun z hz => isP_le (pats_all hz)
  have h8 : (patsR p k).length ≤ 256 := by
    cases hk : patsOK p k with
    | false => rw [patsR_no hk]; simp
    | true =>
      have hp : isP p = true := by unfold patsOK at hk; rw [Bool.and_eq_true] at hk; exact hk.1
      rw [patsR_yes hk]
      have h1 := patK_len p k (2 ^ p.length)
      have h2 : 2 ^ p.length ≤ 2 ^ 8 := Nat.pow_le_pow_right (by omega) (isP_le hp)
      omega
  exact ⟨h8, by omega⟩
theorem low_all {p z : List Int} (h : z ∈ lowR p) : isP z = true := by
  cases hp : isP p with
  | false => rw [lowR_no hp] at h; cases h
  | true => rw [lowR_yes hp] at h; exact lowK_all hp _ z h
theorem low_size (p : List Int) : (lowR p).length ≤ 8 ∧ tot (lowR p) ≤ 64 := by
  have ht := tot_room 8 (lowR p) fun z hz => isP_le (low_all hz)
  have h8 : (lowR p).length ≤ 8 := by
    cases hp : isP p with
    | false => rw [lowR_no hp]; simp
    | true =>
      rw [lowR_yes hp]
      have h1 := lowK_len p p.length
      have := isP_le hp
      omega
  exact ⟨h8, by omega⟩
theorem occ_is {p q pl : List Int} (h : pl ∈ occR p q) : isOcc p q pl = true := mem_occ.1 h
end Go.Proofs.Ytichenjbkclljaa


/-
  impl.IsOccurrence: the places are one of the occurrences (slices.ContainsFunc, slices.IndexFunc).
-/

namespace Go.Proofs.Ytichenjbkclljaa
set_option maxRecDepth 100000
open Go.RowKit

set_option maxHeartbeats 400000 in
theorem isocc1_any (A A' : Option Addr) (n c B n' c' B' bx : Nat) (z pl : List Int) (b : Bool) (hb : decide (z = pl) = b) (w : World) (h : Arg w B A n c z) (h' : Arg w B' A' n' c' pl) (hx : w.cell? ⟨bx, 0, none⟩ = some (.slice A' n' c')) :
    Calls Try.prog 67 #[.slice A n c, .pointer (some ⟨bx, 0, none⟩)] w fun e w' => e = .returned (.bool b) ∧ Drew w w' := by
  have H1 := hide (eqsl_any A A' n c B n' c' B' z pl b hb w h h')
  clear h h' hb
  go_enter Try.func67, Try.ntmps67
  go_wp2_with fail
  refine (unhide H1).mono ?_
  rintro e w1 ⟨rfl, d1⟩
  clear H1
  go_wp2
  go_ret
  exact ⟨rfl, d1⟩

/-- A number that is not below zero just where the list is there. -/
def IdxOf (w : World) (zss : List (List Int)) (pl : List Int) (e : Ending) (w' : World) : Prop := ∃ z : Int, e = .returned (.int .i64 z) ∧ (decide (0 ≤ z) = decide (pl ∈ zss)) ∧ Drew w w'
set_option maxHeartbeats 1600000 in
theorem idxf_any (A A' : Option Addr) (n c B n' c' B' bx : Nat) (zss : List (List Int)) (pl : List Int) (w : World) (hS : IntsS w B (.slice A n c) zss) (hn : n ≤ 256) (hz : ∀ z ∈ zss, z.length ≤ 1048576 ∧ Small z) (h' : Arg w B' A' n' c' pl) (hx : w.cell? ⟨bx, 0, none⟩ = some (.slice A' n' c')) :
    Calls Try.prog 100 #[.slice A n c, .func (.func 67) #[] #[.pointer (some ⟨bx, 0, none⟩)]] w (IdxOf w zss pl) := by
  have hl := hS.len
  have HS := hide (⟨hS, hz, h', hx⟩ : IntsS w B (.slice A n c) zss ∧ (∀ z ∈ zss, z.length ≤ 1048576 ∧ Small z) ∧ Arg w B' A' n' c' pl ∧ w.cell? ⟨bx, 0, none⟩ = some (.slice A' n' c'))
  have HL := hide hl
  clear hS hz h' hx hl
  go_enter Try.func100, Try.ntmps100
  go_wp2
  go_loopw [5, 8] (fun _ i wr => ∃ k : Nat, k ≤ n ∧ i = .int .i64 k ∧ Drew w wr ∧ Hid (pl ∉ zss.take k)) (fun _ i _ => n - (intOf i).toNat)
  case atStart => exact ⟨0, Nat.zero_le _, rfl, Drew.refl w, by simp [Hid]⟩
  case round =>
    obtain ⟨k, hk, rfl, hd, hno⟩ := hrel
    by_cases hlt : k < n
    · have hb0 := hd.below w.heap.size
      have hSr := (unhide HS).1.below hb0
      obtain ⟨ad, A1, c1, z, rfl, hzk, hcell, hI⟩ := hSr.at_ hlt
      have hz := (unhide HS).2.1 z (List.mem_of_getElem? hzk)
      have hx2 := (hb0.cell (p := ⟨bx, 0, none⟩) (World.block_lt_of_cell? w _ (unhide HS).2.2.2)).trans (unhide HS).2.2.2
      obtain ⟨b, hb⟩ : ∃ b, decide (z = pl) = b := ⟨_, rfl⟩
      have H1 := hide (isocc1_any A1 A' z.length c1 _ n' c' B' bx z pl b hb wr (hI.arg hz.1 hI.cap hz.2) ((unhide HS).2.2.1.below hb0) hx2)
      cases b with
      | true =>
        have hmem : pl ∈ zss := by rw [← of_decide_eq_true hb]; exact List.mem_of_getElem? hzk
        have HM := hide hmem
        clear hSr hI hz hx2 hb0 hb hno hzk hmem
        go_wp2_with fail
        refine (unhide H1).mono ?_
        rintro e w2 ⟨rfl, d2⟩
        have hd2 := hd.trans d2
        clear H1 d2 hd
        go_wp2
        go_ret
        exact ⟨(k : Int), rfl, by rw [decide_eq_true (unhide HM), decide_eq_true (by omega)], hd2⟩
      | false =>
        have hne : ¬ z = pl := of_decide_eq_false hb
        have hno2 := hide (show pl ∉ zss.take (k + 1) by
          rw [List.take_add_one, hzk, List.mem_append, Option.toList_some, List.mem_singleton]
          exact fun h => h.elim (unhide hno) (fun e => hne e.symm))
        clear hSr hI hz hx2 hb0 hb hno hzk hne
        go_wp2_with fail
        refine (unhide H1).mono ?_
        rintro e w2 ⟨rfl, d2⟩
        have hd2 := hd.trans d2
        clear H1 d2 hd
        go_wp2
        go_roundw
        case rel => exact ⟨k + 1, by omega, by go_num, hd2, hno2⟩
        case measure => simp [intOf]; omega
    · obtain rfl : n = k := by omega
      have hno2 : pl ∉ zss := by
        have h := unhide hno
        rwa [List.take_of_length_le (by rw [unhide HL]; exact Nat.le_refl _)] at h
      have HN := hide hno2
      clear hno hno2
      go_wp2
      go_ret
      exact ⟨-1, rfl, by rw [decide_eq_false (unhide HN)]; rfl, hd⟩
theorem contains_any (A A' : Option Addr) (n c B n' c' B' bx : Nat) (zss : List (List Int)) (pl : List Int) (b : Bool) (hb : decide (pl ∈ zss) = b) (w : World) (hS : IntsS w B (.slice A n c) zss) (hn : n ≤ 256) (hz : ∀ z ∈ zss, z.length ≤ 1048576 ∧ Small z) (h' : Arg w B' A' n' c' pl) (hx : w.cell? ⟨bx, 0, none⟩ = some (.slice A' n' c')) :
    Calls Try.prog 66 #[.slice A n c, .func (.func 67) #[] #[.pointer (some ⟨bx, 0, none⟩)]] w fun e w' => e = .returned (.bool b) ∧ Drew w w' := by
  have H1 := hide (idxf_any A A' n c B n' c' B' bx zss pl w hS hn hz h' hx)
  rw [← hb]
  clear hS hz h' hx hb
  go_enter Try.func66, Try.ntmps66
  go_wp2_with fail
  refine (unhide H1).mono ?_
  rintro e w1 ⟨z, rfl, hz, d1⟩
  have HZ := hide hz
  clear H1 hz
  go_wp2
  go_ret
  exact ⟨by rw [← unhide HZ]; rfl, d1⟩

set_option maxHeartbeats 800000 in
theorem iisocc_any (A A' A3 : Option Addr) (n c B n' c' B' n3 c3 B3 : Nat) (p q pl : List Int) (w : World) (h : Arg w B A n c p) (h' : Arg w B' A' n' c' q) (h3 : Arg w B3 A3 n3 c3 pl) :
    Calls Try.prog 22 #[.slice A n c, .slice A' n' c', .slice A3 n3 c3] w (GivesB w (isOcc p q pl)) := by
  have hb0 : Below w.heap.size w (w.alloc (.cells #[.slice A3 n3 c3] 24)) := (Below.refl _ w).alloc (Nat.le_refl _) _
  have hc0 : Boxed (w.alloc (.cells #[.slice A3 n3 c3] 24)) w.heap.size 24 (.slice A3 n3 c3) := Boxed.new w _ _
  have H1 := hide (ioccs_any A A' n c B n' c' B' p q _ (h.below hb0) (h'.below hb0))
  have hmem : decide (pl ∈ occR p q) = isOcc p q pl := by
    cases hi : isOcc p q pl with
    | true => exact decide_eq_true (mem_occ.2 hi)
    | false => exact decide_eq_false fun h => by rw [mem_occ.1 h] at hi; cases hi
  have H2 := hide (show ∀ (w1 : World) (A4 : Option Addr) (c4 : Nat), IntsS w1 (w.alloc (.cells #[.slice A3 n3 c3] 24)).heap.size (.slice A4 (occR p q).length c4) (occR p q) → Below (w.alloc (.cells #[.slice A3 n3 c3] 24)).heap.size (w.alloc (.cells #[.slice A3 n3 c3] 24)) w1 → _ from fun w1 A4 c4 hS d =>
    contains_any A4 A3 _ c4 _ n3 c3 B3 w.heap.size (occR p q) pl (isOcc p q pl) hmem w1 hS (occ_room p q).1 (fun z hz => by
      have h1 := isOcc_iff.1 (mem_occ.1 hz)
      have h2 := plOK_le h1.2.2.2.1
      have h3 := isP_le h1.1
      exact ⟨by omega, fun x hx => by have := h1.2.2.2.1.1 x hx; omega⟩) (h3.below (below_after hb0 d)) (Boxed.cell (boxed_later hc0 d)))
  clear h h' h3 hmem
  go_enter Try.func22, Try.ntmps22
  go_wp2_with fail
  refine (unhide H1).mono ?_
  rintro e w1 ⟨A4, c4, rfl, o4, d4⟩
  have H3 := hide (unhide H2 w1 A4 c4 o4 d4)
  have d := below_after hb0 d4
  clear H1 H2 o4 d4 hb0 hc0
  go_wp2_with fail
  refine (unhide H3).mono ?_
  rintro e w2 ⟨rfl, d2⟩
  have d5 := below_after d (d2.below _)
  clear H3 d2 d
  go_wp2
  go_ret
  exact ⟨rfl, d5⟩
end Go.Proofs.Ytichenjbkclljaa


/-
  slices.SortFunc over rows of rows, under impl.comparePerms.
-/

namespace Go.Proofs.Ytichenjbkclljaa
set_option maxRecDepth 100000
open Go.RowKit

/-! rows, each with what it holds -/
abbrev Pr := Value × List Int
structure RowPrs (w : World) (B : Nat) (xs : List Pr) : Prop where
  row : ∀ q ∈ xs, Ints w B q.1 q.2
  away : xs.Pairwise fun a b => Away a.1 b.1
theorem RowPrs.inner {w : World} {B : Nat} {xs : List Pr} (h : RowPrs w B xs) : Inner w B (xs.map (·.1)) (xs.map (·.2)) := by
  refine ⟨by simp, fun i u zs hu hz => ?_, ?_⟩
  · rw [List.getElem?_map] at hu hz
    cases hq : xs[i]? with
    | none => rw [hq] at hu; cases hu
    | some q =>
      rw [hq] at hu hz
      cases hu; cases hz
      exact h.row q (List.mem_of_getElem? hq)
  · rw [List.pairwise_map]
    exact h.away
theorem Inner.prs {w : World} {B : Nat} {vs : List Value} {zss : List (List Int)} (h : Inner w B vs zss) : ∃ xs : List Pr, xs.map (·.1) = vs ∧ xs.map (·.2) = zss ∧ RowPrs w B xs := by
  have h1 : (vs.zip zss).map (·.1) = vs := List.map_fst_zip (by rw [h.len]; exact Nat.le_refl _)
  have h2 : (vs.zip zss).map (·.2) = zss := List.map_snd_zip (by rw [h.len]; exact Nat.le_refl _)
  refine ⟨vs.zip zss, h1, h2, fun q hq => ?_, ?_⟩
  · obtain ⟨i, hi, rfl⟩ := List.getElem_of_mem hq
    rw [List.length_zip] at hi
    exact h.row i _ _ (by rw [List.getElem_zip]; exact List.getElem?_eq_getElem (by omega)) (by rw [List.getElem_zip]; exact List.getElem?_eq_getElem (by omega))
  · have := h.away
    rw [← h1, List.pairwise_map] at this
    exact this
theorem RowPrs.sub {w : World} {B : Nat} {xs ys : List Pr} (h : RowPrs w B xs) (hs : ys.Sublist xs) : RowPrs w B ys := ⟨fun q hq => h.row q (hs.subset hq), h.away.sublist hs⟩
theorem RowPrs.perm {w : World} {B : Nat} {xs ys : List Pr} (h : RowPrs w B xs) (hp : ys.Perm xs) : RowPrs w B ys :=
  ⟨fun q hq => h.row q (hp.subset hq), (hp.pairwise_iff (fun {_ _} h => h.symm)).2 h.away⟩
theorem RowPrs.keepI {w w' : World} {B : Nat} {xs : List Pr} (h : RowPrs w B xs) (hk : KeepI w w') : RowPrs w' B xs := ⟨fun q hq => (h.row q hq).keepI hk, h.away⟩

/-! the sort -/
structure El (w : World) (B : Nat) where
  q : Pr
  row : Ints w B q.1 q.2
  perm : isP q.2 = true
def El.enc {w : World} {B : Nat} (x : El w B) : Value := x.q.1
def El.cf {w : World} {B : Nat} (x y : El w B) : Int := cmpV x.q.2 y.q.2
theorem els {w : World} {B : Nat} : ∀ xs : List Pr, (∀ q ∈ xs, Ints w B q.1 q.2 ∧ isP q.2 = true) → ∃ ds : List (El w B), ds.map (·.q) = xs
  | [], _ => ⟨[], rfl⟩
  | q :: xs, h => by
    obtain ⟨ds, hd⟩ := els xs fun q hq => h q (by simp [hq])
    exact ⟨⟨q, (h q (by simp)).1, (h q (by simp)).2⟩ :: ds, by rw [List.map_cons, hd]⟩
theorem El.one {w : World} {B : Nat} : OneCell (El.enc (w := w) (B := B)) := fun x => by
  obtain ⟨A, c, h⟩ := x.row.slice
  unfold El.enc
  rw [h]; rfl
theorem El.swo {w : World} {B : Nat} : Sort.SWO (ltOf (El.cf (w := w) (B := B))) where
  irrefl x := by unfold ltOf El.cf; rw [cmpV_befL]; exact befL_irrefl _
  trans x y z h1 h2 := by unfold ltOf El.cf at *; rw [cmpV_befL] at *; exact befL_trans h1 h2
  ntrans x y z h1 h2 := by
    unfold ltOf El.cf at *
    rw [cmpV_befL] at *
    cases h3 : befL x.q.2 z.q.2 with
    | false => rfl
    | true =>
      have h4 := befL_le_lt h1 h3
      rw [h2] at h4; cases h4
theorem take_put {α : Type} [Inhabited α] (enc : α → Value) (cur : Array Value) (d : Array α) (h : d.size ≤ cur.size) : (Sort.putCells enc 0 d cur).toList.take d.size = d.toList.map enc := by
  apply List.ext_getElem?
  intro j
  by_cases hj : j < d.size
  · rw [List.getElem?_take_of_lt hj, Array.getElem?_toList]
    simp [Sort.putCells, hj, show j < cur.size by omega]
  · rw [List.getElem?_take_eq_none (by omega), List.getElem?_eq_none (by simp; omega)]
theorem heap_put {α : Type} [Inhabited α] (enc : α → Value) {w : World} {g m : Nat} {os : Array Obj} {cur : Array Value} {e : TypeId} {fr : Nat × Nat} (d : Array α) (hb : w.heap[g]? = some (.cells cur e fr)) :
    (sortWorld enc w g 0 m d os).heap[g]? = some (.cells (Sort.putCells enc 0 d cur) e fr) := by
  have hg : g < w.heap.size := (Array.getElem?_eq_some_iff.1 hb).1
  unfold sortWorld
  rw [Sort.heap_grow_old _ _ (by simpa using hg)]
  simp [Sort.putRow, Sort.mapBlock, Sort.ahead, Array.getElem?_modify, hb, Sort.onCells]
theorem heap_far {α : Type} [Inhabited α] (enc : α → Value) {w : World} {g m : Nat} {os : Array Obj} (d : Array α) {i : Nat} (hi : i < w.heap.size) (hne : g ≠ i) : (sortWorld enc w g 0 m d os).heap[i]? = w.heap[i]? := by
  unfold sortWorld
  rw [Sort.heap_grow_old _ _ (by simpa using hi)]
  simp [Sort.putRow, Sort.mapBlock, Sort.ahead, Array.getElem?_modify, hne]
theorem size_sorted {α : Type} [Inhabited α] (enc : α → Value) (w : World) (g m : Nat) (os : Array Obj) (d : Array α) : w.heap.size ≤ (sortWorld enc w g 0 m d os).heap.size := by unfold sortWorld; simp
theorem grown_sorted {α : Type} [Inhabited α] (enc : α → Value) (w : World) (g m : Nat) (os : Array Obj) (d : Array α) : w.grownBy (sortWorld enc w g 0 m d os) (some g) :=
  ⟨rfl, rfl, rfl, size_sorted enc w g m os d, fun _ hk hne => heap_far enc d hk fun e => hne (by rw [e])⟩
theorem own_sorted {α : Type} [Inhabited α] (enc : α → Value) {w : World} {B g n cap m : Nat} {e : TypeId} {os : Array Obj} {xs : List Value} (d : Array α) (hd : d.size = n) (h : w.ownsRow B e 1 (.slice (some ⟨g, 0, none⟩) n cap) n xs) :
    (sortWorld enc w g 0 m d os).ownsRow B e 1 (.slice (some ⟨g, 0, none⟩) n cap) n (d.toList.map enc) := by
  refine ⟨by simp [hd], ?_⟩
  rcases h.2 with ⟨hv, _⟩ | ⟨g', cap', cur, hv, hb, hg, hnc, hc, hsz, ht⟩
  · cases hv
  · injection hv with h1 h2 h3
    injection h1 with h1
    injection h1 with h1
    subst h1; subst h3
    exact .inr ⟨g, cap, _, rfl, hb, heap_put enc d hg, hnc, hc, by simpa [Sort.putCells] using hsz, by rw [Nat.mul_one, ← hd]; exact take_put enc cur d (by omega)⟩
theorem holds_own {α : Type} [Inhabited α] (enc : α → Value) {w : World} {B g n cap : Nat} {e : TypeId} (ds : List α) (h : w.ownsRow B e 1 (.slice (some ⟨g, 0, none⟩) n cap) n (ds.map enc)) : Sort.Holds enc w g 0 ds.toArray := by
  have hl : ds.length = n := by simpa using h.1
  intro j hj
  have hj' : j < ds.length := by simpa using hj
  refine ⟨?_, by rw [Nat.zero_add]; exact h.frozenAt j⟩
  rw [Nat.zero_add, h.cellAt j (by omega)]
  simp [hj']

/-- A row of rows, sorted: the same rows, in order. -/
def Sorted (w : World) (B g n cap : Nat) (xs : List Pr) (e : Ending) (w' : World) : Prop :=
  e = .returned (.tuple #[]) ∧ ∃ ys : List Pr, ys.Perm xs ∧ (∀ (i j : Nat) (x y : Pr), i < j → ys[i]? = some x → ys[j]? = some y → befL y.2 x.2 = false) ∧
    w'.ownsRow B 24 1 (.slice (some ⟨g, 0, none⟩) n cap) n (ys.map (·.1)) ∧ w.grownBy w' (some g)
theorem sort_any (w : World) (B g n cap : Nat) (xs : List Pr) (hown : w.ownsRow B 24 1 (.slice (some ⟨g, 0, none⟩) n cap) n (xs.map (·.1))) (hx : RowPrs w B xs) (hP : ∀ q ∈ xs, isP q.2 = true) (hn : n ≤ 1048576) :
    Calls Try.prog 94 #[.slice (some ⟨g, 0, none⟩) n cap, .func (.func 95) #[] #[]] w (Sorted w B g n cap xs) := by
  have hl : xs.length = n := by simpa using hown.1
  cases xs with
  | nil =>
    obtain rfl : n = 0 := by simpa using hl.symm
    refine (Try.slices_SortFunc_none (α := Unit) _ _ _ w).mono ?_
    rintro e w' ⟨rfl, rfl⟩
    exact ⟨rfl, [], List.Perm.refl _, fun i j x y _ h => by simp at h, hown, World.grownBy.refl _ _⟩
  | cons q xs =>
    obtain ⟨ds, hds⟩ := els (q :: xs) fun p hp => ⟨hx.row p hp, hP p hp⟩
    have hq := hx.row q (by simp)
    have hqP := hP q (by simp)
    letI : Inhabited (El w B) := ⟨⟨q, hq, hqP⟩⟩
    have henc : ds.map El.enc = (q :: xs).map (·.1) := by rw [← hds, List.map_map]; rfl
    have hdl : ds.length = n := by rw [← hl, ← hds, List.length_map]
    have hg := (hown.lt g rfl).2
    have eg : ∀ args w, (callFunc 95 args).run Try.prog w = .ok (.enter 95 args) w := enters_of Try.func95 (by kernel_rfl) rfl
    have hcmp : CmpLays1 Try.prog 95 #[] (El.enc (w := w) (B := B)) El.cf g 0 ds.toArray.size w := fun m os dk hs x y => by
      have hk : KeepI w (sortWorld El.enc w g 0 m dk os) := by
        have hgr := grown_sorted (El.enc (w := w) (B := B)) w g m os dk
        exact KeepI.of_grown hown hgr
      obtain ⟨A1, c1, h1⟩ := x.row.slice
      obtain ⟨A2, c2, h2⟩ := y.row.slice
      have i1 := x.row.keepI hk
      have i2 := y.row.keepI hk
      show Calls _ _ #[x.q.1, y.q.1] _ _
      rw [h1] at i1 ⊢
      rw [h2] at i2 ⊢
      exact comparePerms_any A1 A2 _ c1 _ _ c2 _ x.q.2 y.q.2 _ (i1.argP x.perm) (i2.argP y.perm)
    have hcon := Try.slices_SortFunc (El.enc (w := w) (B := B)) El.one El.cf El.swo 95 #[] g 0 cap ds.toArray w eg hcmp (holds_own El.enc ds (by rw [henc]; exact hown)) hg (by simp; omega)
    rw [show ds.toArray.size = n by simpa using hdl] at hcon
    refine hcon.mono ?_
    rintro e w' ⟨rfl, d', m, os, hp, hs, rfl⟩
    obtain ⟨p1, _, p3⟩ := hp
    have hd' : d'.size = n := by rw [p1]; simpa using hdl
    have hperm : d'.toList.Perm ds := by
      have h1 : d'.extract 0 n = d' := by rw [← hd']; simp
      have h2 : ds.toArray.extract 0 n = ds.toArray := by rw [← hdl]; simp
      rw [h1, h2] at p3
      simpa using p3
    refine ⟨rfl, d'.toList.map (·.q), by rw [← hds]; exact hperm.map _, fun i j x y hij hi hj => ?_, ?_, grown_sorted _ _ _ _ _ _⟩
    · rw [List.getElem?_map] at hi hj
      have hjn : j < n := by
        cases hq : d'.toList[j]? with
        | none => rw [hq] at hj; cases hj
        | some u => have := (List.getElem?_eq_some_iff.1 hq).1; simpa [hd'] using this
      have := hs i j (Nat.zero_le _) hij hjn
      unfold ltOf El.cf at this
      rw [cmpV_befL] at this
      rw [getElem!_pos d' i (by omega), getElem!_pos d' j (by omega)] at this
      rw [List.getElem?_eq_getElem (by simp; omega)] at hi hj
      simp at hi hj
      subst hi; subst hj
      exact this
    · rw [List.map_map]
      exact own_sorted El.enc d' hd' hown
end Go.Proofs.Ytichenjbkclljaa


/-
  slices.CompactFunc over rows of rows, under slices.Equal.
-/

namespace Go.Proofs.Ytichenjbkclljaa
set_option maxRecDepth 100000
open Go.RowKit

/-! plain -/
theorem keepN_le {α : Type} {f : α → List Int} (xs : List α) (k : Nat) : (keepN f xs k).length ≤ k := by
  have h := (keepN_sub (f := f) xs k).length_le
  rw [List.length_take] at h
  omega
/-- The cells in the midst of the work: what was kept, then what stood there. -/
def midV (xs : List Pr) (j : Nat) : List Value := (keepN (·.2) xs j).map (·.1) ++ (xs.map (·.1)).drop (keepN (·.2) xs j).length
theorem midV_len {xs : List Pr} {j : Nat} (h : j ≤ xs.length) : (midV xs j).length = xs.length := by
  have := keepN_le (f := fun q : Pr => q.2) xs j
  unfold midV
  rw [List.length_append, List.length_drop, List.length_map, List.length_map]
  omega
theorem midV_at {xs : List Pr} {j i : Nat} {q : Pr} (h : (keepN (·.2) xs j).length ≤ i) (hq : xs[i]? = some q) : (midV xs j)[i]? = some q.1 := by
  unfold midV
  rw [List.getElem?_append_right (by rw [List.length_map]; exact h), List.length_map, List.getElem?_drop, show (keepN (·.2) xs j).length + (i - (keepN (·.2) xs j).length) = i by omega, List.getElem?_map, hq]
  rfl
theorem midV_same {xs : List Pr} {k : Nat} {x y : Pr} (h : xs[k]? = some x) (hk : 0 < k) (hy : xs[k - 1]? = some y) (he : y.2 = x.2) : midV xs (k + 1) = midV xs k := by
  unfold midV
  rw [keepN_same (f := fun q : Pr => q.2) h hk hy he]
theorem midV_new {xs : List Pr} {k : Nat} {x y : Pr} (h : xs[k]? = some x) (hy : xs[k - 1]? = some y) (he : y.2 ≠ x.2) : midV xs (k + 1) = (midV xs k).set (keepN (·.2) xs k).length x.1 := by
  have hk : k < xs.length := (List.getElem?_eq_some_iff.1 h).1
  have hle := keepN_le (f := fun q : Pr => q.2) xs k
  unfold midV
  rw [keepN_new (f := fun q : Pr => q.2) h hy he, List.map_append, List.length_append, List.length_singleton, List.map_singleton]
  rw [List.set_append_right _ _ (by rw [List.length_map]; exact Nat.le_refl _), List.length_map, Nat.sub_self]
  rw [List.drop_eq_getElem_cons (show (keepN (fun q : Pr => q.2) xs k).length < (xs.map (·.1)).length by rw [List.length_map]; omega), List.set_cons_zero]
  simp
theorem keepN_all {xs : List Pr} {k : Nat} {x y : Pr} (h : keepN (·.2) xs k = xs.take k) (hx : xs[k]? = some x) (hy : xs[k - 1]? = some y) (he : y.2 ≠ x.2) : keepN (·.2) xs (k + 1) = xs.take (k + 1) := by
  rw [keepN_new (f := fun q : Pr => q.2) hx hy he, h, List.take_add_one, hx]
  rfl
theorem keepN_first {xs : List Pr} (h : 0 < xs.length) : keepN (·.2) xs 1 = xs.take 1 := by
  rw [keepN_one (List.getElem?_eq_getElem h), List.take_add_one, List.getElem?_eq_getElem h]
  rfl
theorem midV_take {xs : List Pr} {k : Nat} (h : keepN (·.2) xs k = xs.take k) : midV xs k = xs.map (·.1) := by
  unfold midV
  rw [h, List.length_take]
  by_cases hk : k ≤ xs.length
  · rw [Nat.min_eq_left hk, List.map_take, List.take_append_drop]
  · rw [Nat.min_eq_right (by omega), List.take_of_length_le (by omega), List.drop_of_length_le (by rw [List.length_map]; exact Nat.le_refl _), List.append_nil]

/-! memory -/
theorem own_cells {B g n cap : Nat} {e : TypeId} : ∀ (vs : List Value) (o : Nat) (w : World) (xs : List Value), w.ownsRow B e 1 (.slice (some ⟨g, 0, none⟩) n cap) n xs →
    ∃ ys, (w.setCells g o vs).ownsRow B e 1 (.slice (some ⟨g, 0, none⟩) n cap) n ys ∧ ys.take o = xs.take o ∧ w.grownBy (w.setCells g o vs) (some g)
  | [], o, w, xs, h => ⟨xs, h, rfl, World.grownBy.refl _ _⟩
  | v :: vs, o, w, xs, h => by
    have h1 := h.stored o v
    obtain ⟨ys, h2, h3, h4⟩ := own_cells vs (o + 1) _ _ h1.1
    refine ⟨ys, h2, ?_, grown_then h1.2 h4⟩
    have := congrArg (List.take o) h3
    rw [List.take_take, List.take_take, Nat.min_eq_left (by omega)] at this
    rw [this, List.take_set_of_le (Nat.le_refl _)]
theorem Arg.drewN {w : World} {B n c : Nat} {A : Option Addr} {zs : List Int} (h : Arg w B A n c zs) (k : Nat) : Arg (w.drewN k) B A n c zs := ⟨h.reads.drewN k, h.under, h.le, h.cap, h.small, h.nil⟩
theorem decide_same {p q : List Int} (h : decide (p = q) = true) : q = p := (of_decide_eq_true h).symm
theorem decide_diff {p q : List Int} (h : decide (p = q) = false) : q ≠ p := fun e => of_decide_eq_false h e.symm
/-- Where a row stands in the midst of CompactFunc. -/
structure Mid (w wr : World) (B g n cap : Nat) (xs : List Pr) (j : Nat) : Prop where
  own : wr.ownsRow B 24 1 (.slice (some ⟨g, 0, none⟩) n cap) n (midV xs j)
  grown : w.grownBy wr (some g)
theorem Mid.cell {w wr : World} {B g n cap j i : Nat} {xs : List Pr} {q : Pr} (h : Mid w wr B g n cap xs j) (hi : (keepN (·.2) xs j).length ≤ i) (hn : i < n) (hq : xs[i]? = some q) : wr.cell? ⟨g, i, none⟩ = some q.1 := by
  rw [h.own.cellAt i (by omega)]
  exact midV_at hi hq
theorem Mid.drewN {w wr : World} {B g n cap j : Nat} {xs : List Pr} (h : Mid w wr B g n cap xs j) (k : Nat) : Mid w (wr.drewN k) B g n cap xs j := ⟨own_below h.own ((Drew.refl wr).more k |>.below _), grown_then h.grown (grown_of_below ((Drew.refl wr).more k |>.below _) _)⟩

def Compacted (w : World) (B g cap : Nat) (xs : List Pr) (e : Ending) (w' : World) : Prop :=
  e = .returned (.slice (some ⟨g, 0, none⟩) (keepN (·.2) xs xs.length).length cap) ∧ w'.ownsRow B 24 1 (.slice (some ⟨g, 0, none⟩) (keepN (·.2) xs xs.length).length cap) (keepN (·.2) xs xs.length).length ((keepN (·.2) xs xs.length).map (·.1)) ∧ w.grownBy w' (some g)

set_option maxHeartbeats 1600000 in
theorem compact_any (w : World) (B g n cap : Nat) (xs : List Pr) (hown : w.ownsRow B 24 1 (.slice (some ⟨g, 0, none⟩) n cap) n (xs.map (·.1))) (hx : RowPrs w B xs) (hP : ∀ q ∈ xs, isP q.2 = true) (hn : n ≤ 1048576) (hnc : n ≤ cap) :
    Calls Try.prog 96 #[.slice (some ⟨g, 0, none⟩) n cap, .func (.func 68) #[] #[]] w (Compacted w B g cap xs) := by
  have hl : xs.length = n := by simpa using hown.1
  by_cases h2 : n < 2
  · have hk : keepN (·.2) xs xs.length = xs := by
      rw [hl]
      by_cases h0 : n = 0
      · subst h0
        obtain rfl := List.eq_nil_of_length_eq_zero hl
        rfl
      · obtain rfl : n = 1 := by omega
        rw [keepN_first (by omega), List.take_of_length_le (by omega)]
    have hfin : Compacted w B g cap xs (.returned (.slice (some ⟨g, 0, none⟩) n cap)) w := by
      unfold Compacted
      rw [hk, hl]
      exact ⟨rfl, hown, World.grownBy.refl _ _⟩
    clear hk hown hx hP
    go_enter Try.func96, Try.ntmps96
    go_wp2
    go_ret
    exact hfin
  · have HL := hide hl
    have HX := hide hx
    have HP := hide hP
    have hstart : Mid w w B g n cap xs 1 := ⟨by rw [midV_take (keepN_first (by omega))]; exact hown, World.grownBy.refl _ _⟩
    have HOWN := hide hown
    clear hl hx hP hown
    go_enter Try.func96, Try.ntmps96
    go_wp2
    go_loopw [5] (fun i wr => ∃ k : Nat, 1 ≤ k ∧ k ≤ n ∧ i = .int .i64 k ∧ Mid w wr B g n cap xs k ∧ Hid (keepN (·.2) xs k = xs.take k)) (fun i _ => n - (intOf i).toNat)
    case atStart => exact ⟨1, Nat.le_refl _, by omega, rfl, hstart, by exact keepN_first (by rw [unhide HL]; omega)⟩
    case round =>
      obtain ⟨k, hk1, hk, rfl, hM, hKeep⟩ := hrel
      clear hstart
      by_cases hlt : k < n
      · obtain ⟨j, rfl⟩ : ∃ j, k = j + 1 := ⟨k - 1, by omega⟩
        have hkl := keepN_le (f := fun q : Pr => q.2) xs (j + 1)
        have hkj : (keepN (·.2) xs (j + 1)).length = j + 1 := by rw [unhide hKeep, List.length_take, unhide HL]; omega
        have hqx : xs[j + 1]? = some (xs[j + 1]'(by rw [unhide HL]; exact hlt)) := List.getElem?_eq_getElem _
        have hqy : xs[j]? = some (xs[j]'(by rw [unhide HL]; omega)) := List.getElem?_eq_getElem _
        generalize xs[j + 1]'(by rw [unhide HL]; exact hlt) = x at hqx
        generalize xs[j]'(by rw [unhide HL]; omega) = y at hqy
        obtain ⟨vx, px⟩ := x
        obtain ⟨vy, py⟩ := y
        have hmv := midV_take (unhide hKeep)
        have hcx : wr.cell? ⟨g, j + 1, none⟩ = some vx := by rw [hM.own.cellAt (j + 1) (by omega), hmv, List.getElem?_map, hqx]; rfl
        have hcy : wr.cell? ⟨g, j, none⟩ = some vy := by rw [hM.own.cellAt j (by omega), hmv, List.getElem?_map, hqy]; rfl
        have hkI : KeepI w wr := by
          have h0 := KeepI.of_grown (w' := wr) (v := .slice (some ⟨g, 0, none⟩) n cap) (unhide HOWN) hM.grown
          exact h0
        have ix : Ints wr B vx px := ((unhide HX).row _ (List.mem_of_getElem? hqx)).keepI hkI
        have iy : Ints wr B vy py := ((unhide HX).row _ (List.mem_of_getElem? hqy)).keepI hkI
        have hxP : isP px = true := unhide HP _ (List.mem_of_getElem? hqx)
        have hyP : isP py = true := unhide HP _ (List.mem_of_getElem? hqy)
        obtain ⟨A1, c1, rfl⟩ := ix.slice
        obtain ⟨A2, c2, rfl⟩ := iy.slice
        obtain ⟨b, hb⟩ : ∃ b, decide (px = py) = b := ⟨_, rfl⟩
        have HE := hide (fun k => eqsl_any A1 A2 _ c1 _ _ c2 _ px py b hb (wr.drewN k) ((ix.argP hxP).drewN k) ((iy.argP hyP).drewN k))
        have HM := hide hM
        have HC := hide (And.intro hqx hqy)
        have HKJ := hide hkj
        have HMV := hide hmv
        clear hM hmv hkI ix iy hxP hyP hkl hkj hqx hqy
        have hbd0 : (0 : Int) ≤ (j : Int) + 1 := by omega
        have hbd1 : (j : Int) + 1 < (n : Int) := by omega
        have hbd2 : (j : Int) < (n : Int) := by omega
        have hwj : IntKind.i64.wrap (j : Int) = (j : Int) := by rw [IntKind.wrap_i64]; omega
        cases b with
        | false =>
          have hnext := hide (keepN_all (unhide hKeep) (unhide HC).1 (unhide HC).2 (decide_diff hb))
          clear hb hKeep
          go_wp2
          go_quiet ((go_at_call 68; exact Calls.quiet_of (unhide HE _)))
          go_wp2
          go_roundw
          case rel => exact ⟨j + 1 + 1, by omega, by omega, by go_num, ⟨by rw [(midV_take (unhide hnext)).trans (unhide HMV).symm]; exact ((unhide HM).drewN nq).own, ((unhide HM).drewN _).grown⟩, hnext⟩
          case measure => simp [intOf]; omega
        | true =>
          have hsm := decide_same hb
          have hkn := keepN_same (f := fun q : Pr => q.2) (unhide HC).1 (by omega) (unhide HC).2 hsm
          have hmn := midV_same (unhide HC).1 (by omega) (unhide HC).2 hsm
          have HK2 := hide (show (keepN (·.2) xs (j + 1 + 1)).length = j + 1 from (congrArg List.length hkn).trans (unhide HKJ))
          have HM2 := hide (fun k => (show Mid w (wr.drewN k) B g n cap xs (j + 1 + 1) from ⟨by rw [hmn]; exact ((unhide HM).drewN k).own, ((unhide HM).drewN k).grown⟩))
          have hcne : ¬ cap = j + 1 := by omega
          clear hb hKeep hsm hkn hmn HM HMV
          go_wp2
          go_quiet ((go_at_call 68; exact Calls.quiet_of (unhide HE _)))
          go_wp2
          obtain ⟨W, hW⟩ : ∃ W, W = wr.drewN nq := ⟨_, rfl⟩
          have HM3 : Mid w W B g n cap xs (j + 1 + 1) := by rw [hW]; exact unhide HM2 nq
          rw [← hW]
          clear HM2 HE HC hcx hcy hW
          rw [show ((j + 1 : Nat) : Int) = (j : Int) + 1 by omega]
          go_loopw [5, 7] (fun kv iv wr2 => ∃ k2 m : Nat, 1 ≤ k2 ∧ j + 1 + k2 ≤ n ∧ m < j + 1 + k2 ∧ kv = .int .i64 m ∧ iv = .int .i64 k2 ∧ Mid w wr2 B g n cap xs (j + 1 + k2) ∧ Hid ((keepN (·.2) xs (j + 1 + k2)).length = m)) (fun _ iv _ => n - (intOf iv).toNat)
          case atStart => exact ⟨1, j + 1, Nat.le_refl _, by omega, by omega, by go_num, by go_num, HM3, HK2⟩
          case round =>
            obtain ⟨k2, m, hk21, hk2n, hmk, rfl, rfl, hM, hm⟩ := hrel
            clear HM3 HK2
            by_cases hlt2 : j + 1 + k2 < n
            · obtain ⟨i, rfl⟩ : ∃ i, k2 = i + 1 := ⟨k2 - 1, by omega⟩
              obtain ⟨q, hq⟩ : ∃ q, q = j + 1 + i := ⟨_, rfl⟩
              have hq1 : j + 1 + (i + 1) = q + 1 := by omega
              rw [hq1] at hM hm
              have hqx : xs[q + 1]? = some (xs[q + 1]'(by rw [unhide HL]; omega)) := List.getElem?_eq_getElem _
              have hqy : xs[q]? = some (xs[q]'(by rw [unhide HL]; omega)) := List.getElem?_eq_getElem _
              generalize xs[q + 1]'(by rw [unhide HL]; omega) = x at hqx
              generalize xs[q]'(by rw [unhide HL]; omega) = y at hqy
              obtain ⟨vx, px⟩ := x
              obtain ⟨vy, py⟩ := y
              have hcx := hM.cell (by rw [unhide hm]; omega) (by omega) hqx
              have hcy := hM.cell (by rw [unhide hm]; omega) (by omega) hqy
              rw [show q + 1 = j + 1 + (i + 1) by omega] at hcx
              rw [hq] at hcy
              have hkI : KeepI w wr := KeepI.of_grown (w' := wr) (v := .slice (some ⟨g, 0, none⟩) n cap) (unhide HOWN) hM.grown
              have ix : Ints wr B vx px := ((unhide HX).row _ (List.mem_of_getElem? hqx)).keepI hkI
              have iy : Ints wr B vy py := ((unhide HX).row _ (List.mem_of_getElem? hqy)).keepI hkI
              have hxP : isP px = true := unhide HP _ (List.mem_of_getElem? hqx)
              have hyP : isP py = true := unhide HP _ (List.mem_of_getElem? hqy)
              obtain ⟨A1, c1, rfl⟩ := ix.slice
              obtain ⟨A2, c2, rfl⟩ := iy.slice
              obtain ⟨b, hb⟩ : ∃ b, decide (px = py) = b := ⟨_, rfl⟩
              have HE := hide (fun k => eqsl_any A1 A2 _ c1 _ _ c2 _ px py b hb (wr.drewN k) ((ix.argP hxP).drewN k) ((iy.argP hyP).drewN k))
              have HM := hide hM
              have HC := hide (And.intro hqx hqy)
              have HQ2 : Hid (j + 1 + (i + 1 + 1) = q + 1 + 1) := (by omega : j + 1 + (i + 1 + 1) = q + 1 + 1)
              have HQ := hide hq
              clear hM hkI ix iy hxP hyP hqx hqy hq hq1
              have hbi0 : (0 : Int) ≤ (i : Int) + 1 := by omega
              have hbi1 : (i : Int) + 1 < ((n - (j + 1) : Nat) : Int) := by omega
              have hbi2 : (i : Int) < ((n - (j + 1) : Nat) : Int) := by omega
              have hwi : IntKind.i64.wrap (i : Int) = (i : Int) := by rw [IntKind.wrap_i64]; omega
              cases b with
              | true =>
                have hsm := decide_same hb
                have hkn := keepN_same (f := fun q : Pr => q.2) (unhide HC).1 (by omega) (unhide HC).2 hsm
                have hmn := midV_same (unhide HC).1 (by omega) (unhide HC).2 hsm
                have HK2 := hide ((congrArg List.length hkn).trans (unhide hm))
                have HM2 := hide (fun k => (show Mid w (wr.drewN k) B g n cap xs (q + 1 + 1) from ⟨by rw [hmn]; exact ((unhide HM).drewN k).own, ((unhide HM).drewN k).grown⟩))
                clear hb hsm hkn hmn HM hm
                go_wp2
                go_quiet ((go_at_call 68; exact Calls.quiet_of (unhide HE _)))
                go_wp2
                go_roundw
                case rel => exact ⟨i + 1 + 1, m, by omega, by omega, by omega, rfl, by go_num, by rw [unhide HQ2]; exact unhide HM2 _, by rw [unhide HQ2]; exact HK2⟩
                case measure => simp [intOf]; omega
              | false =>
                have hmn := midV_new (unhide HC).1 (unhide HC).2 (decide_diff hb)
                have hkn := keepN_new (f := fun q : Pr => q.2) (unhide HC).1 (unhide HC).2 (decide_diff hb)
                have HK2 : Hid ((keepN (·.2) xs (q + 1 + 1)).length = m + 1) := hide (by
                  have := congrArg List.length hkn
                  rw [List.length_append, List.length_singleton, unhide hm] at this
                  exact this)
                have hmn2 : n - m ≠ 0 := by omega
                obtain ⟨old, hold⟩ : ∃ old, wr.cell? ⟨g, m, none⟩ = some old := ⟨_, by rw [(unhide HM).own.cellAt m (by omega)]; exact List.getElem?_eq_getElem (by rw [midV_len (by rw [unhide HL]; have := unhide HQ; omega), unhide HL]; omega)⟩
                have hfz := (unhide HM).own.frozenAt m
                have HM2 := hide (fun k => (show Mid w ((wr.drewN k).setCell ⟨g, m, none⟩ (.slice A1 px.length c1)) B g n cap xs (q + 1 + 1) from ⟨by
                  rw [hmn, unhide hm]
                  exact (((unhide HM).drewN k).own.stored m _).1, grown_then ((unhide HM).drewN k).grown (((unhide HM).drewN k).own.stored m _).2⟩))
                have hbm0 : (m : Int) < (n : Int) := by omega
                clear hb hkn hmn HM hm
                go_wp2
                go_quiet ((go_at_call 68; exact Calls.quiet_of (unhide HE _)))
                go_wp2
                go_roundw
                case rel => exact ⟨i + 1 + 1, m + 1, by omega, by omega, by omega, by go_num, by go_num, by rw [unhide HQ2]; exact unhide HM2 _, by rw [unhide HQ2]; exact HK2⟩
                case measure => simp [intOf]; omega
            · have hend : j + 1 + k2 = n := by omega
              rw [hend] at hM hm
              have hmn : m < n := by omega
              have hmc : ¬ cap = m := by omega
              have hbm0 : (m : Int) ≤ (cap : Int) := by omega
              have hbm1 : (m : Int) ≤ (n : Int) := by omega
              have hcl : ∀ ty, (Builtin.clear_ #[27] ty #[.slice (some ⟨g, m, none⟩) (n - m) (cap - m)]).run Try.prog wr = .ok (.tuple #[]) (wr.setCells g m (List.replicate (n - m) (.slice none 0 0))) :=
                fun ty => Lib.run_clear_slice wr _ _ ty _ Try.underlying27 Try.zeroValue24 rfl rfl g m _ _ (by omega) (fun i hi => by rw [hM.own.cellAt (m + i) (by omega), List.getElem?_eq_getElem (by rw [midV_len (by rw [unhide HL]; exact Nat.le_refl _), unhide HL]; omega)]; rfl) (fun i _ => hM.own.frozenAt (m + i))
              obtain ⟨ys, o1, o2, o3⟩ := own_cells (List.replicate (n - m) (.slice none 0 0)) m wr _ hM.own
              have hfin : Compacted w B g cap xs (.returned (.slice (some ⟨g, 0, none⟩) m cap)) (wr.setCells g m (List.replicate (n - m) (.slice none 0 0))) := by
                have h := own_cut o1 (show m ≤ n by omega)
                have h4 : ys.take m = (keepN (·.2) xs n).map (·.1) := by
                  rw [o2]
                  unfold midV
                  rw [List.take_append_of_le_length (by rw [List.length_map, unhide hm]; exact Nat.le_refl _), List.take_of_length_le (by rw [List.length_map, unhide hm]; exact Nat.le_refl _)]
                rw [h4] at h
                unfold Compacted
                rw [unhide HL, unhide hm]
                exact ⟨rfl, h, grown_then hM.grown o3⟩
              clear hM hm o1 o2 o3 HKJ
              go_wp2
              go_ret
              exact hfin
      · obtain rfl : n = k := by omega
        have hfin : Compacted w B g cap xs (.returned (.slice (some ⟨g, 0, none⟩) n cap)) wr := by
          have hk := unhide hKeep
          have hle := unhide HL
          have h := hM.own
          rw [midV_take hk] at h
          unfold Compacted
          rw [hle, hk, List.take_of_length_le (by omega), hle]
          exact ⟨rfl, h, hM.grown⟩
        clear hM hKeep
        go_wp2
        go_ret
        exact hfin
end Go.Proofs.Ytichenjbkclljaa


/-
  impl.OrderPerms, impl.SymmetryClass and impl.LeastSymmetry, by their contracts.
-/

namespace Go.Proofs.Ytichenjbkclljaa
set_option maxRecDepth 100000
open Go.RowKit

/-- What is in order and has each once is known by what it has. -/
theorem kept_ord {zss : List (List Int)} {xs ys : List Pr} (hall : allP zss = true) (hx : xs.map (·.2) = zss) (hp : ys.Perm xs) (hs : ∀ (i j : Nat) (x y : Pr), i < j → ys[i]? = some x → ys[j]? = some y → befL y.2 x.2 = false) :
    (keepN (·.2) ys ys.length).map (·.2) = ordR zss := by
  obtain ⟨h1, h2⟩ := keepN_sorted (f := fun q : Pr => q.2) hs ys.length (Nat.le_refl _)
  rw [ordR_yes hall]
  refine asc_unique h1 (ordL_asc _ _) fun z => ?_
  rw [h2 z, ordL_mem, List.take_length, List.take_length, ← hx]
  exact (hp.map _).mem_iff

set_option maxHeartbeats 1600000 in
theorem iord_any (A : Option Addr) (n c B : Nat) (zss : List (List Int)) (w : World) (hS : IntsS w B (.slice A n c) zss) (hn : n ≤ 1048576) (hsm : ∀ z ∈ zss, z.length ≤ 1048576 ∧ Small z) :
    Calls Try.prog 58 #[.slice A n c] w (GivesSS w (ordR zss)) := by
  obtain ⟨i0, hi, hz0, hz1, hz2⟩ := info_parts rowsInfo1
  have hl := hS.len
  have HL := hide hl
  have HSM := hide hsm
  clear hl hsm
  go_enter Try.func58, Try.ntmps58
  go_wp2_with (first
    | (at_make; refine wpList_make_full _ rfl (.tmp 7) (.tmp 7) 27 rfl w.heap.size 24 i0 (.slice none 0 0) 1 Try.underlying27 hi hz0 hz1 _ _ _ _ n rfl rfl (by first | rfl | omega) (by first | rfl | omega) (by rw [hz2]; omega) (by unfold maxLen; omega) (Nat.le_refl _) ?_; intro w1 hown hg))
  have hF := Filled.start (zss := zss) (unhide HL) (Below.refl w.heap.size w) hown hg
  clear hown hg
  obtain ⟨g, hgw⟩ : ∃ g, g = w.heap.size := ⟨_, rfl⟩
  rw [← hgw] at hF ⊢
  clear hgw
  go_loopw [4, 5, 11] (fun _ _ i wr => ∃ k : Nat, k ≤ n ∧ i = .int .i64 k ∧ Filled w wr g n zss k ∧ Hid (∀ z ∈ zss.take k, isP z = true)) (fun _ _ i _ => n - (intOf i).toNat)
  case atStart => exact ⟨0, Nat.zero_le _, rfl, hF, fun z hz => by simp at hz⟩
  case round =>
    obtain ⟨k, hk, rfl, hF, hP⟩ := hrel
    by_cases hlt : k < n
    · obtain ⟨ad, A1, c1, z, rfl, hz, hcell, hI⟩ := (hS.below hF.below).at_ hlt
      obtain ⟨hzl, hzs⟩ := unhide HSM z (List.mem_of_getElem? hz)
      have hA := hI.arg hzl hI.cap hzs
      obtain ⟨b, hb⟩ : ∃ b, isP z = b := ⟨_, rfl⟩
      have H1 := hide (iisperm_any A1 z.length c1 wr.heap.size z b hb wr hA.reads hA.under hA.le hA.small)
      cases b with
      | false =>
        have hr := hide (ordR_no (allP_no (List.mem_of_getElem? hz) hb))
        have hb0 := hF.below
        clear hz hb hI hA hF hP hzs
        go_wp2_with fail
        refine (unhide H1).mono ?_
        rintro e w2 ⟨rfl, hb⟩
        have hb2 := below_after hb0 hb
        clear H1 hb hb0
        go_wp2
        go_ret
        rw [unhide hr]
        exact GivesSS.mk (IntsS.nil _ _) hb2
      | true =>
        have H2 := hide (fun w' (hb' : Below wr.heap.size wr w') => clone_any A1 z.length c1 wr.heap.size z w' (hA.below hb'))
        have HF := hide hF
        have HZ := hide hz
        have hnext : Hid (∀ z ∈ zss.take (k + 1), isP z = true) := hide (fun y hy => by
          rw [List.take_add_one, hz] at hy
          rcases List.mem_append.1 hy with h | h
          · exact unhide hP y h
          · simp at h
            subst h
            exact hb)
        clear hz hb hI hA hF hP hzs
        go_wp2_with fail
        refine (unhide H1).mono ?_
        rintro e w2 ⟨rfl, hb⟩
        have H3 := hide (unhide H2 w2 hb)
        clear H1 H2
        go_wp2_with fail
        refine (unhide H3).mono ?_
        rintro e w3 ⟨A3, c3, rfl, o3, d3⟩
        have hb3 := below_after hb d3
        obtain ⟨⟨old, hold⟩, hfz⟩ := (unhide HF).old hb3 hlt
        have hF2 := (unhide HF).put (unhide HZ) hb3 (o3.low hb.size)
        clear H3 hb d3 hb3 o3 HF HZ
        go_wp2
        go_roundw
        case rel => exact ⟨k + 1, by omega, by go_num, hF2, hnext⟩
        case measure => simp [intOf]; omega
    · obtain rfl : n = k := by omega
      have hall : allP zss = true := allP_yes fun z hz => unhide hP z (by rw [List.take_of_length_le (by rw [unhide HL]; exact Nat.le_refl _)]; exact hz)
      obtain ⟨hbw, vs, hown, hin⟩ := hF
      rw [← unhide HL, fillS_all] at hin
      obtain ⟨xs, hx1, hx2, hx⟩ := hin.prs
      rw [← hx1] at hown
      have hxP : ∀ q ∈ xs, isP q.2 = true := fun q hq => allP_at hall (by rw [← hx2]; exact List.mem_map_of_mem hq)
      have H1 := hide (sort_any wr w.heap.size g n n xs hown hx hxP hn)
      have HALL := hide hall
      have HX2 := hide hx2
      have HX := hide hx
      have HXP := hide hxP
      have HOWN := hide hown
      clear hP hall hin hx hxP hx1 hx2 hown
      go_wp2_with fail
      refine (unhide H1).mono ?_
      rintro e w2 ⟨rfl, ys, hperm, hsort, hown2, hg2⟩
      have hk2 := KeepI.of_grown (v := .slice (some ⟨g, 0, none⟩) n n) (unhide HOWN) hg2
      have hy : RowPrs w2 w.heap.size ys := ((unhide HX).perm hperm).keepI hk2
      have hyP : ∀ q ∈ ys, isP q.2 = true := fun q hq => unhide HXP q (hperm.subset hq)
      have hbg := ((unhide HOWN).lt g rfl).1
      have hb2 := hbw.grown hg2 hbw.size (fun q hq => by injection hq with hq; omega)
      have H2 := hide (compact_any w2 w.heap.size g n n ys hown2 hy hyP hn (Nat.le_refl _))
      have HORD := hide (kept_ord (unhide HALL) (unhide HX2) hperm hsort)
      have HY := hide hy
      have HOWN2 := hide hown2
      clear H1 hperm hsort hown2 hg2 hk2 hy hyP hbw
      go_wp2_with fail
      refine (unhide H2).mono ?_
      rintro e w3 ⟨rfl, hown3, hg3⟩
      have hk3 := KeepI.of_grown (v := .slice (some ⟨g, 0, none⟩) n n) (unhide HOWN2) hg3
      have hp3 := ((unhide HY).keepI hk3).sub ((keepN_sub (f := fun q : Pr => q.2) ys ys.length).trans (List.take_sublist _ _))
      have hb3 := hb2.grown hg3 hb2.size (fun q hq => by injection hq with hq; omega)
      have hlen : (ordR zss).length = (keepN (·.2) ys ys.length).length := by rw [← unhide HORD, List.length_map]
      have hfin : IntsS w3 w.heap.size (.slice (some ⟨g, 0, none⟩) (keepN (·.2) ys ys.length).length n) (ordR zss) := by
        refine ⟨(keepN (·.2) ys ys.length).map (·.1), by rw [hlen]; exact hown3, ?_⟩
        rw [← unhide HORD]
        exact hp3.inner
      clear H2 hown3 hg3 hk3 hp3 hlen
      go_wp2
      go_ret
      exact GivesSS.mk hfin hb3
end Go.Proofs.Ytichenjbkclljaa


/-
  impl.PatternsIn: the patterns of all choices, in order.
-/

namespace Go.Proofs.Ytichenjbkclljaa
set_option maxRecDepth 100000
open Go.RowKit Go.Shelf
attribute [local go_sem] Oper.semAt_some

/-- 'list = append(list, row)' as a step of a region inside a fence: row was made since world w0. -/
theorem opIn_push_row {F : Fence} {nF : Nat} {o : Oper} {a : Act} {W : World} {K : Act → World → Prop} {Q : Exit → Act → World → Prop} (sl x : Operand)
    (ho : o.op = .call { callee := .builtin .append, args := #[sl, x], argTypes := #[27, 27] })
    (base : Nat) (w0 wr : World) (v u : Value) (zss : List (List Int)) (zs : List Int) (hs : a.eval sl = v) (hx : a.eval x = .slice (some ⟨wr.heap.size, 0, none⟩) 1 1) (hW : W = wr.alloc (.cells #[u] 24))
    (hS : IntsS w0 base v zss) (hb0 : Below w0.heap.size w0 wr) (hu : Ints wr w0.heap.size u zs) (hn : zss.length ≤ 1048576) (hbase : base ≤ w0.heap.size)
    (hK : ∀ v' w', IntsS w' base v' (zss ++ [zs]) → Below base wr w' → K (a.put o.dst v') w') : o.wpIn F nF Try.prog a W K Q := by
  obtain ⟨i0, hi, hz0, hz1, hz2⟩ := info_parts rowsInfo
  obtain ⟨vs, hown, hin⟩ := hS
  have hown1 := own_below hown hb0
  have hal := (Below.refl wr.heap.size wr).alloc (Nat.le_refl _) (.cells #[u] 24)
  have hown2 := own_below hown1 hal
  obtain ⟨A1, c1, rfl⟩ := hu.slice
  subst hW
  obtain ⟨v', w', hrun, h1, h2, _, _⟩ := run_append_own_at (P := Try.prog) (wr.alloc (.cells #[.slice A1 zs.length c1] 24)) base 27 o.type 24 i0 (.slice none 0 0) 1 24 Try.underlying27 hi hz0 hz1 hz2 rfl (by decide) v _ _ hown2 ⟨wr.heap.size, 0, none⟩ 1 1 [.slice A1 zs.length c1] rfl
    (by
      intro j u hj
      match j, hj with
      | 0, hj => simp at hj; subst hj; simp [Addr.add])
    (by
      intro y hy
      obtain rfl := List.mem_singleton.1 hy
      rfl) (by unfold maxLen; omega) (by omega) (by simp; have := hb0.size; omega)
  have hk := (KeepI.of_below hal).trans (KeepI.of_grown hown2 h2)
  have hfin := hK v' w' ⟨vs ++ [.slice A1 zs.length c1], by rw [List.length_append]; exact h1, ((hin.keepI (KeepI.of_below hb0)).keepI hk).push ((hu.low hbase).keepI hk) (hin.away_new hu.since (Nat.le_refl _))⟩
    (((Below.refl base wr).alloc (Nat.le_trans hbase hb0.size) _).grown h2 (by simp; have := hb0.size; omega) (fun k hk => (hown.lt k hk).1))
  unfold Oper.wpIn
  refine ⟨by simp [Oper.about, ho, resolve, Target.leads, Sem.run_pure], ?_⟩
  rw [Oper.semAt_plain F _ _ (by rw [ho]; intro c hc'; cases hc')]
  simp [execOp, ho, resolve, invoke, builtin, hs, hx, hrun, Result.andThen]
  exact hfin

set_option maxRecDepth 100000 in
set_option maxHeartbeats 4000000 in
theorem pats_yes (A : Option Addr) (n c B kk : Nat) (p : List Int) (w : World) (h : Arg w B A n c p) (hp : isP p = true) (hkn : kk ≤ n) :
    Calls Try.prog 16 #[.slice A n c, .int .i64 kk] w (GivesSS w (patsR p kk)) := by
  have hn8 : n ≤ 8 := by have := isP_le hp; have := h.len; omega
  have hBu := h.under
  have hlp := h.len
  have hb0 : Below w.heap.size w (w.alloc (.cells #[.slice A n c] 24)) := (Below.refl _ w).alloc (Nat.le_refl _) _
  have hc0 : Boxed (w.alloc (.cells #[.slice A n c] 24)) w.heap.size 24 (.slice A n c) := Boxed.new w _ _
  have hcell0 := hc0.cell
  have H1 := hide (iisperm_any A n c B p true hp _ (h.below hb0).reads (h.below hb0).under h.le h.small)
  have HC := hide (fun w' => icho_any n kk w')
  have hk0 : ¬ ((kk : Int) < 0) := by omega
  have hk1 : ¬ ((n : Int) < (kk : Int)) := by omega
  have hd0 : decide ((kk : Int) < 0) = false := decide_eq_false hk0
  have hd2 : decide (n < kk) = false := decide_eq_false (by omega)
  have HH := hide h
  have HPATS := hide (pats_ordR hp (show kk ≤ p.length by omega))
  have HP := hide hp
  refine (callsIn_wide (n := 4)).1 ?_
  refine callsIn_of_wp_marks Try.func16 rfl trivial ?_ rfl
  simp only [Try.ntmps16, List.size_toArray, List.length_cons, List.length_nil, Nat.reduceAdd, Nat.reduceSub, Array.replicate_succ, Array.replicate_zero, List.push_toArray, List.append_toArray, List.nil_append, List.cons_append]
  clear h hp hlp
  gi_wp2_with fail
  refine ⟨trivial, ?_⟩
  refine (callsIn_wide.2 (unhide H1)).mono ?_
  rintro e w1 ⟨rfl, d1⟩
  have hc1 := boxed_later hc0 d1
  have hcell1 := hc1.cell
  have d1' := below_after hb0 d1
  clear H1 hcell0
  obtain ⟨w2, hw2⟩ : ∃ w2, w2 = w1.alloc (.cells #[.slice none 0 0] 27) := ⟨_, rfl⟩
  have hcell2 : (w1.alloc (.cells #[.slice none 0 0] 27)).cell? ⟨w.heap.size, 0, none⟩ = some (.slice A n c) := Boxed.cell (Boxed.alloc hc1 _)
  have HW2 := hide hw2
  clear hw2
  gi_wp2_with fail
  refine ⟨trivial, ?_⟩
  rw [← unhide HW2]
  refine (callsIn_wide.2 (unhide HC w2)).mono ?_
  rintro e w3 ⟨rfl, hw3⟩
  have hs2 : w2.heap.size = w1.heap.size + 1 := by rw [unhide HW2]; simp
  have hs3 : w3.heap.size = w2.heap.size + 2 := by rw [hw3]; simp
  have d12 : Below w1.heap.size w1 w2 := by rw [unhide HW2]; exact (Below.refl _ w1).alloc (Nat.le_refl _) _
  have d23 : Below w2.heap.size w2 w3 := by rw [hw3]; exact ((Below.refl _ w2).alloc (Nat.le_refl _) _).alloc (by simp) _
  have hbl2 : Boxed w2 w1.heap.size 27 (.slice none 0 0) := by rw [unhide HW2]; exact Boxed.new w1 _ _
  have hbl3 := boxed_later hbl2 d23
  have hcp3 := boxed_later (boxed_later hc1 d12) d23
  have dw3 := below_after d1' (below_after d12 d23)
  have hbn : Boxed w3 w2.heap.size 3 (.int .i64 n) := by rw [hw3]; exact Boxed.alloc (Boxed.new w2 _ _) _
  have hbk : Boxed w3 (w2.heap.size + 1) 3 (.int .i64 kk) := by
    have := Boxed.new (w2.alloc (.cells #[.int .i64 n] 3)) 3 (.int .i64 kk)
    rw [World.size_alloc] at this
    rw [hw3]; exact this
  have hseq := choices_tell n kk 256 w2.heap.size (w2.heap.size + 1) hn8 (by omega) (chR_room hn8 (by omega)) 3 w3 hbn hbk
  obtain ⟨b, hb⟩ : ∃ b, b = w1.heap.size := ⟨_, rfl⟩
  rw [← hb] at hs2 hbl3 ⊢
  have hwb : w.heap.size < b := by have h1 := d1.size; rw [World.size_alloc] at h1; omega
  have HS := hide (⟨hs2, hs3⟩ : w2.heap.size = b + 1 ∧ w3.heap.size = w2.heap.size + 2)
  clear HC HW2 hcell1 hcell2 d1 d1' d12 d23 hw3 hbl2 hc1 hbn hbk hb hb0 hc0 hs2 hs3
  gi_wp2
  obtain ⟨hs2, hs3⟩ := unhide HS
  refine range_zone rfl (by decide) (gf := 91) (lb := #[.pointer (some ⟨w2.heap.size + 1, 0, none⟩), .pointer (some ⟨w2.heap.size, 0, none⟩)]) rfl trivial (enters_of Try.func91 (by kernel_rfl) rfl)
    hseq (fun h k => ⟨Nat.le_trans h.1 k.1, k.2.trans h.2⟩) (fun W r r' hd => ⟨by unfold World.putObj; simp, World.putObj_heap_other (by omega)⟩) (fun _ => rfl) (fun U V x r r' hdU hdV h => ⟨h.1.kept (World.putObj_heap_other (by omega)), h.2⟩)
    (fun pre V => (∃ v, Boxed V b 27 v ∧ IntsS V (b + 6) v (pre.map (patA p))) ∧ Boxed V w.heap.size 24 (.slice A n c) ∧ Below w.heap.size w V ∧ b < V.heap.size)
    (fun _ _ _ => False)
    (fun pre U V h hb' => by
      obtain ⟨⟨v, h1, h2⟩, h3, h4, h5⟩ := h
      exact ⟨⟨v, Boxed.but h1 hb' (by omega), h2.but hb' (by omega)⟩, Boxed.but h3 hb' (by omega), h4.trans (hb'.below (by omega) (by omega)), Nat.lt_of_lt_of_le h5 hb'.size⟩)
    (fun _ _ _ _ h _ => h)
    ⟨⟨_, hbl3, IntsS.nil _ _⟩, hcp3, dw3, by omega⟩
    (fun _ => { tmps := #[.slice A n c, .int .i64 kk, .pointer (some ⟨w.heap.size, 0, none⟩), undef, .slice none 0 0, .pointer (some ⟨b, 0, none⟩), .slice (some ⟨w3.heap.size + 2, 0, none⟩) kk kk, .slice A n c, .bool true, .bool false, .bool false, .int .i64 kk, .bool false, .bool false, .bool false,
      .int .i64 kk, .slice A n c, .int .i64 n, .bool false, .bool false, .slice A n c, .int .i64 n, .int .i64 kk, .func (.func 91) #[] #[.pointer (some ⟨w2.heap.size + 1, 0, none⟩), .pointer (some ⟨w2.heap.size, 0, none⟩)],
      .slice (some ⟨w3.heap.size + 2, 0, none⟩) kk kk, undef, undef, undef, undef, undef, undef, undef, undef], defers := [] }) ?assign ?body ?done ?stop
  case assign =>
    intro l x W K' hK'
    clear hs3 hs2
    gi_wp2
    exact hK'
  case body =>
    rintro l2 pre pl U V ⟨⟨v, hcU, hSU⟩, hcpU, hBU, hbU0⟩ hzU hbU ⟨hbuf, hpl, hok⟩ hlen
    obtain ⟨g, hg⟩ : ∃ g, g = w3.heap.size + 2 := ⟨_, rfl⟩
    rw [← hg] at hbuf ⊢
    have hp := unhide HP
    have hpa := (unhide HH).below (below_after (⟨rfl, rfl, rfl, Nat.le_refl _, fun _ _ => rfl⟩ : Below w.heap.size w w) hBU)
    have e1 := hpa.len
    have hpaV := ((unhide HH).below (hBU.trans (hbU.mono (by have := hBU.size; omega)))).below (below_drew _ V)
    have hsm : Small pl := fun z hz => by have := hok.1 z hz; omega
    have hApl := ((hpl ▸ hbuf.ints : Ints V g (.slice (some ⟨g, 0, none⟩) kk kk) pl).arg (by omega) (Nat.le_refl _) hsm).drew
    have hokp : PlOK p.length pl := e1.symm ▸ hok
    have H1 := hide (ipatat_any A (some ⟨g, 0, none⟩) n c B kk kk _ p pl hp hokp V.drew hpaV hApl)
    have hmx : Try.prog.follows .mixedOrders = true := by kernel_rfl
    obtain ⟨zss, hz⟩ : ∃ zss, zss = pre.map (patA p) := ⟨_, rfl⟩
    have hzl : zss.length < 256 := by rw [hz, List.length_map]; exact hlen
    rw [← hz] at hSU
    obtain ⟨Av, cv, rfl⟩ := hSU.slice
    have HZ := hide hz
    have hc : Boxed V b 27 (.slice Av zss.length cv) := boxed_later hcU hbU
    have hcp := boxed_later hcpU hbU
    have hcell : V.drew.cell? ⟨b, 0, none⟩ = some (.slice Av zss.length cv) := hc.cell
    have hcellp : V.drew.cell? ⟨w.heap.size, 0, none⟩ = some (.slice A n c) := hcp.cell
    have hSD : IntsS V.drew (b + 6) (.slice Av zss.length cv) zss := (hSU.below hbU).below (below_drew _ V)
    have hbs := hbU.size
    have hzV : b + 6 ≤ V.drew.heap.size := by show b + 6 ≤ V.heap.size; omega
    have HCB := hide (show ∀ w4, Below V.drew.heap.size V.drew w4 → Boxed w4 b 27 (.slice Av zss.length cv) from fun w4 h => boxed_later (show Boxed V.drew b _ _ from hc) h)
    have HEND := hide (show ∀ (A9 : Option Addr) (c9 : Nat) (w' : World), IntsS w' (b + 6) (.slice A9 (zss.length + 1) c9) (zss ++ [patA p pl]) → Below (b + 6) V w' → (∀ r, Desk w3.heap.size r V → Desk w3.heap.size r (w'.setCell ⟨b, 0, none⟩ (.slice A9 (zss.length + 1) c9))) ∧ (V.heap.size ≤ (w'.setCell ⟨b, 0, none⟩ (.slice A9 (zss.length + 1) c9)).heap.size ∧ (w'.setCell ⟨b, 0, none⟩ (.slice A9 (zss.length + 1) c9)).heap[g]? = V.heap[g]?) ∧
        ((∃ v, Boxed (w'.setCell ⟨b, 0, none⟩ (.slice A9 (zss.length + 1) c9)) b 27 v ∧ IntsS (w'.setCell ⟨b, 0, none⟩ (.slice A9 (zss.length + 1) c9)) (b + 6) v ((pre ++ [pl]).map (patA p))) ∧ Boxed (w'.setCell ⟨b, 0, none⟩ (.slice A9 (zss.length + 1) c9)) w.heap.size 24 (.slice A n c) ∧ Below w.heap.size w (w'.setCell ⟨b, 0, none⟩ (.slice A9 (zss.length + 1) c9)) ∧ b < (w'.setCell ⟨b, 0, none⟩ (.slice A9 (zss.length + 1) c9)).heap.size) from fun A9 c9 w' h1 h2 => by
      have hgr := grownBy_setCell' w' b (.slice A9 (zss.length + 1) c9)
      have hsz := h2.size
      have hsz2 := hgr.size
      have hblk : ∀ k, k < V.heap.size → k < b + 6 → k ≠ b → (w'.setCell ⟨b, 0, none⟩ (.slice A9 (zss.length + 1) c9)).heap[k]? = V.heap[k]? := fun k h3 h4 h5 => (hgr.block k (by omega) (by simp; omega)).trans (h2.block k h4)
      refine ⟨fun r hd => ⟨(hblk _ hd.lt (by omega) (by omega)).trans hd.rec_, (hblk _ (by have := hd.lt; omega) (by omega) (by omega)).trans hd.marks⟩, ⟨by omega, hblk g (by omega) (by omega) (by omega)⟩, ⟨_, Boxed.set _ ((h2.block b (by omega)).trans hc), ?_⟩, (hblk _ (Boxed.lt hcp) (by omega) (by omega)).trans hcp, ?_, by omega⟩
      · rw [List.map_append, ← unhide HZ]
        exact intsS_stored h1 (by omega) _
      · exact ((hBU.trans (hbU.mono (by omega))).trans (h2.mono (by omega))).setCell (p := ⟨b, 0, none⟩) (by show w.heap.size ≤ b; omega) _)
    have HG := hide (⟨hg, hs2, hs3⟩ : g = w3.heap.size + 2 ∧ w2.heap.size = b + 1 ∧ w3.heap.size = w2.heap.size + 2)
    clear hseq hz hc hcp hcU hcpU hSU hBU hApl hpa hpaV hbuf hg hs2 hs3 hpl hlen
    gi_wp2_with fail
    refine region_round l2 rfl (by kernel_rfl) hmx ?_
    change wpAnyIn _ _ _ _ _ _ _ _ _ (World.drew _)
--REGION-PATS
    refine wpAnyIn_take (i := 2) (v := .slice (some ⟨g, 0, none⟩) kk kk) rfl rfl (by kernel_rfl) (by kernel_rfl) (by kernel_rfl) (fun _ _ _ h => h) ⟨Or.inl ⟨by rfl, fun w => by go_simp⟩, fun _ => rfl⟩ ?_
    simp only [Act.put]
    refine wpAnyIn_ready (rs := [0, 1]) (by kernel_rfl) (by simp) ?_
    refine AllReadyIn.cons rfl (fun K hK => ?_) (AllReadyIn.cons rfl (fun K hK => ?_) (AllReadyIn.nil))
    · skip
      go_simp
      refine hK _ _ ?_
      clear hK K
      refine wpAnyIn_ready (rs := [1]) (by kernel_rfl) (by simp) ?_
      refine AllReadyIn.cons rfl (fun K hK => ?_) (AllReadyIn.nil)
      go_simp
      refine hK _ _ ?_
      clear hK K
      refine wpAnyIn_ready (rs := [3]) (by kernel_rfl) (by simp) ?_
      refine AllReadyIn.cons rfl (fun K hK => ?_) (AllReadyIn.nil)
      go_simp
      refine ⟨trivial, ?_⟩
      refine (callsIn_wide.2 (unhide H1)).mono ?_
      rintro e w4 ⟨A4, c4, rfl, o4, d4⟩
      have hb4 := unhide HCB w4 d4
      have hcell4 := hb4.cell
      have hcell4a := (Boxed.alloc hb4 (.cells #[.slice A4 (patA p pl).length c4] 24)).cell
      refine hK _ _ ?_
      clear hK K
      refine wpAnyIn_ready (rs := [4]) (by kernel_rfl) (by simp) ?_
      refine AllReadyIn.cons rfl (fun K hK => ?_) (AllReadyIn.nil)
      go_simp
      refine hK _ _ ?_
      clear hK K
      refine wpAnyIn_ready (rs := [5]) (by kernel_rfl) (by simp) ?_
      refine AllReadyIn.cons rfl (fun K hK => ?_) (AllReadyIn.nil)
      rw [if_pos (by rfl)]
      refine opIn_push_row (.tmp 25) (.tmp 29) rfl (b + 6) V.drew w4 (.slice Av zss.length cv) (.slice A4 (patA p pl).length c4) zss (patA p pl) rfl rfl rfl hSD d4 o4 (by omega) hzV ?_
      intro v' w' hS' hb'
      obtain ⟨A9, c9, rfl⟩ := hS'.slice
      rw [List.length_append, List.length_singleton] at hS'
      have hb9 : Boxed w' b 27 (.slice Av zss.length cv) := (hb'.block b (by omega)).trans hb4
      have hcell9 := hb9.cell
      have hfz9 := hb9.frozen
      have hend := unhide HEND A9 c9 w' hS' (((below_drew (b + 6) V).trans (d4.mono hzV)).trans hb')
      have HEN := hide hend
      refine hK _ _ ?_
      clear hK K hend
      refine wpAnyIn_ready (rs := [6]) (by kernel_rfl) (by simp) ?_
      refine AllReadyIn.cons rfl (fun K hK => ?_) (AllReadyIn.nil)
      go_simp
      refine hK _ _ ?_
      clear hK K
      refine wpAnyIn_done (by kernel_rfl) ?_ _
      gi_wp2
      exact unhide HEN
    · skip
      go_simp
      refine hK _ _ ?_
      clear hK K
      refine wpAnyIn_ready (rs := [0, 3]) (by kernel_rfl) (by simp) ?_
      refine AllReadyIn.cons rfl (fun K hK => ?_) (AllReadyIn.cons rfl (fun K hK => ?_) (AllReadyIn.nil))
      · skip
        go_simp
        refine hK _ _ ?_
        clear hK K
        refine wpAnyIn_ready (rs := [3]) (by kernel_rfl) (by simp) ?_
        refine AllReadyIn.cons rfl (fun K hK => ?_) (AllReadyIn.nil)
        go_simp
        refine ⟨trivial, ?_⟩
        refine (callsIn_wide.2 (unhide H1)).mono ?_
        rintro e w4 ⟨A4, c4, rfl, o4, d4⟩
        have hb4 := unhide HCB w4 d4
        have hcell4 := hb4.cell
        have hcell4a := (Boxed.alloc hb4 (.cells #[.slice A4 (patA p pl).length c4] 24)).cell
        refine hK _ _ ?_
        clear hK K
        refine wpAnyIn_ready (rs := [4]) (by kernel_rfl) (by simp) ?_
        refine AllReadyIn.cons rfl (fun K hK => ?_) (AllReadyIn.nil)
        go_simp
        refine hK _ _ ?_
        clear hK K
        refine wpAnyIn_ready (rs := [5]) (by kernel_rfl) (by simp) ?_
        refine AllReadyIn.cons rfl (fun K hK => ?_) (AllReadyIn.nil)
        rw [if_pos (by rfl)]
        refine opIn_push_row (.tmp 25) (.tmp 29) rfl (b + 6) V.drew w4 (.slice Av zss.length cv) (.slice A4 (patA p pl).length c4) zss (patA p pl) rfl rfl rfl hSD d4 o4 (by omega) hzV ?_
        intro v' w' hS' hb'
        obtain ⟨A9, c9, rfl⟩ := hS'.slice
        rw [List.length_append, List.length_singleton] at hS'
        have hb9 : Boxed w' b 27 (.slice Av zss.length cv) := (hb'.block b (by omega)).trans hb4
        have hcell9 := hb9.cell
        have hfz9 := hb9.frozen
        have hend := unhide HEND A9 c9 w' hS' (((below_drew (b + 6) V).trans (d4.mono hzV)).trans hb')
        have HEN := hide hend
        refine hK _ _ ?_
        clear hK K hend
        refine wpAnyIn_ready (rs := [6]) (by kernel_rfl) (by simp) ?_
        refine AllReadyIn.cons rfl (fun K hK => ?_) (AllReadyIn.nil)
        go_simp
        refine hK _ _ ?_
        clear hK K
        refine wpAnyIn_done (by kernel_rfl) ?_ _
        gi_wp2
        exact unhide HEN
      · skip
        go_simp
        refine ⟨trivial, ?_⟩
        refine (callsIn_wide.2 (unhide H1)).mono ?_
        rintro e w4 ⟨A4, c4, rfl, o4, d4⟩
        have hb4 := unhide HCB w4 d4
        have hcell4 := hb4.cell
        have hcell4a := (Boxed.alloc hb4 (.cells #[.slice A4 (patA p pl).length c4] 24)).cell
        refine hK _ _ ?_
        clear hK K
        refine wpAnyIn_ready (rs := [0, 4]) (by kernel_rfl) (by simp) ?_
        refine AllReadyIn.cons rfl (fun K hK => ?_) (AllReadyIn.cons rfl (fun K hK => ?_) (AllReadyIn.nil))
        · skip
          go_simp
          refine hK _ _ ?_
          clear hK K
          refine wpAnyIn_ready (rs := [4]) (by kernel_rfl) (by simp) ?_
          refine AllReadyIn.cons rfl (fun K hK => ?_) (AllReadyIn.nil)
          go_simp
          refine hK _ _ ?_
          clear hK K
          refine wpAnyIn_ready (rs := [5]) (by kernel_rfl) (by simp) ?_
          refine AllReadyIn.cons rfl (fun K hK => ?_) (AllReadyIn.nil)
          rw [if_pos (by rfl)]
          refine opIn_push_row (.tmp 25) (.tmp 29) rfl (b + 6) V.drew w4 (.slice Av zss.length cv) (.slice A4 (patA p pl).length c4) zss (patA p pl) rfl rfl rfl hSD d4 o4 (by omega) hzV ?_
          intro v' w' hS' hb'
          obtain ⟨A9, c9, rfl⟩ := hS'.slice
          rw [List.length_append, List.length_singleton] at hS'
          have hb9 : Boxed w' b 27 (.slice Av zss.length cv) := (hb'.block b (by omega)).trans hb4
          have hcell9 := hb9.cell
          have hfz9 := hb9.frozen
          have hend := unhide HEND A9 c9 w' hS' (((below_drew (b + 6) V).trans (d4.mono hzV)).trans hb')
          have HEN := hide hend
          refine hK _ _ ?_
          clear hK K hend
          refine wpAnyIn_ready (rs := [6]) (by kernel_rfl) (by simp) ?_
          refine AllReadyIn.cons rfl (fun K hK => ?_) (AllReadyIn.nil)
          go_simp
          refine hK _ _ ?_
          clear hK K
          refine wpAnyIn_done (by kernel_rfl) ?_ _
          gi_wp2
          exact unhide HEN
        · skip
          go_simp
          refine hK _ _ ?_
          clear hK K
          refine wpAnyIn_ready (rs := [0]) (by kernel_rfl) (by simp) ?_
          refine AllReadyIn.cons rfl (fun K hK => ?_) (AllReadyIn.nil)
          go_simp
          refine hK _ _ ?_
          clear hK K
          refine wpAnyIn_ready (rs := [5]) (by kernel_rfl) (by simp) ?_
          refine AllReadyIn.cons rfl (fun K hK => ?_) (AllReadyIn.nil)
          rw [if_pos (by rfl)]
          refine opIn_push_row (.tmp 25) (.tmp 29) rfl (b + 6) V.drew w4 (.slice Av zss.length cv) (.slice A4 (patA p pl).length c4) zss (patA p pl) rfl rfl rfl hSD d4 o4 (by omega) hzV ?_
          intro v' w' hS' hb'
          obtain ⟨A9, c9, rfl⟩ := hS'.slice
          rw [List.length_append, List.length_singleton] at hS'
          have hb9 : Boxed w' b 27 (.slice Av zss.length cv) := (hb'.block b (by omega)).trans hb4
          have hcell9 := hb9.cell
          have hfz9 := hb9.frozen
          have hend := unhide HEND A9 c9 w' hS' (((below_drew (b + 6) V).trans (d4.mono hzV)).trans hb')
          have HEN := hide hend
          refine hK _ _ ?_
          clear hK K hend
          refine wpAnyIn_ready (rs := [6]) (by kernel_rfl) (by simp) ?_
          refine AllReadyIn.cons rfl (fun K hK => ?_) (AllReadyIn.nil)
          go_simp
          refine hK _ _ ?_
          clear hK K
          refine wpAnyIn_done (by kernel_rfl) ?_ _
          gi_wp2
          exact unhide HEN
--END-PATS
  case done =>
    rintro pls W rfl ⟨⟨v, hc, hSS⟩, hcp, hB, hbs⟩ hK9
    have hcell := hc.cell
    obtain ⟨zss, hz⟩ : ∃ zss, zss = (chR n kk).map (patA p) := ⟨_, rfl⟩
    have hord : ordR zss = patsR p kk := by rw [hz, ← (unhide HH).len]; exact unhide HPATS
    have hzl : zss.length ≤ 256 := by rw [hz, List.length_map]; exact chR_room hn8 (by omega)
    rw [← hz] at hSS
    obtain ⟨A9, c9, rfl⟩ := hSS.slice
    have H7 := hide (iord_any A9 _ c9 _ zss W hSS (by omega) (fun z hz9 => by
      rw [hz] at hz9
      obtain ⟨pl, hpl, rfl⟩ := List.mem_map.1 hz9
      have h2 := (mem_chR.1 hpl).2
      have h3 := plOK_le h2
      exact ⟨by unfold patA; rw [patL_length, nums_length]; omega, patA_small (unhide HP) ((unhide HH).len.symm ▸ h2)⟩))
    have HO := hide hord
    have HS9 := hide (show w3.heap.size = b + 3 from by omega)
    have hDl : w3.heap.size < W.heap.size := (Array.getElem?_eq_some_iff.1 hK9).1
    clear hz hord hc hSS hcp hseq hs2 hs3
    gi_wp2_with fail
    refine ⟨trivial, ?_⟩
    refine (callsIn_wide.2 (unhide H7)).mono ?_
    rintro e w5 ⟨A5, c5, rfl, o5, d5⟩
    rw [unhide HO] at o5 ⊢
    have hK5 : w5.heap[w3.heap.size]? = some (.deferred (some [])) := (d5.block _ hDl).trans hK9
    have hwd : w.heap.size ≤ w3.heap.size := by have := unhide HS9; omega
    have o6 := (o5.but (But.putObj w5 (Nat.le_refl w3.heap.size) (Nat.lt_succ_self _) (.deferred none)) hDl).low (show w.heap.size ≤ W.heap.size by omega)
    have d6 : Below w.heap.size w (w5.putObj w3.heap.size (.deferred none)) := (hB.trans (d5.mono hB.size)).trans ((Below.refl _ _).grown (grownBy_putObj' _ _ _) (by have := d5.size; have := hB.size; omega) (fun k e => by cases e; exact hwd))
    clear H7 d5 o5 hB
    gi_wp2
    refine ⟨by simp, .inl ⟨_, _, rfl, run_takeDeferred hK5, ?_⟩⟩
    refine ⟨_, results_tmp rfl _ _ _, ?_⟩
    exact GivesSS.mk o6 d6
  case stop =>
    rintro c pre W _ h _
    exact h.elim
end Go.Proofs.Ytichenjbkclljaa


/-
  impl.PatternsIn at any number; impl.LowersOf.
-/

namespace Go.Proofs.Ytichenjbkclljaa
set_option maxRecDepth 100000
open Go.RowKit

set_option maxHeartbeats 800000 in
theorem ipats_any (A : Option Addr) (n c B : Nat) (zs : List Int) (x : Int) (w : World) (h : Arg w B A n c zs) :
    Calls Try.prog 16 #[.slice A n c, .int .i64 x] w (GivesSS w (patsR zs x)) := by
  have hl := h.len
  obtain ⟨b, hp⟩ : ∃ b, isP zs = b := ⟨_, rfl⟩
  have hb0 : Below w.heap.size w (w.alloc (.cells #[.slice A n c] 24)) := (Below.refl _ w).alloc (Nat.le_refl _) _
  have hc0 : Boxed (w.alloc (.cells #[.slice A n c] 24)) w.heap.size 24 (.slice A n c) := Boxed.new w _ _
  have hcell0 := hc0.cell
  have H1 := hide (iisperm_any A n c B zs b hp _ (h.below hb0).reads (h.below hb0).under h.le h.small)
  cases b with
  | false =>
    rw [patsR_no (by unfold patsOK; rw [hp]; rfl)]
    clear h hp hl
    go_enter Try.func16, Try.ntmps16
    go_wp2_with fail
    refine (unhide H1).mono ?_
    rintro e w1 ⟨rfl, d1⟩
    have d := below_after hb0 d1
    clear H1 hcell0
    go_wp2
    go_ret
    exact GivesSS.mk (IntsS.nil _ _) d
  | true =>
    by_cases hx : 0 ≤ x ∧ x ≤ (n : Int)
    · obtain ⟨kk, rfl⟩ : ∃ kk : Nat, x = (kk : Int) := ⟨x.toNat, by omega⟩
      exact pats_yes A n c B kk zs w h hp (by omega)
    · rw [patsR_no (by unfold patsOK; rw [hp, hl]; simpa using hx)]
      by_cases h0 : x < 0
      · have hd0 : decide (x < 0) = true := decide_eq_true h0
        clear h hp hl hx
        go_enter Try.func16, Try.ntmps16
        go_wp2_with fail
        refine (unhide H1).mono ?_
        rintro e w1 ⟨rfl, d1⟩
        have d := below_after hb0 d1
        have hcell1 := (boxed_later hc0 d1).cell
        clear H1 hcell0
        go_wp2
        go_ret
        exact GivesSS.mk (IntsS.nil _ _) d
      · have hd0 : decide (x < 0) = false := decide_eq_false h0
        have h1 : (n : Int) < x := by omega
        have hd1 : decide ((n : Int) < x) = true := decide_eq_true h1
        clear h hp hl hx
        go_enter Try.func16, Try.ntmps16
        go_wp2_with fail
        refine (unhide H1).mono ?_
        rintro e w1 ⟨rfl, d1⟩
        have d := below_after hb0 d1
        have hcell1 := (boxed_later hc0 d1).cell
        clear H1 hcell0
        go_wp2
        go_ret
        exact GivesSS.mk (IntsS.nil _ _) d
theorem ilow_any (A : Option Addr) (n c B : Nat) (zs : List Int) (w : World) (h : Arg w B A n c zs) :
    Calls Try.prog 30 #[.slice A n c] w (GivesSS w (lowR zs)) := by
  have hle := h.le
  have H1 := hide (ipats_any A n c B zs ((n : Int) - 1) w h)
  have hw1 : IntKind.i64.wrap ((n : Int) - 1) = (n : Int) - 1 := by rw [IntKind.wrap_i64]; omega
  rw [← pats_low, h.len]
  clear h
  go_enter Try.func30, Try.ntmps30
  go_wp2_with fail
  refine (unhide H1).mono ?_
  rintro e w1 ⟨A1, c1, rfl, o1, d1⟩
  clear H1
  go_wp2
  go_ret
  exact GivesSS.mk o1 d1
end Go.Proofs.Ytichenjbkclljaa


/-
  slices.Grow of nil, slices.Concat of two lists; impl.isPlace, impl.WithoutPlace.
-/

namespace Go.Proofs.Ytichenjbkclljaa
set_option maxRecDepth 100000
open Go.RowKit

set_option maxHeartbeats 800000 in
theorem grow_any (m : Nat) (hm : m ≤ 1000) (w : World) :
    Calls Try.prog 98 #[.slice none 0 0, .int .i64 m] w fun e w' => ∃ A c, e = .returned (.slice A 0 c) ∧ w'.ownsRow w.heap.size 3 1 (.slice A 0 c) 0 [] ∧ Below w.heap.size w w' := by
  obtain ⟨i0, hi, hz0, hz1, hz2⟩ := info_parts intInfo
  have hn0 : ¬ ((m : Int) < 0) := by omega
  by_cases h0 : m = 0
  · subst h0
    go_enter Try.func98, Try.ntmps98
    go_wp2
    go_ret
    exact ⟨none, 0, rfl, World.ownsRow_nil _ _ _ _, Below.refl _ _⟩
  · have hpos : 0 < (m : Int) := by omega
    have hwr : IntKind.i64.wrap (m : Int) = (m : Int) := by rw [IntKind.wrap_i64]; omega
    have hrun := Lib.run_append_nil_zeros (P := Try.prog) w 24 3 24 3 i0 (.int .i64 0) .i64 .i64 Try.underlying24 Try.underlying3 hi hz0 m (by omega) (by omega) (by omega) (by rw [hz2]; omega)
    have hge := grownCap_ge w m 0 3
    have hle := grownCap_le_maxLen w m 0 3 (by unfold maxLen; omega)
    obtain ⟨C, hC⟩ : ∃ C, C = grownCap w m 0 3 := ⟨_, rfl⟩
    rw [← hC] at hrun hge hle
    obtain ⟨cur, hcur⟩ : ∃ cur, cur = Builtin.zeroCells (Value.int .i64 0).cells m ++ Builtin.zeroCells (Value.int .i64 0).cells (C - m) := ⟨_, rfl⟩
    have hcs : cur.size = C := by
      rw [hcur, Array.size_append, size_zeroCells, size_zeroCells]
      simp [Value.cells]
      omega
    rw [← hcur] at hrun
    obtain ⟨w3, hw3⟩ : ∃ w3, w3 = w.drew.alloc (.cells cur 3) := ⟨_, rfl⟩
    rw [← hw3] at hrun
    have hown : w3.ownsRow w.heap.size 3 1 (.slice (some ⟨w.heap.size, 0, none⟩) 0 C) 0 [] :=
      ⟨rfl, .inr ⟨w.heap.size, C, cur, rfl, Nat.le_refl _, by rw [hw3]; exact heap_alloc_new w.drew _, Nat.zero_le _, hle, by omega, by simp⟩⟩
    have hb : Below w.heap.size w w3 := by rw [hw3]; exact (below_drew _ w).alloc (Nat.le_refl _) _
    have h0C : (0 : Int) ≤ (C : Int) := by omega
    clear hw3 hC hcur
    go_enter Try.func98, Try.ntmps98
    go_wp2_with (first
      | (at_builtin; refine Lib.wpList_append_run _ rfl _ _ _ _ rfl _ _ rfl rfl _ _ hrun ?_))
    go_ret
    exact ⟨some ⟨w.heap.size, 0, none⟩, C, rfl, hown, hb⟩
set_option maxHeartbeats 1600000 in
theorem concat2_any (gs : Nat) (A1 A2 : Option Addr) (n1 c1 B1 n2 c2 B2 : Nat) (xs ys : List Int) (w : World) (hc0 : w.cell? ⟨gs, 0, none⟩ = some (.slice A1 n1 c1)) (hc1 : w.cell? ⟨gs, 1, none⟩ = some (.slice A2 n2 c2))
    (h1 : Arg w B1 A1 n1 c1 xs) (h2 : Arg w B2 A2 n2 c2 ys) (hn1 : n1 ≤ 400) (hn2 : n2 ≤ 400) :
    Calls Try.prog 62 #[.slice (some ⟨gs, 0, none⟩) 2 2] w (GivesI w (xs ++ ys)) := by
  have hw1 : IntKind.i64.wrap ((0 : Int) + (n1 : Int)) = (n1 : Int) := by rw [IntKind.wrap_i64]; omega
  have hw1' : IntKind.i64.wrap (n1 : Int) = (n1 : Int) := by rw [IntKind.wrap_i64]; omega
  have hw2 : IntKind.i64.wrap ((n1 : Int) + (n2 : Int)) = (n1 : Int) + (n2 : Int) := by rw [IntKind.wrap_i64]; omega
  have hp1 : ¬ ((n1 : Int) < 0) := by omega
  have hp2 : ¬ ((n1 : Int) + (n2 : Int) < 0) := by omega
  have HG := hide (show ∀ w', Calls Try.prog 98 #[.slice none 0 0, .int .i64 ((n1 : Int) + (n2 : Int))] w' _ from fun w' => by
    have := grow_any (n1 + n2) (by omega) w'
    rw [Int.natCast_add] at this
    exact this)
  have hl1 := World.block_lt_of_cell? w _ hc0
  have HA := hide (⟨h1, h2⟩ : Arg w B1 A1 n1 c1 xs ∧ Arg w B2 A2 n2 c2 ys)
  clear h1 h2
  go_enter Try.func62, Try.ntmps62
  go_wp2
  go_loopw [3, 5, 11] (fun s _ i wr => wr = w ∧ ((i = .int .i64 0 ∧ s = .int .i64 0) ∨ (i = .int .i64 1 ∧ s = .int .i64 n1) ∨ (i = .int .i64 2 ∧ s = .int .i64 ((n1 : Int) + (n2 : Int))))) (fun _ _ i _ => 2 - (intOf i).toNat)
  case atStart => exact ⟨rfl, .inl ⟨rfl, rfl⟩⟩
  case round =>
    obtain ⟨hwr, hcase⟩ := hrel
    replace hwr := hwr.symm
    subst hwr
    rcases hcase with ⟨rfl, rfl⟩ | ⟨rfl, rfl⟩ | ⟨rfl, rfl⟩
    · go_wp2
      go_roundw
      case rel => exact ⟨trivial, .inr (.inl ⟨rfl, rfl⟩)⟩
      case measure => simp [intOf]
    · go_wp2
      go_roundw
      case rel => exact ⟨trivial, .inr (.inr ⟨rfl, rfl⟩)⟩
      case measure => simp [intOf]
    · go_wp2_with fail
      refine (unhide HG _).mono ?_
      rintro e w1 ⟨Av, cv, rfl, hown, hb1⟩
      clear HG
      go_wp2
      go_loopw [6, 8, 27] (fun s _ i wr => Below w.heap.size w wr ∧ ((i = .int .i64 0 ∧ wr.ownsRow w.heap.size 3 1 s 0 []) ∨ (i = .int .i64 1 ∧ wr.ownsRow w.heap.size 3 1 s n1 (i64s xs)) ∨ (i = .int .i64 2 ∧ wr.ownsRow w.heap.size 3 1 s (n1 + n2) (i64s (xs ++ ys))))) (fun _ _ i _ => 2 - (intOf i).toNat)
      case atStart => exact ⟨hb1, .inl ⟨rfl, hown⟩⟩
      case round =>
        obtain ⟨hb, hcase⟩ := hrel
        have hd0 := (hb.cell (p := ⟨gs, 0, none⟩) hl1).trans hc0
        have hd1 := (hb.cell (p := ⟨gs, 1, none⟩) hl1).trans hc1
        have hA1 := (unhide HA).1.below hb
        have hA2 := (unhide HA).2.below hb
        have hsz := hb.size
        clear hown hb1 hc0 hc1
        rcases hcase with ⟨rfl, hown⟩ | ⟨rfl, hown⟩ | ⟨rfl, hown⟩
        · go_wp2_with (first
            | (at_builtin; refine wpList_append_arg rfl (.tmp 31) (.tmp 32) rfl w.heap.size B1 0 n1 c1 w _ A1 [] xs rfl rfl hown hA1 (by omega) hb hsz ?_; intro v' w' hown2 hb2 hg2))
          go_roundw
          case rel => exact ⟨hb2, .inr (.inl ⟨rfl, by rw [Nat.zero_add, List.nil_append] at hown2; exact hown2⟩)⟩
          case measure => simp [intOf]
        · go_wp2_with (first
            | (at_builtin; refine wpList_append_arg rfl (.tmp 31) (.tmp 32) rfl w.heap.size B2 n1 n2 c2 w _ A2 xs ys rfl rfl hown hA2 (by omega) hb hsz ?_; intro v' w' hown2 hb2 hg2))
          go_roundw
          case rel => exact ⟨hb2, .inr (.inr ⟨rfl, hown2⟩)⟩
          case measure => simp [intOf]
        · have hI := Ints.of_own hown
          clear hown hA1 hA2
          go_wp2
          go_ret
          exact GivesI.mk hI hb
theorem iplace_any (A : Option Addr) (n c : Nat) (z : Int) (b : Bool) (hb : decide (1 ≤ z ∧ z ≤ (n : Int)) = b) (w : World) :
    Calls Try.prog 60 #[.slice A n c, .int .i64 z] w fun e w' => e = .returned (.bool b) ∧ w' = w := by
  by_cases h1 : 1 ≤ z
  · by_cases h2 : z ≤ (n : Int)
    · obtain rfl : b = true := by rw [← hb]; simp [h1, h2]
      clear hb
      go_enter Try.func60, Try.ntmps60
      go_wp2
      go_ret
      exact ⟨rfl, rfl⟩
    · obtain rfl : b = false := by rw [← hb]; simp [h2]
      clear hb
      go_enter Try.func60, Try.ntmps60
      go_wp2
      go_ret
      exact ⟨rfl, rfl⟩
  · obtain rfl : b = false := by rw [← hb]; simp [h1]
    clear hb
    go_enter Try.func60, Try.ntmps60
    go_wp2
    go_ret
    exact ⟨rfl, rfl⟩
set_option maxHeartbeats 1600000 in
theorem wpl_yes (A : Option Addr) (n c B : Nat) (zs : List Int) (k : Nat) (w : World) (h : Arg w B A n c zs) (hp : isP zs = true) (hk : k < n) :
    Calls Try.prog 18 #[.slice A n c, .int .i64 ((k : Int) + 1)] w (GivesIB w (patL (cutAt zs k)) true) := by
  have hl := h.len
  have hcap := h.cap
  have hn8 : n ≤ 8 := by have := isP_le hp; omega
  obtain ⟨ad, rfl⟩ : ∃ ad, A = some ad := by
    obtain ⟨ad, u, hA, _⟩ := h.reads.at_ hk
    exact ⟨ad, hA⟩
  have H1 := hide (iisperm_any (some ad) n c B zs true hp w h.reads h.under h.le h.small)
  have H2 := hide (fun w' => iplace_any (some ad) n c ((k : Int) + 1) true (decide_eq_true (by omega)) w')
  have hbd0 : (0 : Int) ≤ (k : Int) + 1 := by omega
  have hbd1 : (k : Int) + 1 ≤ (n : Int) := by omega
  have hbd2 : (k : Int) ≤ (c : Int) := by omega
  have hbd3 : (k : Int) + 1 ≤ (c : Int) := by omega
  have hbd4 : (n : Int) ≤ (c : Int) := by omega
  have hbd5 : (0 : Int) ≤ (k : Int) := by omega
  have hw1 : IntKind.i64.wrap ((k : Int) + 1 - 1) = (k : Int) := by rw [IntKind.wrap_i64]; omega
  have hw1' : IntKind.i64.wrap (k : Int) = (k : Int) := by rw [IntKind.wrap_i64]; omega
  have hok : patOK (cutAt zs k) = true := patOK_yes (by have := cutAt_len (p := zs) (k := k) (by omega); omega) ((isP_true.1 hp).2.2.sublist (cutAt_sub zs k))
  have hsm : Small (cutAt zs k) := fun z hz => h.small z ((cutAt_sub zs k).mem hz)
  have hcl := cutAt_len (p := zs) (k := k) (by omega)
  have hA1 : Arg w B (some ad) k c (zs.take k) := by
    have hA1 := h.cut (f := 0) (m := k) (by omega)
    rwa [show ad.add 0 = ad by unfold Addr.add; split <;> simp_all, Nat.sub_zero, List.drop_zero] at hA1
  have HOK := hide hok
  have HSM := hide hsm
  have HLEN := hide (show (cutAt zs k).length ≤ 1048576 from by omega)
  have hun := h.under
  clear hok hsm hcl
  by_cases hc : c = k + 1
  · obtain rfl := hc
    obtain rfl : n = k + 1 := by omega
    have hb6 : (k : Int) ≤ ((k + 1 : Nat) : Int) := by omega
    have hb7 : (k : Int) ≤ (k : Int) + 1 := by omega
    have hb8 : (k : Int) + 1 ≤ ((k + 1 : Nat) : Int) := by omega
    clear hbd1 hbd2 hbd3 hbd4
    have HCUT := hide (show zs.take k ++ ([] : List Int) = cutAt zs k from by unfold cutAt; rw [List.drop_of_length_le (by omega)])
    have hA2 : Arg w B (some ad) 0 0 ([] : List Int) := ⟨⟨rfl, fun h => by omega⟩, h.under, by omega, Nat.le_refl _, fun z hz => by simp at hz, fun h => by cases h⟩
    have HCC := hide (show ∀ w2, Below w.heap.size w w2 → Calls Try.prog 62 #[.slice (some ⟨w2.heap.size, 0, none⟩) 2 2] (w2.alloc (.cells #[.slice (some ad) k (k + 1), .slice (some ad) (0) (0)] 24)) (GivesI (w2.alloc (.cells #[.slice (some ad) k (k + 1), .slice (some ad) (0) (0)] 24)) (zs.take k ++ [])) from fun w2 d => by
      have d2 := (Below.refl w2.heap.size w2).alloc (Nat.le_refl _) (.cells #[.slice (some ad) k (k + 1), .slice (some ad) (0) (0)] 24)
      have hW := Whole.new w2 24 #[.slice (some ad) k (k + 1), .slice (some ad) (0) (0)]
      exact concat2_any w2.heap.size (some ad) (some ad) k (k + 1) B (0) (0) B _ _ _ (hW.cell 0) (hW.cell 1) ((hA1.below d).below d2) ((hA2.below d).below d2) (by omega) (by omega))
    clear h hl hcap hp
    clear hA1 hA2
    go_enter Try.func18, Try.ntmps18
    go_wp2_with fail
    refine (unhide H1).mono ?_
    rintro e w1 ⟨rfl, d1⟩
    clear H1
    go_wp2_with fail
    refine (unhide H2 w1).mono ?_
    rintro e w1' ⟨rfl, rfl⟩
    clear H2
    have dd := below_after d1 (below_drew _ w1')
    have HC := hide (unhide HCC w1'.drew dd)
    have dal := (Below.refl w1'.drew.heap.size w1'.drew).alloc (Nat.le_refl _) (.cells #[.slice (some ad) k (k + 1), .slice (some ad) (0) (0)] 24)
    have dda := below_after dd dal
    clear HCC d1
    go_wp2
    go_region_held3 (fun _ => True) (trivial)
      (first
        | (go_simp; go_at_call 62; refine (unhide HC).mono ?_; rintro e w4 ⟨A4, c4, rfl, o4, d4⟩; have e4 := unhide HCUT; rw [e4] at o4 ⊢; have H5 := hide (ipat_any A4 _ c4 _ (cutAt zs k) true (unhide HOK) w4 (o4.arg (unhide HLEN) o4.cap (unhide HSM))); have dd4 := below_after dda d4; clear HC o4 d4)
        | (go_simp; go_at_call 61; refine (unhide H5).mono ?_; rintro e w5 ⟨A5, c5, rfl, o5, d5⟩; rw [patR_yes (unhide HOK)] at o5 ⊢; have o6 := o5.low dd4.size; have d6 := below_after dd4 d5; clear H5 o5 d5))
    go_wp2
    go_ret2
    exact GivesIB.mk true o6 d6
  · have HCUT := hide (show zs.take k ++ zs.drop (k + 1) = cutAt zs k from rfl)
    have hA2 : Arg w B (some ⟨ad.block, ad.off + (k + 1), none⟩) (n - (k + 1)) (c - (k + 1)) (zs.drop (k + 1)) := by
      have hA2 := h.cut (f := k + 1) (m := n - (k + 1)) (by omega)
      rw [List.take_of_length_le (by rw [List.length_drop]; omega)] at hA2
      rwa [show ad.add (k + 1) = ⟨ad.block, ad.off + (k + 1), none⟩ by unfold Addr.add; rw [if_neg (by omega)]] at hA2
    have HCC := hide (show ∀ w2, Below w.heap.size w w2 → Calls Try.prog 62 #[.slice (some ⟨w2.heap.size, 0, none⟩) 2 2] (w2.alloc (.cells #[.slice (some ad) k c, .slice (some ⟨ad.block, ad.off + (k + 1), none⟩) (n - (k + 1)) (c - (k + 1))] 24)) (GivesI (w2.alloc (.cells #[.slice (some ad) k c, .slice (some ⟨ad.block, ad.off + (k + 1), none⟩) (n - (k + 1)) (c - (k + 1))] 24)) (zs.take k ++ zs.drop (k + 1))) from fun w2 d => by
      have d2 := (Below.refl w2.heap.size w2).alloc (Nat.le_refl _) (.cells #[.slice (some ad) k c, .slice (some ⟨ad.block, ad.off + (k + 1), none⟩) (n - (k + 1)) (c - (k + 1))] 24)
      have hW := Whole.new w2 24 #[.slice (some ad) k c, .slice (some ⟨ad.block, ad.off + (k + 1), none⟩) (n - (k + 1)) (c - (k + 1))]
      exact concat2_any w2.heap.size (some ad) (some ⟨ad.block, ad.off + (k + 1), none⟩) k c B (n - (k + 1)) (c - (k + 1)) B _ _ _ (hW.cell 0) (hW.cell 1) ((hA1.below d).below d2) ((hA2.below d).below d2) (by omega) (by omega))
    clear h hl hcap hp
    clear hA1 hA2
    go_enter Try.func18, Try.ntmps18
    go_wp2_with fail
    refine (unhide H1).mono ?_
    rintro e w1 ⟨rfl, d1⟩
    clear H1
    go_wp2_with fail
    refine (unhide H2 w1).mono ?_
    rintro e w1' ⟨rfl, rfl⟩
    clear H2
    have dd := below_after d1 (below_drew _ w1')
    have HC := hide (unhide HCC w1'.drew dd)
    have dal := (Below.refl w1'.drew.heap.size w1'.drew).alloc (Nat.le_refl _) (.cells #[.slice (some ad) k c, .slice (some ⟨ad.block, ad.off + (k + 1), none⟩) (n - (k + 1)) (c - (k + 1))] 24)
    have dda := below_after dd dal
    clear HCC d1
    go_wp2
    go_region_held3 (fun _ => True) (trivial)
      (first
        | (go_simp; go_at_call 62; refine (unhide HC).mono ?_; rintro e w4 ⟨A4, c4, rfl, o4, d4⟩; have e4 := unhide HCUT; rw [e4] at o4 ⊢; have H5 := hide (ipat_any A4 _ c4 _ (cutAt zs k) true (unhide HOK) w4 (o4.arg (unhide HLEN) o4.cap (unhide HSM))); have dd4 := below_after dda d4; clear HC o4 d4)
        | (go_simp; go_at_call 61; refine (unhide H5).mono ?_; rintro e w5 ⟨A5, c5, rfl, o5, d5⟩; rw [patR_yes (unhide HOK)] at o5 ⊢; have o6 := o5.low dd4.size; have d6 := below_after dd4 d5; clear H5 o5 d5))
    go_wp2
    go_ret2
    exact GivesIB.mk true o6 d6
set_option maxHeartbeats 800000 in
theorem iwpl_any (A : Option Addr) (n c B : Nat) (zs : List Int) (x : Int) (w : World) (h : Arg w B A n c zs) (hx : -9223372036854775808 ≤ x ∧ x ≤ 9223372036854775807) :
    Calls Try.prog 18 #[.slice A n c, .int .i64 x] w (GivesIB w (wplR zs x) (wplOK zs x)) := by
  have hl := h.len
  obtain ⟨b, hp⟩ : ∃ b, isP zs = b := ⟨_, rfl⟩
  cases b with
  | false =>
    have H1 := hide (iisperm_any A n c B zs false hp w h.reads h.under h.le h.small)
    have ho : wplOK zs x = false := by unfold wplOK; rw [hp]; rfl
    rw [wplR_no ho, ho]
    clear h hp hl ho
    go_enter Try.func18, Try.ntmps18
    go_wp2_with fail
    refine (unhide H1).mono ?_
    rintro e w1 ⟨rfl, d1⟩
    clear H1
    go_wp2
    go_ret2
    exact GivesIB.mk (v := .slice none 0 0) false (Ints.nil _ _) d1
  | true =>
    obtain ⟨b2, hb2⟩ : ∃ b2, decide ((1 : Int) ≤ x ∧ x ≤ (n : Int)) = b2 := ⟨_, rfl⟩
    have ho : wplOK zs x = b2 := by unfold wplOK; rw [hp, hl, hb2]; rfl
    cases b2 with
    | false =>
      have H1 := hide (iisperm_any A n c B zs true hp w h.reads h.under h.le h.small)
      have H2 := hide (fun w' => iplace_any A n c x false hb2 w')
      rw [wplR_no ho, ho]
      clear h hp hl ho hb2
      go_enter Try.func18, Try.ntmps18
      go_wp2_with fail
      refine (unhide H1).mono ?_
      rintro e w1 ⟨rfl, d1⟩
      clear H1
      go_wp2_with fail
      refine (unhide H2 w1).mono ?_
      rintro e w2 ⟨rfl, rfl⟩
      clear H2
      go_wp2
      go_ret2
      exact GivesIB.mk (v := .slice none 0 0) false (Ints.nil _ _) d1
    | true =>
      have hr := of_decide_eq_true hb2
      obtain ⟨X, rfl, hX⟩ := place_nat' hr
      rw [wplR_yes ho, ho, show ((X + 1 : Nat) : Int).toNat - 1 = X by omega]
      have := wpl_yes A n c B zs X w h hp hX
      rwa [show ((X : Nat) : Int) + 1 = ((X + 1 : Nat) : Int) by omega] at this
end Go.Proofs.Ytichenjbkclljaa


/-
  THE LAST STEP OF A LAW: the walk's answer 'true' and 'nothing below the call's own blocks has turned' give the row's post. One lemma for all laws.
-/

namespace Go.Proofs.Ytichenjbkclljaa
set_option maxRecDepth 100000
open Go.ChangeShapes Go.WideShapes Go.ChangeAt Go.RowKit

theorem trodAll_below {H : Type} {enc : TypeId × Value → H} {P : Program} (hl : laidOutB P = true) {W W' : World} (hb : Below W.heap.size W W') :
    ∀ (ts : List TypeId) (vs : List Value) (ds : List (DataW H)) (ps : List MemPlace), (∀ t ∈ ts, P.readableRec t = true ∧ t < P.types.size) → (∀ x ∈ ps, x.block < W.heap.size) →
      DataW.TrodAll enc P W 0 (fun _ => true) true ts vs ds ps → DataW.TrodAll enc P W' 0 (fun b => decide (b < W.heap.size)) true ts vs ds ps
  | [], vs, ds, ps, _, _, h => by
    obtain ⟨rfl, rfl, rfl⟩ := trodAll_nil h
    exact trodAll_mk0
  | t :: ts, vs, ds, ps, ht, hp, h => by
    obtain ⟨v, vs1, d, ds1, a, b, rfl, rfl, rfl, h1, h2⟩ := trodAll_cons h
    exact ⟨a, b, Below.trod hl (ht t (by simp)).1 (ht t (by simp)).2 h1 hb (fun x hx => hp x (by simp [hx])),
      trodAll_below hl hb ts vs1 ds1 b (fun t' h' => ht t' (by simp [h'])) (fun x hx => hp x (by simp [hx])) h2, rfl⟩

theorem law_end {H : Type} {enc : TypeId × Value → H} {P : Program} {f : Func} {s : ChangeSpec} {W W' : World} {args : Array Value} {ds gs : List (DataW H)} {before : List MemPlace} {tb : TypeId}
    (hl : laidOutB P = true) (hts : ∀ t ∈ f.params.toList, P.readableRec t = true ∧ t < P.types.size) (hb4 : P.underlying tb = some .bool) (hrt : f.resultTypes = #[tb]) (hv : s.vars = [])
    (hW : DataW.Whole enc P f.params.toList s.vars false W args.toList ds gs before)
    (hfn : s.fn H (ds ++ gs) = { results := [.lit (.bool true)], args := ds }) (hbel : Below W.heap.size W W') :
    s.post enc P f false true false false W args (.bool true) W' := by
  have hlt : ∀ x ∈ before, x.block < W.heap.size := fun x hx => by simpa using hW.lt x hx
  have hW' := hW
  obtain ⟨p, q, hA, hV, rfl, _, _⟩ := hW
  rw [hv] at hV
  obtain ⟨rfl, rfl⟩ := trodVars_none hV
  have hargs := trodAll_below hl hbel _ _ _ _ hts (fun x hx => hlt x (by simp [hx])) hA
  refine ⟨ds, [], _, [] ++ [], p, [], hW', ?_, ?_, ?_, hbel.frame _, fun h => by cases h⟩
  · rw [hfn, hrt]; exact trodAll_mk1 (shut_bool hb4 _)
  · rw [hfn]; exact hargs
  · rw [hfn, hv]; rfl

theorem lt_of_row {W : World} {a : Addr} {m j : Nat} (hlt : ∀ x ∈ MemPlace.row a m, x.block < W.heap.size) (hj : j < m) : a.block < W.heap.size :=
  hlt (.cell a.block (a.off + j)) (MemPlace.mem_row.2 ⟨j, hj, rfl⟩)

/-- An argument []string, as 'Reads'. -/
theorem open_strs_reads {H : Type} {enc : TypeId × Value → H} {P : Program} {w : World} {r : Reach} {b0 t e : TypeId} {v : Value} {d : DataW H} {ps : List MemPlace} (ht : P.underlying t = some (.slice e)) (he : P.underlying e = some .string) (hc : P.cellsOf e = 1)
    (hval : Value.okWide P w r b0 t v) (h : DataW.Trod enc P w 0 (fun _ => true) true t v d ps) (hlt : ∀ x ∈ ps, x.block < w.heap.size) :
    ∃ (A : Option Addr) (n c : Nat) (ss : List ByteArray), v = .slice A n c ∧ Reads w w.heap.size A n (ss.map Value.string) ∧ n ≤ maxLen ∧ ∀ s ∈ ss, s.size ≤ maxLen := by
  obtain ⟨a0, len, cap, rfl⟩ := okWide_slice ht hval
  obtain ⟨fuel, hf⟩ := h
  rcases open_strings ht he hc hf with ⟨hcs, hx⟩ | ⟨a, len', cap', ss, hcs, _, hl, hm, hz, hx, hcell, hws⟩
  · simp [Value.cells] at hcs
    obtain ⟨rfl, rfl, rfl⟩ := hcs
    exact ⟨none, 0, 0, [], rfl, Reads.none_, Nat.zero_le _, by simp⟩
  · simp [Value.cells] at hcs
    obtain ⟨rfl, rfl, rfl⟩ := hcs
    simp only [Prod.mk.injEq] at hx
    obtain ⟨rfl, rfl⟩ := hx
    simp only [if_true] at hz
    refine ⟨some a, len, cap, ss.take len, rfl, ⟨by simp; omega, fun hn => ⟨a, rfl, lt_of_row (j := 0) hlt (by omega), fun j u hu => ?_⟩⟩, by omega, fun s hs => hws s (List.mem_of_mem_take hs)⟩
    rw [List.getElem?_map, List.getElem?_take] at hu
    by_cases hj : j < len
    · rw [if_pos hj] at hu
      rw [hcell j (by omega), ← hu, List.getD_eq_getElem?_getD]
      have : ss[j]? = some ss[j] := List.getElem?_eq_getElem (by omega)
      rw [this]; rfl
    · rw [if_neg hj] at hu; cases hu

/-- An argument of integers, as 'Reads'. -/
theorem open_ints_reads {H : Type} {enc : TypeId × Value → H} {P : Program} {w : World} {r : Reach} {b0 t e : TypeId} {ik : IntKind} {v : Value} {d : DataW H} {ps : List MemPlace} (ht : P.underlying t = some (.slice e)) (he : P.underlying e = some (.int ik)) (hc : P.cellsOf e = 1)
    (hval : Value.okWide P w r b0 t v) (h : DataW.Trod enc P w 0 (fun _ => true) true t v d ps) (hlt : ∀ x ∈ ps, x.block < w.heap.size) :
    ∃ (A : Option Addr) (n c : Nat) (zs : List Int), v = .slice A n c ∧ Reads w w.heap.size A n (zs.map (Value.int ik)) ∧ n ≤ maxLen ∧ ∀ z ∈ zs, (Lit.int ik z).wf = true := by
  obtain ⟨a0, len, cap, rfl⟩ := okWide_slice ht hval
  obtain ⟨fuel, hf⟩ := h
  rcases open_ints ht he hc hf with ⟨hcs, hx⟩ | ⟨a, len', cap', zs, hcs, _, hl, hm, hz, hx, hcell, hws⟩
  · simp [Value.cells] at hcs
    obtain ⟨rfl, rfl, rfl⟩ := hcs
    exact ⟨none, 0, 0, [], rfl, Reads.none_, Nat.zero_le _, by simp⟩
  · simp [Value.cells] at hcs
    obtain ⟨rfl, rfl, rfl⟩ := hcs
    simp only [Prod.mk.injEq] at hx
    obtain ⟨rfl, rfl⟩ := hx
    simp only [if_true] at hz
    refine ⟨some a, len, cap, zs.take len, rfl, ⟨by simp; omega, fun hn => ⟨a, rfl, lt_of_row (j := 0) hlt (by omega), fun j u hu => ?_⟩⟩, by omega, fun s hs => hws s (List.mem_of_mem_take hs)⟩
    rw [List.getElem?_map, List.getElem?_take] at hu
    by_cases hj : j < len
    · rw [if_pos hj] at hu
      rw [hcell j (by omega), ← hu, List.getD_eq_getElem?_getD]
      have : zs[j]? = some zs[j] := List.getElem?_eq_getElem (by omega)
      rw [this]; rfl
    · rw [if_neg hj] at hu; cases hu
theorem bytes_of_wf : ∀ (zs : List Int), (∀ z ∈ zs, (Lit.int .u8 z).wf = true) → ∃ bs : List UInt8, zs.map (Value.int .u8) = u8s bs
  | [], _ => ⟨[], rfl⟩
  | z :: r, h => by
    obtain ⟨bs, hb⟩ := bytes_of_wf r (fun y hy => h y (by simp [hy]))
    have hz : 0 ≤ z ∧ z ≤ 255 := by simpa [Lit.wf, IntKind.min, IntKind.max, IntKind.signed, IntKind.bits] using h z (by simp)
    refine ⟨UInt8.ofNat z.toNat :: bs, ?_⟩
    have e : ((UInt8.ofNat z.toNat).toNat : Int) = z := by rw [UInt8.toNat_ofNat']; omega
    simp only [u8s, List.map_cons, e]
    rw [hb]; rfl
theorem open_bytes_reads {H : Type} {enc : TypeId × Value → H} {P : Program} {w : World} {r : Reach} {b0 t e : TypeId} {v : Value} {d : DataW H} {ps : List MemPlace} (ht : P.underlying t = some (.slice e)) (he : P.underlying e = some (.int .u8)) (hc : P.cellsOf e = 1)
    (hval : Value.okWide P w r b0 t v) (h : DataW.Trod enc P w 0 (fun _ => true) true t v d ps) (hlt : ∀ x ∈ ps, x.block < w.heap.size) :
    ∃ (A : Option Addr) (n c : Nat) (bs : List UInt8), v = .slice A n c ∧ Reads w w.heap.size A n (u8s bs) ∧ n ≤ maxLen := by
  obtain ⟨A, n, c, zs, rfl, hr, hn, hw⟩ := open_ints_reads ht he hc hval h hlt
  obtain ⟨bs, hb⟩ := bytes_of_wf zs hw
  exact ⟨A, n, c, bs, rfl, by rw [← hb]; exact hr, hn⟩
theorem cellsByte : Try.prog.cellsOf 5 = 1 := by kernel_rfl

theorem laidOut : laidOutB Try.prog = true := by kernel_rfl
theorem own : ownKnob Try.prog.godebug = none := by kernel_rfl
end Go.Proofs.Ytichenjbkclljaa
