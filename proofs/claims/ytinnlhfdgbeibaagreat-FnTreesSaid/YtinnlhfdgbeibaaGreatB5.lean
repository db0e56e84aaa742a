/-
  Words and contracts that the laws lean on, bundled: CloM, Clo, InflS, InflL, CloS, Draw5, AtS, End, IntsA.
-/
import Derived.Test.YtinnlhfdgbeibaaGreatB3
import Derived.Test.YtinnlhfdgbeibaaGreatB4
import Derived.Test.YtinnlhfdgbeibaaGreatB2
import Derived.OwnWalk
import Derived.Test.YtinnlhfdgbeibaaGreatB1
import Derived.Test.YtinnlhfdgbeibaaGreatRows
import Derived.ProofKit
import Derived.OpenShut
import Derived.Carry
import Derived.SliceStrings
import Derived.LaidMore

/-
  PLAIN: the closure of two places. Nothing here speaks of the program.
-/

namespace Go.Proofs.YtinnlhfdgbeibaaGreat
set_option maxRecDepth 100000

/-- What two intervals share, if the second one has both places. -/
def cloStep (x y : Int) (c q : Int × Int) : Int × Int := if q.1 ≤ x ∧ y ≤ q.2 then (max c.1 q.1, min c.2 q.2) else c
def cloF (p : List Int) (x y : Int) (k : Nat) : Int × Int := ((ivL p).take k).foldl (cloStep x y) (1, (p.length : Int))
def cloOK (p : List Int) (f t : Int) : Bool := isP p && decide (1 ≤ f ∧ f ≤ (p.length : Int)) && decide (1 ≤ t ∧ t ≤ (p.length : Int))
def cloR (p : List Int) (f t : Int) : List Int := if cloOK p f t then two (cloF p (min f t) (max f t) (ivL p).length) else []
theorem cloR_yes {p : List Int} {f t : Int} (h : cloOK p f t = true) : cloR p f t = two (cloF p (min f t) (max f t) (ivL p).length) := by unfold cloR; rw [if_pos h]
theorem cloR_no {p : List Int} {f t : Int} (h : cloOK p f t = false) : cloR p f t = [] := by unfold cloR; rw [if_neg (by simp [h])]
theorem cloR_le (p : List Int) (f t : Int) : (cloR p f t).length ≤ 2 := by
  cases h : cloOK p f t with
  | true => rw [cloR_yes h]; simp [two]
  | false => rw [cloR_no h]; simp
theorem cloOK_all {p : List Int} {f t : Int} (h : cloOK p f t = true) : isP p = true ∧ (1 ≤ f ∧ f ≤ (p.length : Int)) ∧ (1 ≤ t ∧ t ≤ (p.length : Int)) := by
  simp only [cloOK, Bool.and_eq_true, decide_eq_true_eq] at h
  exact ⟨h.1.1, h.1.2, h.2⟩
theorem cloOK_no1 {p : List Int} {f t : Int} (h : isP p = false) : cloOK p f t = false := by simp [cloOK, h]
theorem cloOK_no2 {p : List Int} {f t : Int} (h : ¬ (1 ≤ f ∧ f ≤ (p.length : Int))) : cloOK p f t = false := by
  unfold cloOK; rw [show decide (1 ≤ f ∧ f ≤ (p.length : Int)) = false from decide_eq_false h]; simp
theorem cloOK_no3 {p : List Int} {f t : Int} (h : ¬ (1 ≤ t ∧ t ≤ (p.length : Int))) : cloOK p f t = false := by
  unfold cloOK; rw [show decide (1 ≤ t ∧ t ≤ (p.length : Int)) = false from decide_eq_false h]; simp
theorem cloOK_yes {p : List Int} {f t : Int} (h1 : isP p = true) (h2 : 1 ≤ f ∧ f ≤ (p.length : Int)) (h3 : 1 ≤ t ∧ t ≤ (p.length : Int)) : cloOK p f t = true := by
  simp [cloOK, h1, h2, h3]
theorem cloF_zero (p : List Int) (x y : Int) : cloF p x y 0 = (1, (p.length : Int)) := by simp [cloF]
theorem cloF_step {p : List Int} {x y : Int} {k : Nat} {q : Int × Int} (h : (ivL p)[k]? = some q) : cloF p x y (k + 1) = cloStep x y (cloF p x y k) q := by
  unfold cloF
  rw [List.take_add_one, h]
  simp
theorem fold_clo (x y M N : Int) : ∀ (l : List (Int × Int)) (c : Int × Int), c.1 ≤ M → N ≤ c.2 → (∀ q ∈ l, q.1 ≤ x → y ≤ q.2 → q.1 ≤ M ∧ N ≤ q.2) →
    c.1 ≤ (l.foldl (cloStep x y) c).1 ∧ (l.foldl (cloStep x y) c).1 ≤ M ∧ N ≤ (l.foldl (cloStep x y) c).2 ∧ (l.foldl (cloStep x y) c).2 ≤ c.2 ∧
      ∀ q ∈ l, q.1 ≤ x → y ≤ q.2 → q.1 ≤ (l.foldl (cloStep x y) c).1 ∧ (l.foldl (cloStep x y) c).2 ≤ q.2
  | [], c, h1, h2, _ => ⟨Int.le_refl _, h1, h2, Int.le_refl _, fun q hq => by simp at hq⟩
  | q :: l, c, h1, h2, h => by
    rw [List.foldl_cons]
    have hl : ∀ q ∈ l, q.1 ≤ x → y ≤ q.2 → q.1 ≤ M ∧ N ≤ q.2 := fun r hr => h r (by simp [hr])
    by_cases hc : q.1 ≤ x ∧ y ≤ q.2
    · have hq := h q (by simp) hc.1 hc.2
      have e : cloStep x y c q = (max c.1 q.1, min c.2 q.2) := by unfold cloStep; rw [if_pos hc]
      have ih := fold_clo x y M N l (cloStep x y c q) (by rw [e]; simp only; omega) (by rw [e]; simp only; omega) hl
      rw [e] at ih ⊢
      simp only at ih
      refine ⟨by omega, ih.2.1, ih.2.2.1, by omega, fun r hr h1 h2 => ?_⟩
      rcases List.mem_cons.1 hr with rfl | hr
      · omega
      · exact ih.2.2.2.2 r hr h1 h2
    · have e : cloStep x y c q = c := by unfold cloStep; rw [if_neg hc]
      have ih := fold_clo x y M N l c h1 h2 hl
      rw [e]
      refine ⟨ih.1, ih.2.1, ih.2.2.1, ih.2.2.2.1, fun r hr h1 h2 => ?_⟩
      rcases List.mem_cons.1 hr with rfl | hr
      · exact absurd ⟨h1, h2⟩ hc
      · exact ih.2.2.2.2 r hr h1 h2
theorem cloF_bnd (p : List Int) (x y : Int) (k : Nat) : 1 ≤ (cloF p x y k).1 ∧ (cloF p x y k).2 ≤ (p.length : Int) := by
  have : ∀ (l : List (Int × Int)) (c : Int × Int), c.1 ≤ (l.foldl (cloStep x y) c).1 ∧ (l.foldl (cloStep x y) c).2 ≤ c.2 := fun l => by
    induction l with
    | nil => intro c; exact ⟨Int.le_refl _, Int.le_refl _⟩
    | cons q l ih =>
      intro c
      have h := ih (cloStep x y c q)
      have h2 : c.1 ≤ (cloStep x y c q).1 ∧ (cloStep x y c q).2 ≤ c.2 := by
        unfold cloStep; split <;> (try simp only) <;> omega
      rw [List.foldl_cons]; omega
  have h := this ((ivL p).take k) (1, (p.length : Int))
  exact h
theorem cloF_up {p : List Int} (h : isP p = true) (x y : Int) (k : Nat) : (cloF p x y k).1 ≤ 8 ∧ 0 ≤ (cloF p x y k).2 := by
  have hq : ∀ q ∈ ivL p, 1 ≤ q.1 ∧ q.1 ≤ 8 ∧ 1 ≤ q.2 ∧ q.2 ≤ 8 := fun q hq => by
    obtain ⟨a, j, h1, rfl, _⟩ := mem_ivL.1 hq
    have := isP_le h
    simp only; omega
  have := fold_clo x y 8 0 ((ivL p).take k) (1, (p.length : Int)) (by simp) (by simp) (fun q hm _ _ => by have := hq q (List.mem_of_mem_take hm); omega)
  exact ⟨this.2.1, this.2.2.1⟩

/-- Where the search for the least interval stands. -/
def CInv (p : List Int) (x y : Int) (a b : Nat) : Prop :=
  ((a : Int) + 1 ≤ x ∧ y ≤ (b : Int) + 1 ∧ a ≤ b ∧ b < p.length) ∧ ∀ q ∈ ivL p, q.1 ≤ x → y ≤ q.2 → q.1 ≤ (a : Int) + 1 ∧ (b : Int) + 1 ≤ q.2
theorem CInv.start {p : List Int} {x y : Int} (h1 : 1 ≤ x) (h2 : x ≤ y) (h3 : y ≤ (p.length : Int)) : CInv p x y (x - 1).toNat (y - 1).toNat :=
  ⟨by omega, fun q _ hq1 hq2 => by omega⟩
theorem CInv.done {p : List Int} {x y : Int} {a b : Nat} (h : CInv p x y a b) (hv : iv p a (b - a) = true) : cloF p x y (ivL p).length = ((a : Int) + 1, (b : Int) + 1) := by
  obtain ⟨⟨h1, h2, h3, h4⟩, h5⟩ := h
  have hm : ((a : Int) + 1, (b : Int) + 1) ∈ ivL p := mem_ivL.2 ⟨a, b - a, by omega, by rw [Prod.mk.injEq]; omega, hv⟩
  have hf := fold_clo x y ((a : Int) + 1) ((b : Int) + 1) (ivL p) (1, (p.length : Int)) (by simp only; omega) (by simp only; omega) h5
  obtain ⟨_, f2, f3, _, f5⟩ := hf
  have f6 := f5 _ hm h1 h2
  simp only at f6
  unfold cloF
  rw [List.take_length]
  exact Prod.ext (by simp only; omega) (by simp only; omega)
/-- A place whose number lies between two numbers of the run lies in every interval around it. -/
theorem CInv.holds {p : List Int} {x y : Int} {a b : Nat} (hp : isP p = true) (h : CInv p x y a b) {c : Nat} {v : Int} (hc : p[c]? = some v) (h1 : lo (seg p a (b - a + 1)) ≤ v) (h2 : v ≤ hi (seg p a (b - a + 1))) :
    ∀ q ∈ ivL p, q.1 ≤ x → y ≤ q.2 → q.1 ≤ (c : Int) + 1 ∧ (c : Int) + 1 ≤ q.2 := fun q hq hq1 hq2 => by
  obtain ⟨⟨g1, g2, g3, g4⟩, g5⟩ := h
  have g6 := g5 q hq hq1 hq2
  obtain ⟨a', j, i1, rfl, i3⟩ := mem_ivL.1 hq
  simp only at g6 ⊢
  have sub : ∀ z ∈ seg p a (b - a + 1), z ∈ seg p a' (j + 1) := fun z hz => by
    obtain ⟨i, e1, e2, e3⟩ := mem_seg.1 hz
    exact mem_seg.2 ⟨i, by omega, by omega, e3⟩
  have l1 := (lo_le (seg p a' (j + 1))).1 _ (sub _ (lo_in hp (by omega) (by omega)))
  have l2 := (le_hi (seg p a' (j + 1))).1 _ (sub _ (hi_in hp (by omega) (by omega)))
  obtain ⟨i, e1, e2, e3⟩ := mem_seg.1 (iv_has hp i1 i3 (x := v) (by omega) (by omega))
  have := isP_same hp hc e3
  omega
theorem CInv.widen {p : List Int} {x y : Int} {a b : Nat} (h : CInv p x y a b) {c : Nat} (hc : c < p.length) (hq : ∀ q ∈ ivL p, q.1 ≤ x → y ≤ q.2 → q.1 ≤ (c : Int) + 1 ∧ (c : Int) + 1 ≤ q.2) : CInv p x y (min a c) (max b c) := by
  obtain ⟨⟨g1, g2, g3, g4⟩, g5⟩ := h
  refine ⟨by omega, fun q hm h1 h2 => ?_⟩
  have e1 := hq q hm h1 h2
  have e2 := g5 q hm h1 h2
  omega
/-- A run that is no interval lacks a number between two of its own. -/
theorem run_lacks {p : List Int} {a b a1 b1 : Nat} (hp : isP p = true) (hab : a ≤ b) (hb : b < p.length) (hv : iv p a (b - a) = false) (h1 : a1 ≤ a) (h2 : b ≤ b1)
    (hall : ∀ (c : Nat) v, p[c]? = some v → lo (seg p a (b - a + 1)) ≤ v → v ≤ hi (seg p a (b - a + 1)) → a1 ≤ c ∧ c ≤ b1) : b - a < b1 - a1 := by
  by_cases hlt : b - a < b1 - a1
  · exact hlt
  · exfalso
    have e1 : a1 = a := by omega
    have e2 : b1 = b := by omega
    subst e1; subst e2
    have hn : ¬ iv p a1 (b1 - a1) = true := by simp [hv]
    apply hn
    have hs := seg_frm hp (a := a1) (m := b1 - a1 + 1) (by omega) (by omega)
    have hL := (seg_bounds hp a1 (b1 - a1 + 1) _ (lo_in hp (by omega) (by omega))).1
    have hH : hi (seg p a1 (b1 - a1 + 1)) ≤ (p.length : Int) := by
      obtain ⟨j, _, _, hj⟩ := mem_seg.1 (hi_in hp (a := a1) (m := b1 - a1 + 1) (by omega) (by omega))
      exact (isP_range hp hj).2
    have hle := pigeon_le (l := frm' (lo (seg p a1 (b1 - a1 + 1))) (hi (seg p a1 (b1 - a1 + 1)) - lo (seg p a1 (b1 - a1 + 1)) + 1).toNat) (m := seg p a1 (b1 - a1 + 1)) (frm'_nodup _ _) (fun v hv => by
      have hm := mem_frm'.1 hv
      have hin := isP_has hp (x := v) (by omega) (by omega)
      obtain ⟨c, hc, rfl⟩ := List.getElem_of_mem hin
      have hc' := List.getElem?_eq_getElem hc
      have h3 := hall c _ hc' (by omega) (by omega)
      exact mem_seg.2 ⟨c, h3.1, by omega, hc'⟩)
    rw [frm'_length, seg_length (by omega)] at hle
    rw [iv_true]
    omega
end Go.Proofs.YtinnlhfdgbeibaaGreat


/-
  impl.isPlace, impl.ClosureOf, spec.ClosureOf, by their contracts.
-/

namespace Go.Proofs.YtinnlhfdgbeibaaGreat
set_option maxRecDepth 100000
open Go.RowKit

theorem Drew.below_size {w w' : World} (h : Drew w w') : w.heap.size ≤ w'.heap.size := Nat.le_of_eq h.size.symm
theorem Prs.stay {w : World} {B : Nat} {v : Value} {l : List (Int × Int)} (h : Prs w B v l) {p : Addr} (hp : p.block < B) (u : Value) : Prs (w.setCell p u) B v l := by
  refine ⟨h.1, ?_⟩
  rcases h.2 with h0 | ⟨g', cap, cur, rfl, hb, hg, hr⟩
  · exact .inl h0
  · exact .inr ⟨g', cap, cur, rfl, hb, (Below.heap_setCell w p u g' (by omega)).trans hg, hr⟩
theorem Prs.upper {w w' : World} {B B' : Nat} {v : Value} {l : List (Int × Int)} (h : Prs w B v l) (hb : Below B' w w') (hB : w.heap.size ≤ B') : Prs w' B v l := h.below (hb.mono hB)

end Go.Proofs.YtinnlhfdgbeibaaGreat


/-
  spec.InflateBy, by its contract.
-/

namespace Go.Proofs.YtinnlhfdgbeibaaGreat
set_option maxRecDepth 100000
open Go.RowKit

set_option maxHeartbeats 3200000 in
theorem sinfl_any (A A' : Option Addr) (n c B n' c' B' : Nat) (p : List Int) (l : List (List Int)) (w : World) (h : Arg w B A n c p) (hS : IntsS w B' (.slice A' n' c') l) (hn : n' ≤ 1048576) (hsm : ∀ z ∈ l, z.length ≤ 1048576 ∧ Small z) :
    Calls Tryz.prog 23 #[.slice A n c, .slice A' n' c'] w (GivesIB w (inflR p l) (inflOK p l)) := by
  obtain ⟨i0, hi, hz0, hz1, hz2⟩ := info_parts intInfo
  obtain ⟨b, hb⟩ : ∃ b, isP p = b := ⟨_, rfl⟩
  have H0 := hide (sisperm_any A n c B p b hb w h.reads h.le h.cap)
  have hl := h.len
  have hsl := hS.len
  cases b with
  | false =>
    rw [inflR_no (inflOK_no1 hb), inflOK_no1 hb]
    clear hb h hl hS hsl
    go_enter Tryz.func23, Tryz.ntmps23
    go_wp2_with fail
    refine (unhide H0).mono ?_
    rintro e w1 ⟨rfl, hd⟩
    have hb2 := (hd.below w.heap.size).alloc hd.below_size (.cells #[] 3)
    have hI := Ints.made0 w1 w.heap.size hd.below_size
    clear H0 hd
    go_wp2
    go_ret2
    exact GivesIB.mk _ hI hb2
  | true =>
    by_cases hnn : n' = n
    rotate_left
    · rw [inflR_no (inflOK_no2 (by omega)), inflOK_no2 (by omega)]
      have hnn' : ¬ (n' : Int) = (n : Int) := by omega
      clear hb h hl hS hsl
      go_enter Tryz.func23, Tryz.ntmps23
      go_wp2_with fail
      refine (unhide H0).mono ?_
      rintro e w1 ⟨rfl, hd⟩
      have hb2 := (hd.below w.heap.size).alloc hd.below_size (.cells #[] 3)
      have hI := Ints.made0 w1 w.heap.size hd.below_size
      clear H0 hd
      go_wp2
      go_ret2
      exact GivesIB.mk _ hI hb2
    subst hnn
    have hn8 : n' ≤ 8 := by have := isP_le hb; omega
    obtain ⟨b2, hb2⟩ : ∃ b, allP l = b := ⟨_, rfl⟩
    have H1 := hide (fun w' (hd : Drew w w') => l3all_any A' n' c' B' l b2 hb2 w' (hS.below (hd.below _)) hn hsm)
    cases b2 with
    | false =>
      rw [inflR_no (inflOK_no3 hb2), inflOK_no3 hb2]
      clear hb h hl hS hsl hb2
      go_enter Tryz.func23, Tryz.ntmps23
      go_wp2_with fail
      refine (unhide H0).mono ?_
      rintro e w1 ⟨rfl, hd⟩
      have H2 := hide (unhide H1 _ hd)
      go_wp2_with fail
      refine (unhide H2).mono ?_
      rintro e w2 ⟨rfl, hd2⟩
      have hd := hd.trans hd2
      have hb2 := (hd.below w.heap.size).alloc hd.below_size (.cells #[] 3)
      have hI := Ints.made0 w2 w.heap.size hd.below_size
      clear H0 hd hd2 H1 H2
      go_wp2
      go_ret2
      exact GivesIB.mk _ hI hb2
    | true =>
      have HP := hide hb
      have HL := hide hl
      have HSL := hide hsl
      have HC := hide h
      have HS := hide hS
      have HSM := hide hsm
      have HAP := hide hb2
      have HN4 := hide (fun z (hz : z ∈ l) (hzb : z.length = 0) => inflOK_no4 (p := p) (noNil_no hz hzb))
      have HN5 := hide (fun (hx : ¬ tot l ≤ 8) => inflOK_no5 (p := p) hx)
      clear hb h hl hS hsl hsm hb2
      go_enter Tryz.func23, Tryz.ntmps23
      go_wp2_with fail
      refine (unhide H0).mono ?_
      rintro e w1 ⟨rfl, hd⟩
      have H2 := hide (unhide H1 _ hd)
      go_wp2_with fail
      refine (unhide H2).mono ?_
      rintro e w2 ⟨rfl, hd2⟩
      have hdd := hd.trans hd2
      have hsz := hdd.below_size
      have hbw := hdd.below w.heap.size
      clear H0 hd hd2 H1 H2 hdd
      go_wp2
      go_loop [6, 7] (fun t i => ∃ k : Nat, k ≤ n' ∧ i = .int .i64 k ∧ t = .int .i64 (tot (l.take k) : Int) ∧ tot (l.take k) ≤ 8 ∧ Hid (∀ y ∈ l.take k, y.length ≠ 0)) (fun _ i => n' - (intOf i).toNat)
      case atStart => exact ⟨0, Nat.zero_le _, rfl, rfl, by simp [tot], fun y hy => by simp at hy⟩
      case round =>
        obtain ⟨k, hk, rfl, rfl, ht8, hall⟩ := hrel
        obtain ⟨T, hT⟩ : ∃ T, T = tot (l.take k) := ⟨_, rfl⟩
        rw [← hT] at ht8 ⊢
        by_cases hlt : k < n'
        · obtain ⟨ad', A1, c1, z, rfl, hz, hcell, hIz⟩ := (unhide HS).at_low hbw hlt
          obtain ⟨hzl, hzs⟩ := unhide HSM z (List.mem_of_getElem? hz)
          obtain ⟨m, hm⟩ : ∃ m, z.length = m := ⟨_, rfl⟩
          have hst := tot_step hz
          rw [← hT, hm] at hst
          rw [hm] at hcell hzl hIz
          have htl := tot_take l (k + 1)
          by_cases h0 : m = 0
          · subst h0
            have hno := unhide HN4 z (List.mem_of_getElem? hz) hm
            have hb2 := hbw.alloc hsz (.cells #[] 3)
            have hI := Ints.made0 w2 w.heap.size hsz
            have HE := hide (And.intro (inflR_no hno) hno)
            clear hz hIz hm hno hall hT hst htl
            go_wp2
            go_ret2
            rw [(unhide HE).1, (unhide HE).2]
            exact GivesIB.mk _ hI hb2
          · by_cases h8 : T + m ≤ 8
            · have hall2 : Hid (∀ y ∈ l.take (k + 1), y.length ≠ 0) := hide (fun y hy => by
                rw [List.take_add_one, hz] at hy
                rcases List.mem_append.1 hy with hy | hy
                · exact unhide hall y hy
                · simp at hy
                  subst hy
                  omega)
              have HST := hide hst
              clear hz hIz hm hall hT hst htl
              have hm0 : ((m : Int) == 0) = false := by rw [beq_eq_false_iff_ne]; omega
              have hm8 : ¬ 8 < (T : Int) + (m : Int) := by omega
              go_wp2
              go_round
              case rel => exact ⟨k + 1, by omega, by go_num, by rw [unhide HST]; go_num, by rw [unhide HST]; exact h8, hall2⟩
              case measure => simp [intOf]; omega
            · have hno := unhide HN5 (by omega)
              have hb2 := hbw.alloc hsz (.cells #[] 3)
              have hI := Ints.made0 w2 w.heap.size hsz
              have HE := hide (And.intro (inflR_no hno) hno)
              clear hz hIz hm hno hall hT hst htl
              go_wp2
              go_ret2
              rw [(unhide HE).1, (unhide HE).2]
              exact GivesIB.mk _ hI hb2
        · obtain rfl : n' = k := by omega
          have e : l.take n' = l := List.take_of_length_le (by rw [unhide HSL]; exact Nat.le_refl _)
          have hnn : noNil l = true := noNil_yes fun z hz => unhide hall z (by rw [e]; exact hz)
          have hok : inflOK p l = true := inflOK_yes (unhide HP) (by rw [unhide HL, unhide HSL]) (unhide HAP) hnn (by rw [e] at hT; omega)
          have HE := hide (And.intro (show inflR p l = inflK p l n' by rw [inflR_yes hok, unhide HL]) hok)
          have HT : Hid (∀ k, (inflK p l k).length ≤ 8) := hide (fun k => by
            rw [inflK_length]
            have := tot_take l k
            rw [e] at hT; omega)
          have hst := own0 w2 w.heap.size hsz
          have hbw2 := hbw.alloc hsz (.cells #[] 3)
          clear e hnn hok hall hT
          go_wp2
          go_loopw [8, 9, 10, 11, 12] (fun v i _ _ _ wr => ∃ k : Nat, k ≤ n' ∧ i = .int .i64 k ∧ Below w.heap.size w wr ∧ wr.ownsRow w.heap.size 3 1 v (inflK p l k).length (i64s (inflK p l k))) (fun _ i _ _ _ _ => n' - (intOf i).toNat)
          case atStart => exact ⟨0, Nat.zero_le _, rfl, hbw2, hst⟩
          case round =>
            obtain ⟨k, hk, rfl, hbr, hown⟩ := hrel
            clear hst hbw2
            by_cases hlt2 : k < n'
            · obtain ⟨ad, u, rfl, _, hu, hc⟩ := ((unhide HC).below hbr).reads.at_ hlt2
              obtain ⟨x, hx, rfl⟩ := i64_at hu
              obtain ⟨ad', A1, c1, z, rfl, hz, hcell, hIz⟩ := (unhide HS).at_low hbr hlt2
              obtain ⟨hzl, hzs⟩ := unhide HSM z (List.mem_of_getElem? hz)
              have hAw := hIz.arg hzl hIz.cap hzs
              have hzP := allP_at (unhide HAP) (List.mem_of_getElem? hz)
              obtain ⟨m, hm⟩ : ∃ m, z.length = m := ⟨_, rfl⟩
              rw [hm] at hcell hzl hIz hAw
              have HM := hide hm
              have hm8 : m ≤ 8 := by have := isP_le hzP; omega
              have HZP := hide hzP
              have HA := hide hAw
              have HX := hide hx
              have HZ := hide hz
              have HK := hide (inflK_step hx hz)
              have HBT := hide (fun j => baseK_tot p l x j)
              have HTT := hide (fun j => tot_take l j)
              have HT8 : Hid (tot l ≤ 8) := hide (by
                have h1 := unhide HT n'
                rw [inflK_length, List.take_of_length_le (by rw [unhide HSL]; exact Nat.le_refl _)] at h1
                exact h1)
              obtain ⟨wo, rfl⟩ : ∃ wo : World, wo = wr := ⟨_, rfl⟩
              clear hu hx hz hIz hAw hzP hm hc hcell
              go_wp2
              go_loopw [10, 11] (fun bs i wi => ∃ j : Nat, j ≤ n' ∧ i = .int .i64 j ∧ bs = .int .i64 (baseK p l x j : Int) ∧ Drew wo wi) (fun _ i _ => n' - (intOf i).toNat)
              case atStart => exact ⟨0, Nat.zero_le _, rfl, rfl, Drew.refl _⟩
              case round =>
                obtain ⟨j, hj, rfl, rfl, hd⟩ := hrel
                have hbi := hbr.trans (hd.below w.heap.size)
                have hown1 := own_below hown (hd.below _)
                have hbt := unhide HBT j
                have htt := unhide HTT j
                have ht8 := unhide HT8
                by_cases hlt3 : j < n'
                · obtain ⟨ad2, u2, he2, _, hu2, hc2⟩ := ((unhide HC).below hbi).reads.at_ hlt3
                  injection he2 with he2
                  subst he2
                  obtain ⟨y, hy, rfl⟩ := i64_at hu2
                  obtain ⟨ad3, u3, he3, _, hu3, hc3⟩ := ((unhide HC).below hbi).reads.at_ hlt2
                  injection he3 with he3
                  subst he3
                  obtain ⟨x3, hx3, rfl⟩ := i64_at hu3
                  obtain rfl : x = x3 := by have := unhide HX; rw [hx3] at this; exact (Option.some.inj this).symm
                  obtain ⟨ad4, A4, c4, z4, he4, hz4, hcell4, _⟩ := (unhide HS).at_low hbi hlt3
                  injection he4 with he4
                  subst he4
                  have hzl4 := (unhide HSM z4 (List.mem_of_getElem? hz4)).1
                  obtain ⟨m4, hm4⟩ : ∃ m4, z4.length = m4 := ⟨_, rfl⟩
                  rw [hm4] at hcell4 hzl4
                  obtain ⟨b0, hb0⟩ : ∃ b0, b0 = baseK p l x j := ⟨_, rfl⟩
                  rw [← hb0] at hbt ⊢
                  have hb8 : b0 ≤ 8 := by omega
                  have HD := hide hd
                  clear hu2 hu3 hx3 hbt htt ht8 hd hown1
                  by_cases hyx : y < x
                  · have hs := hide (baseK_yes hy hz4 hyx)
                    rw [← hb0, hm4] at hs
                    clear hy hz4 hm4 hb0
                    go_wp2
                    go_quiet ((go_at_call 54; exact Calls.quiet_of_same (bit_true _)))
                    go_wp2
                    go_roundw
                    case rel => exact ⟨j + 1, by omega, by go_num, by rw [unhide hs]; go_num, (unhide HD).more _⟩
                    case measure => simp [intOf]; omega
                  · have hs := hide (baseK_no (l := l) hy hyx)
                    rw [← hb0] at hs
                    have hdf : decide (y < x) = false := by simpa using hyx
                    clear hy hz4 hm4 hb0
                    go_wp2
                    go_quiet ((go_at_call 54; exact Calls.quiet_of_same (bit_false _)))
                    go_wp2
                    go_roundw
                    case rel => exact ⟨j + 1, by omega, by go_num, by rw [unhide hs], (unhide HD).more _⟩
                    case measure => simp [intOf]; omega
                · obtain rfl : n' = j := by omega
                  obtain ⟨r, hr⟩ : ∃ r, r = baseK p l x n' := ⟨_, rfl⟩
                  rw [← hr] at hbt ⊢
                  have hr8 : r ≤ 8 := by omega
                  have HK2 : Hid (inflK p l (k + 1) = inflK p l k ++ z.map (fun v => v + (r : Int))) := hide (by rw [unhide HK, unhide HL, hr])
                  have hst : wr.ownsRow w.heap.size 3 1 u8 (inflK p l k ++ (z.take 0).map (fun v => v + (r : Int))).length (i64s (inflK p l k ++ (z.take 0).map (fun v => v + (r : Int)))) := by
                    rw [List.take_zero, List.map_nil, List.append_nil]; exact hown1
                  clear hown1 hbt htt ht8 hd hown hbr hr
                  go_wp2
                  go_loopw [8, 12] (fun v i wi => ∃ j : Nat, j ≤ m ∧ i = .int .i64 j ∧ Below w.heap.size w wi ∧ wi.ownsRow w.heap.size 3 1 v (inflK p l k ++ (z.take j).map (fun v => v + (r : Int))).length (i64s (inflK p l k ++ (z.take j).map (fun v => v + (r : Int))))) (fun _ i _ => m - (intOf i).toNat)
                  case atStart => exact ⟨0, Nat.zero_le _, rfl, hbi, hst⟩
                  case round =>
                    obtain ⟨j, hj, rfl, hbi, hown⟩ := hrel
                    clear hst
                    obtain ⟨ad4, A4, c4, z4, he4, hz4, hcell4, hIz4⟩ := (unhide HS).at_low hbi hlt2
                    injection he4 with he4
                    subst he4
                    obtain ⟨hzl4, hzs4⟩ := unhide HSM z4 (List.mem_of_getElem? hz4)
                    have hA4 := (hIz4.arg hzl4 hIz4.cap hzs4).below hbi
                    obtain rfl : z4 = z := by
                      have h1 := unhide HZ
                      rw [hz4] at h1
                      exact Option.some.inj h1
                    rw [unhide HM] at hcell4 hA4
                    by_cases hjm : j < m
                    · obtain ⟨ad3, u3, rfl, _, hu3, hc3⟩ := hA4.reads.at_ hjm
                      obtain ⟨y, hy, rfl⟩ := i64_at hu3
                      have hyr := isP_range (unhide HZP) hy
                      rw [unhide HM] at hyr
                      have hlj : (inflK p l k ++ (z4.take j).map (fun v => v + (r : Int))).length ≤ 72 := by
                        have := List.length_take_le j z4
                        have := unhide HT k
                        rw [List.length_append, List.length_map]; omega
                      have hnx := hide (congrArg (inflK p l k ++ ·) (map_take_one (r : Int) hy))
                      obtain ⟨R, hR⟩ : ∃ R, R = inflK p l k ++ (z4.take j).map (fun v => v + (r : Int)) := ⟨_, rfl⟩
                      rw [← hR] at hown hlj
                      have HRR := hide hR
                      clear hu3 hy hR hz4 hIz4 hA4
                      go_wp2_with (first
                        | (at_builtin; refine wpList_append_one rfl (.tmp 93) (.tmp 103) 24 rfl w.heap.size 3 i0 (.int .i64 0) 8 Tryz.underlying24 hi hz0 hz1 hz2 rfl w wr _ _ _ rfl hown (.int .i64 ((r : Int) + y)) rfl rfl rfl (by omega) (by unfold maxLen; omega) hbi hbi.size ?_))
                      intro v2 w4 hown4 hb4 _
                      have hown5 : w4.ownsRow w.heap.size 3 1 v2 (inflK p l k ++ (z4.take (j + 1)).map (fun v => v + (r : Int))).length (i64s (inflK p l k ++ (z4.take (j + 1)).map (fun v => v + (r : Int)))) := by
                        have e := unhide hnx
                        rw [e, ← List.append_assoc, ← unhide HRR, ← i64_snoc3, List.length_append, Int.add_comm y]
                        exact hown4
                      clear hown hown4 hbi
                      go_wp2
                      go_roundw
                      case rel => exact ⟨j + 1, by omega, by go_num, hb4, hown5⟩
                      case measure => simp [intOf]; omega
                    · obtain rfl : m = j := by omega
                      have hown5 : wr.ownsRow w.heap.size 3 1 u8 (inflK p l (k + 1)).length (i64s (inflK p l (k + 1))) := by
                        rw [unhide HK2]
                        have e : z4.take m = z4 := List.take_of_length_le (by rw [unhide HM]; exact Nat.le_refl _)
                        rw [e] at hown
                        exact hown
                      clear hown hz4 hIz4 hA4
                      go_wp2
                      go_roundw
                      case rel => exact ⟨k + 1, by omega, by go_num, hbi, hown5⟩
                      case measure => simp [intOf]; omega
            · obtain rfl : n' = k := by omega
              have hI : Ints wr w.heap.size u8 (inflK p l n') := Ints.of_own hown
              clear hown
              go_wp2
              go_ret2
              rw [(unhide HE).1, (unhide HE).2]
              exact GivesIB.mk _ hI hbr
end Go.Proofs.YtinnlhfdgbeibaaGreat


/-
  PLAIN: an inflation is a permutation, and its parts are intervals of it; a closure is an interval around both places.
-/

namespace Go.Proofs.YtinnlhfdgbeibaaGreat
set_option maxRecDepth 100000

theorem baseK_room {p : List Int} {l : List (List Int)} {i : Nat} {v : Int} {z : List Int} (hv : p[i]? = some v) (hz : l[i]? = some z) : ∀ k, i < k → baseK p l v k + z.length ≤ tot (l.take k)
  | 0, h => absurd h (by omega)
  | k + 1, h => by
    by_cases hi : i = k
    · subst hi
      rw [baseK_no hv (by omega), tot_step hz]
      have := baseK_tot p l v i
      omega
    · have ih := baseK_room hv hz k (by omega)
      rw [baseK]
      cases hk : l[k]? with
      | none => rw [List.take_add_one, hk]; simp; omega
      | some y =>
        have := tot_step hk
        simp only [Option.getD_some]
        split <;> omega
theorem baseK_up {p : List Int} {l : List (List Int)} {i : Nat} {v v' : Int} {z : List Int} (hv : p[i]? = some v) (hz : l[i]? = some z) (hlt : v < v') : ∀ k, (i < k → baseK p l v k + z.length ≤ baseK p l v' k) ∧ baseK p l v k ≤ baseK p l v' k
  | 0 => ⟨fun h => absurd h (by omega), Nat.le_refl _⟩
  | k + 1 => by
    obtain ⟨h1, h2⟩ := baseK_up hv hz hlt k
    by_cases hi : i = k
    · subst hi
      rw [baseK_no (l := l) hv (by omega), baseK_yes hv hz hlt]
      exact ⟨fun _ => by omega, by omega⟩
    · rw [baseK, baseK]
      have h3 : (if at0 p k < v then ((l[k]?).getD []).length else 0) ≤ (if at0 p k < v' then ((l[k]?).getD []).length else 0) := by
        by_cases h4 : at0 p k < v
        · rw [if_pos h4, if_pos (by omega)]; exact Nat.le_refl _
        · rw [if_neg h4]; exact Nat.zero_le _
      refine ⟨fun h => ?_, by omega⟩
      have := h1 (by omega)
      omega
theorem mem_inflK {p : List Int} {l : List (List Int)} {x : Int} (hl : l.length = p.length) : ∀ k, k ≤ p.length → x ∈ inflK p l k → ∃ i v z y, i < k ∧ p[i]? = some v ∧ l[i]? = some z ∧ y ∈ z ∧ x = y + (baseK p l v p.length : Int)
  | 0, _, h => by simp [inflK] at h
  | k + 1, hk, h => by
    have hv := at0_some (l := p) (k := k) (by omega)
    have hz : l[k]? = some (l[k]'(by omega)) := List.getElem?_eq_getElem _
    rw [inflK_step hv hz] at h
    rcases List.mem_append.1 h with h | h
    · obtain ⟨i, v, z, y, h1, h2⟩ := mem_inflK hl k (by omega) h
      exact ⟨i, v, z, y, by omega, h2⟩
    · obtain ⟨y, hy, rfl⟩ := List.mem_map.1 h
      exact ⟨k, _, _, y, by omega, hv, hz, hy, rfl⟩
section
variable {p : List Int} {l : List (List Int)} (h : inflOK p l = true)
include h
theorem infl_nodup : ∀ k, k ≤ p.length → (inflK p l k).Nodup := fun k => by
  obtain ⟨hp, hl, hall, _, _⟩ := inflOK_all h
  induction k with
  | zero => intro _; simp [inflK]
  | succ k ih =>
    intro hk
    have hv := at0_some (l := p) (k := k) (by omega)
    have hz : l[k]? = some (l[k]'(by omega)) := List.getElem?_eq_getElem _
    have hzP := allP_at hall (List.mem_of_getElem? hz)
    rw [inflK_step hv hz]
    refine List.nodup_append.2 ⟨ih (by omega), nodup_map (fun a _ b _ e => by omega) (isP_nodup hzP), fun a ha b hb e => ?_⟩
    obtain ⟨i, v, z, y, h1, h2, h3, h4, rfl⟩ := mem_inflK hl k (by omega) ha
    obtain ⟨y', hy', rfl⟩ := List.mem_map.1 hb
    have hzi := allP_at hall (List.mem_of_getElem? h3)
    have r1 := (isP_true.1 hzi).2.1 y h4
    have r2 := (isP_true.1 hzP).2.1 y' hy'
    have hne : v ≠ at0 p k := fun e => by
      subst e
      have := isP_same hp h2 hv
      omega
    by_cases hlt : v < at0 p k
    · have := (baseK_up h2 h3 hlt p.length).1 (by omega)
      omega
    · have := (baseK_up hv hz (show at0 p k < v by omega) p.length).1 (by omega)
      omega
theorem infl_isP : isP (inflR p l) = true := by
  obtain ⟨hp, hl, hall, _, h8⟩ := inflOK_all h
  have hlen : (inflK p l p.length).length = tot l := by rw [inflK_length, List.take_of_length_le (by omega)]
  rw [inflR_yes h]
  refine isP_true.2 ⟨by omega, fun x hx => ?_, infl_nodup h _ (Nat.le_refl _)⟩
  obtain ⟨i, v, z, y, h1, h2, h3, h4, rfl⟩ := mem_inflK hl _ (Nat.le_refl _) hx
  have r1 := (isP_true.1 (allP_at hall (List.mem_of_getElem? h3))).2.1 y h4
  have r2 := baseK_room h2 h3 p.length h1
  rw [List.take_of_length_le (by omega)] at r2
  rw [hlen]
  omega
end
theorem inflK_more (p : List Int) (l : List (List Int)) (k : Nat) : ∀ j, ∃ r, inflK p l (k + j) = inflK p l k ++ r
  | 0 => ⟨[], by simp⟩
  | j + 1 => by
    obtain ⟨r, hr⟩ := inflK_more p l k j
    rw [← Nat.add_assoc, inflK, hr, List.append_assoc]
    exact ⟨_, rfl⟩
theorem infl_part {p : List Int} {l : List (List Int)} (h : inflOK p l = true) {k : Nat} {z : List Int} (hz : l[k]? = some z) : isIv (inflR p l) ((tot (l.take k) : Int) + 1) ((tot (l.take k) : Int) + (z.length : Int)) = true := by
  have hP := infl_isP h
  obtain ⟨hp, hl, hall, hnn, h8⟩ := inflOK_all h
  have hkl : k < l.length := (List.getElem?_eq_some_iff.1 hz).1
  have hv := at0_some (l := p) (k := k) (by omega)
  have hzP := allP_at hall (List.mem_of_getElem? hz)
  have hm0 := noNil_at hnn (List.mem_of_getElem? hz)
  have hts := tot_step hz
  have htt := tot_take l (k + 1)
  have hlen : (inflK p l p.length).length = tot l := by rw [inflK_length, List.take_of_length_le (by omega)]
  have hroom := baseK_room hv hz p.length (by omega)
  rw [List.take_of_length_le (by omega)] at hroom
  rw [inflR_yes h] at hP ⊢
  have e := isIv_at (p := inflK p l p.length) (a := tot (l.take k)) (k := z.length - 1) hP (by omega)
  rw [show ((tot (l.take k) : Nat) : Int) + (z.length : Int) = (tot (l.take k) : Int) + 1 + ((z.length - 1 : Nat) : Int) by omega, e]
  obtain ⟨r, hr⟩ := inflK_more p l (k + 1) (p.length - (k + 1))
  rw [show k + 1 + (p.length - (k + 1)) = p.length by omega, inflK_step hv hz] at hr
  have hseg : seg (inflK p l p.length) (tot (l.take k)) z.length = z.map (fun v => v + (baseK p l (at0 p k) p.length : Int)) := by
    unfold seg
    rw [hr, List.append_assoc, ← inflK_length p l k, List.drop_left, ← List.length_map (f := fun v => v + (baseK p l (at0 p k) p.length : Int)), List.take_left]
  obtain ⟨b, hb⟩ : ∃ b, b = baseK p l (at0 p k) p.length := ⟨_, rfl⟩
  rw [← hb] at hseg hroom
  rw [iv_true, show z.length - 1 + 1 = z.length by omega, hseg]
  have i1 : (1 : Int) + (b : Int) ∈ z.map (fun v => v + (b : Int)) := List.mem_map.2 ⟨1, isP_has hzP (by omega) (by omega), rfl⟩
  have i2 : (z.length : Int) + (b : Int) ∈ z.map (fun v => v + (b : Int)) := List.mem_map.2 ⟨_, isP_has hzP (by omega) (Int.le_refl _), rfl⟩
  have l1 := (lo_le (z.map (fun v => v + (b : Int)))).1 _ i1
  have l2 := (le_hi (z.map (fun v => v + (b : Int)))).1 _ i2
  have l3 := le_lo (l := z.map (fun v => v + (b : Int))) (m := 1 + (b : Int)) (by omega) fun x hx => by
    obtain ⟨y, hy, rfl⟩ := List.mem_map.1 hx
    have := (isP_true.1 hzP).2.1 y hy
    omega
  have l4 := hi_le (l := z.map (fun v => v + (b : Int))) (m := (z.length : Int) + (b : Int)) (by omega) fun x hx => by
    obtain ⟨y, hy, rfl⟩ := List.mem_map.1 hx
    have := (isP_true.1 hzP).2.1 y hy
    omega
  omega

theorem clo_exists {p : List Int} {x y : Int} (hp : isP p = true) : ∀ (m a b : Nat), p.length - (b - a) ≤ m → CInv p x y a b → ∃ a1 b1, CInv p x y a1 b1 ∧ iv p a1 (b1 - a1) = true
  | 0, a, b, hm, h => by
    have h1 : b < p.length := h.1.2.2.2
    exact absurd hm (by omega)
  | m + 1, a, b, hm, h => by
    have h0 := h.1.2.2
    cases hv : iv p a (b - a) with
    | true => exact ⟨a, b, h, hv⟩
    | false =>
      by_cases hall : ∀ (c : Nat) v, p[c]? = some v → lo (seg p a (b - a + 1)) ≤ v → v ≤ hi (seg p a (b - a + 1)) → a ≤ c ∧ c ≤ b
      · exact absurd (run_lacks hp h0.1 h0.2 hv (Nat.le_refl a) (Nat.le_refl b) hall) (by omega)
      · simp only [Classical.not_forall] at hall
        obtain ⟨c, v, hc, h1, h2, h3⟩ := hall
        have hcl : c < p.length := (List.getElem?_eq_some_iff.1 hc).1
        exact clo_exists hp m (min a c) (max b c) (by omega) (h.widen hcl (h.holds hp hc h1 h2))
theorem clo_around {p : List Int} {f t : Int} (h : cloOK p f t = true) : ∃ F L : Int, cloR p f t = [F, L] ∧ isIv p F L = true ∧ F ≤ f ∧ F ≤ t ∧ f ≤ L ∧ t ≤ L ∧ 1 ≤ F ∧ L ≤ 8 := by
  obtain ⟨hp, ⟨f1, f2⟩, t1, t2⟩ := cloOK_all h
  have h8 := isP_le hp
  obtain ⟨a, b, hI, hv⟩ := clo_exists (x := min f t) (y := max f t) hp p.length _ _ (by omega) (CInv.start (p := p) (by omega) (by omega) (by omega))
  have hd := hI.done hv
  obtain ⟨h1, h2, h3, h4⟩ := hI.1
  refine ⟨(a : Int) + 1, (b : Int) + 1, by rw [cloR_yes h, hd]; rfl, ?_, by omega, by omega, by omega, by omega, by omega, by omega⟩
  rw [isIv_mem, hp, Bool.true_and]
  exact decide_eq_true (mem_ivL.2 ⟨a, b - a, by omega, by rw [Prod.mk.injEq]; omega, hv⟩)
theorem simple_count {p : List Int} (h : simpleP p = true) : cntR p = (p.length : Int) + 1 ∨ p.length = 1 := by
  simp only [simpleP, Bool.and_eq_true, decide_eq_true_eq] at h
  have e := cntR_sum h.1.1
  rw [h.2] at e
  by_cases h1 : 1 < p.length
  · rw [if_pos h1] at e; left; omega
  · right; omega
end Go.Proofs.YtinnlhfdgbeibaaGreat


/-
  spec.ClosureOf, by its contract.
-/

namespace Go.Proofs.YtinnlhfdgbeibaaGreat
set_option maxRecDepth 100000
open Go.RowKit

theorem CInv.lt {p : List Int} {x y : Int} {a b : Nat} (h : CInv p x y a b) : a ≤ b ∧ b < p.length := ⟨h.1.2.2.1, h.1.2.2.2⟩
theorem min_cast (a c : Nat) : min (a : Int) (c : Int) = ((min a c : Nat) : Int) := by omega
theorem max_cast (a c : Nat) : max (a : Int) (c : Int) = ((max a c : Nat) : Int) := by omega

end Go.Proofs.YtinnlhfdgbeibaaGreat


/-
  THE DRAWS OF CHAPTER 5: spec.l5Inflated, spec.l5Bent, spec.DrawIsSimple, spec.DrawClosureOf, spec.DrawIsInterval, spec.DrawInflateBy, by their contracts.
-/

namespace Go.Proofs.YtinnlhfdgbeibaaGreat
set_option maxRecDepth 100000
open Go.RowKit

theorem inflR_lite (p : List Int) (l : List (List Int)) : Lite 9 (inflR p l) := by
  have h := inflR_le p l
  refine ⟨by omega, ?_⟩
  cases hf : inflOK p l with
  | false => rw [inflR_no hf]; exact small_nil
  | true => exact isP_small (infl_isP hf)
theorem ppR_lite (s : ByteArray) : Lite 9 (ppR s) := by
  have h := ppR_le s
  refine ⟨by omega, ?_⟩
  by_cases hd : s = ⟨#[45]⟩
  · subst hd; rw [ppR_dash]; exact small_nil
  · cases hk : ppOK s with
    | false => rw [ppR_no hd hk]; exact small_nil
    | true =>
      rw [ppR_yes hd hk]
      by_cases h0 : 0 < s.size
      · rw [ppOK_else hd h0] at hk
        exact isP_small hk
      · rw [ppOK_none hd (by omega)] at hk
        cases hk
/-- What is drawn with two integers. -/
def DrewIII (w : World) (e : Ending) (w' : World) : Prop :=
  ∃ A c zs, ∃ f t : Int, e = .returned (.tuple #[.slice A zs.length c, .int .i64 f, .int .i64 t]) ∧ Lite 9 zs ∧ (-9223372036854775808 ≤ f ∧ f ≤ 9223372036854775807) ∧ (-9223372036854775808 ≤ t ∧ t ≤ 9223372036854775807) ∧ Ints w' w.heap.size (.slice A zs.length c) zs ∧ Below w.heap.size w w'
theorem DrewIII.mk {w w' : World} {v : Value} {zs : List Int} {f t : Int} (hI : Ints w' w.heap.size v zs) (hl : Lite 9 zs) (hf : -1048576 ≤ f ∧ f ≤ 1048576) (ht : -1048576 ≤ t ∧ t ≤ 1048576) (h : Below w.heap.size w w') : DrewIII w (.returned (.tuple #[v, .int .i64 f, .int .i64 t])) w' := by
  obtain ⟨A, c, rfl⟩ := hI.slice
  exact ⟨A, c, zs, f, t, rfl, hl, by omega, by omega, hI, h⟩
/-- A row and a list of rows that were drawn. -/
def DrewIS (w : World) (e : Ending) (w' : World) : Prop :=
  ∃ A c p A' c' l, e = .returned (.tuple #[.slice A p.length c, .slice A' (l : List (List Int)).length c']) ∧ Lite 9 p ∧ l.length ≤ 10 ∧ (∀ z ∈ l, Lite 9 z) ∧ Ints w' w.heap.size (.slice A p.length c) p ∧ IntsS w' w.heap.size (.slice A' l.length c') l ∧ Below w.heap.size w w'
theorem DrewIS.mk {w w' : World} {v v' : Value} {p : List Int} {l : List (List Int)} (hI : Ints w' w.heap.size v p) (hS : IntsS w' w.heap.size v' l) (hp : Lite 9 p) (hn : l.length ≤ 10) (hl : ∀ z ∈ l, Lite 9 z) (h : Below w.heap.size w w') : DrewIS w (.returned (.tuple #[v, v'])) w' := by
  obtain ⟨A, c, rfl⟩ := hI.slice
  obtain ⟨A', c', rfl⟩ := hS.slice
  exact ⟨A, c, p, A', c', l, rfl, hp, hn, hl, hI, hS, h⟩

set_option maxHeartbeats 3200000 in
theorem l5infl_any (B cb : Nat) (w : World) (hc : Cur w B cb) : Calls Tryz.prog 57 #[.pointer (some ⟨cb, 0, none⟩)] w (DrawnI B cb w 9) := by
  have hS0 := Side.start hc
  have H1 := hide (below_any B cb 5 (by omega) _ hc)
  clear hc
  go_enter Tryz.func57, Tryz.ntmps57
  go_wp2_with fail
  refine (unhide H1).mono ?_
  rintro e w1 ⟨v, rfl, ⟨x, rfl, hx0, hx1⟩, hc1, hg1⟩
  rw [if_pos (by omega)] at hx1
  obtain ⟨m, rfl⟩ : ∃ m : Nat, x = m := ⟨x.toNat, by omega⟩
  have hm : m ≤ 4 := by omega
  have hS1 := hS0.drawn hc1 hg1
  have H2 := hide (l2draw_any B cb (1 + m) (by omega) w1 hc1)
  rw [show ((1 + m : Nat) : Int) = 1 + (m : Int) by omega] at H2
  clear H1 hS0 hc1 hg1 hx0 hx1
  go_wp2_with fail
  refine (unhide H2).mono ?_
  rintro e w2 ⟨A2, c2, zs, rfl, hl, hown, hc2, hg2⟩
  have hS2 := hS1.drawn hc2 hg2
  have hI2 := (Ints.of_own hown).low hS1.size
  have HL2 : Hid (Lite 9 zs) := hide (hl.more (by omega))
  have H3 := hide (once_any B cb 2 (by omega) w2 hc2)
  clear H2 hS1 hl hown hc2 hg2
  go_wp2_with fail
  refine (unhide H3).mono ?_
  rintro e w3 ⟨v, rfl, ⟨b, rfl⟩, hc3, hg3⟩
  have hS3 := hS2.drawn hc3 hg3
  have hI3 := hI2.drawn hg3 hS2.lt
  clear H3 hS2 hI2 hg3
  cases b with
  | true =>
    have hal := (Below.refl w3.heap.size w3).alloc (Nat.le_refl _) (.cells (([⟨#[50, 52, 49, 51]⟩, ⟨#[51, 49, 52, 50]⟩, ⟨#[50, 52, 49, 53, 51]⟩, ⟨#[50, 53, 51, 49, 52]⟩, ⟨#[51, 49, 53, 50, 52]⟩] : List ByteArray).map Value.string).toArray 9)
    have hS4 := hS3.below hal
    have hne : w3.heap.size ≠ cb := by have := hc3.lt; omega
    have H4 := hide (pick_any B cb w3.heap.size 5 5 [⟨#[50, 52, 49, 51]⟩, ⟨#[51, 49, 52, 50]⟩, ⟨#[50, 52, 49, 53, 51]⟩, ⟨#[50, 53, 51, 49, 52]⟩, ⟨#[51, 49, 53, 50, 52]⟩] _ hS4.cur (Blk.new w3 _ _) hne rfl (by omega) (by omega))
    simp only [List.map_cons, List.map_nil] at H4 hS4 hal
    clear hS3 hc3
    go_wp2_with fail
    refine (unhide H4).mono ?_
    rintro e w5 ⟨v, rfl, ⟨s, hs, rfl⟩, hc5, hg5⟩
    have hss : s.size ≤ 1048576 := by
      simp only [List.mem_cons, List.not_mem_nil, or_false] at hs
      rcases hs with rfl | rfl | rfl | rfl | rfl <;> decide
    have hS5 := hS4.drawn hc5 hg5
    have H5 := hide (spp_any s hss _ rfl w5)
    clear H4 hS4 hs hc5 hg5 hal hI3 HL2
    go_wp2_with fail
    refine (unhide H5).mono ?_
    rintro e w6 ⟨A6, c6, rfl, own6, hb6⟩
    have hS := hS5.below hb6
    have hI := own6.low hS5.size
    have HL := hide (ppR_lite s)
    obtain ⟨p, hp⟩ : ∃ p, p = ppR s := ⟨_, rfl⟩
    rw [← hp] at hI HL ⊢
    clear H5 hS5 own6 hb6 hss hp
    have hI0 := IntsS.made0 w6 w.heap.size hS.size
    have hal0 := (Below.refl w6.heap.size w6).alloc (Nat.le_refl _) (.cells #[] 24)
    have hSb := hS.below hal0
    have hIb := hI.below hal0
    obtain ⟨L, hLp⟩ : ∃ L, L = p.length := ⟨_, rfl⟩
    have hL9 : L ≤ 9 := by have := (unhide HL).1; omega
    rw [← hLp] at hIb ⊢
    have HLP := hide hLp
    clear hS hI hal0 hLp
    go_wp2
    go_loopw [4, 5] (fun v i wr => ∃ (k : Nat) (zss : List (List Int)), k ≤ L ∧ i = .int .i64 k ∧ zss.length = k ∧ IntsS wr w.heap.size v zss ∧ Hid (∀ z ∈ zss, Lite 9 z) ∧ Side B cb w wr ∧ Ints wr w.heap.size (.slice A6 L c6) p) (fun _ i _ => L - (intOf i).toNat)
    case atStart => exact ⟨0, [], Nat.zero_le _, rfl, rfl, hI0, fun z hz => by simp at hz, hSb, hIb⟩
    case round =>
      obtain ⟨k, zss, hk, rfl, hzl, hI, hLz, hS, hp⟩ := hrel
      clear hI0 hSb hIb
      by_cases hlt : k < L
      · have hal := (Below.refl wr.heap.size wr).alloc (Nat.le_refl _) (.cells (([1, 1, 1, 2, 3] : List Int).map (Value.int .i64)).toArray 3)
        have hS2 := hS.below hal
        have hI2 := hI.below hal
        have hp2 := hp.below hal
        have hne : wr.heap.size ≠ cb := by have := hS.cur.lt; omega
        have H5 := hide (pickInt_any B cb wr.heap.size 5 5 [1, 1, 1, 2, 3] _ hS2.cur (Blk.new wr _ _) hne rfl (by omega) (by omega))
        have HZL := hide hzl
        simp only [List.map_cons, List.map_nil] at H5 hS2 hI2 hp2
        clear hzl hal hS hI hp
        go_wp2_with fail
        refine (unhide H5).mono ?_
        rintro e w7 ⟨v, rfl, ⟨y, hy, rfl⟩, hc7, hg7⟩
        have hy3 : 0 ≤ y ∧ y ≤ 3 := by
          simp only [List.mem_cons, List.not_mem_nil, or_false] at hy
          omega
        obtain ⟨m2, rfl⟩ : ∃ m2 : Nat, y = m2 := ⟨y.toNat, by omega⟩
        have hS7 := hS2.drawn hc7 hg7
        have hI7 := hI2.drawn hg7 hS2.lt
        have hp7 := hp2.drawn hg7 hS2.lt
        have H6 := hide (l2draw_any B cb m2 (by omega) w7 hc7)
        have hm23 : m2 ≤ 9 := by omega
        clear H5 hS2 hI2 hp2 hc7 hg7 hy3 hy
        go_wp2_with fail
        refine (unhide H6).mono ?_
        rintro e w8 ⟨A8, c8, z8, rfl, hl8, hown8, hc8, hg8⟩
        have hu := Ints.of_own hown8
        have hF := hI7.fresh hg8 hS7.lt hu
        have hS8 := hS7.drawn hc8 hg8
        have hp8 := hp7.drawn hg8 hS7.lt
        have hu8 := hu.low hS7.size
        have hlen : zss.length ≤ 1048576 := by have := unhide HZL; omega
        have hL2 := hide (show ∀ z ∈ zss ++ [z8], Lite 9 z from fun z hz => by
          rcases List.mem_append.1 hz with hz | hz
          · exact unhide hLz z hz
          · rw [List.mem_singleton] at hz; subst hz; exact hl8.more hm23)
        have hsz := hS8.size
        clear H6 hl8 hown8 hu hI7 hS7 hp7 hc8 hg8 hLz
        go_wp2_with (first
          | (at_builtin; refine wpList_push_fresh_keep rfl (.tmp 29) (.tmp 35) rfl w.heap.size w8 _ _ zss z8 rfl rfl rfl hF hu8 hlen hsz ?_))
        intro v9 w9 hI9 hb9 hk9
        have hS9 := hS8.low hb9
        have hp9 := hp8.keepI hk9
        have hlen9 : (zss ++ [z8]).length = k + 1 := by rw [List.length_append, unhide HZL]; rfl
        clear hF hu8 hS8 hb9 hp8 hk9
        go_wp2
        go_roundw
        case rel => exact ⟨k + 1, zss ++ [z8], by omega, by go_num, hlen9, hI9, hL2, hS9, hp9⟩
        case measure => simp [intOf]; omega
      · obtain rfl : L = k := by omega
        subst hzl
        obtain ⟨A9, c9, rfl⟩ := hI.slice
        have hpl := hide (inflR_lite p zss)
        obtain ⟨b, hb⟩ : ∃ b, inflOK p zss = b := ⟨_, rfl⟩
        have H7 := hide (sinfl_any A6 A9 _ c6 _ _ c9 _ p zss wr (hp.arg (by omega) hp.cap (unhide HL).2) hI (by omega) (fun z hz => ⟨by have := (unhide hLz z hz).1; omega, (unhide hLz z hz).2⟩))
        rw [hb] at H7
        clear hI hb
        go_wp2_with fail
        refine (unhide H7).mono ?_
        rintro e w9 ⟨A10, c10, rfl, own10, hb10⟩
        have hS10 := hide (hS.below hb10)
        have hp10 := hp.below hb10
        have ho10 := own10.low hS.size
        clear H7 own10 hb10 hS hp
        cases b with
        | true =>
          go_wp2
          go_ret
          exact DrawnI.mk ho10 (unhide hpl) (unhide hS10)
        | false =>
          go_wp2
          go_ret
          exact DrawnI.mk hp10 (unhide HL) (unhide hS10)
  | false =>
    have hS := hS3
    have hI := hI3
    have HL := HL2
    clear hS3 hI3 HL2 hc3
    have hI0 := IntsS.made0 w3 w.heap.size hS.size
    have hal0 := (Below.refl w3.heap.size w3).alloc (Nat.le_refl _) (.cells #[] 24)
    have hSb := hS.below hal0
    have hIb := hI.below hal0
    obtain ⟨L, hLp⟩ : ∃ L, L = zs.length := ⟨_, rfl⟩
    have hL9 : L ≤ 9 := by have := (unhide HL).1; omega
    rw [← hLp] at hIb ⊢
    have HLP := hide hLp
    clear hS hI hal0 hLp
    go_wp2
    go_loopw [4, 5] (fun v i wr => ∃ (k : Nat) (zss : List (List Int)), k ≤ L ∧ i = .int .i64 k ∧ zss.length = k ∧ IntsS wr w.heap.size v zss ∧ Hid (∀ z ∈ zss, Lite 9 z) ∧ Side B cb w wr ∧ Ints wr w.heap.size (.slice A2 L c2) zs) (fun _ i _ => L - (intOf i).toNat)
    case atStart => exact ⟨0, [], Nat.zero_le _, rfl, rfl, hI0, fun z hz => by simp at hz, hSb, hIb⟩
    case round =>
      obtain ⟨k, zss, hk, rfl, hzl, hI, hLz, hS, hp⟩ := hrel
      clear hI0 hSb hIb
      by_cases hlt : k < L
      · have hal := (Below.refl wr.heap.size wr).alloc (Nat.le_refl _) (.cells (([1, 1, 1, 2, 3] : List Int).map (Value.int .i64)).toArray 3)
        have hS2 := hS.below hal
        have hI2 := hI.below hal
        have hp2 := hp.below hal
        have hne : wr.heap.size ≠ cb := by have := hS.cur.lt; omega
        have H5 := hide (pickInt_any B cb wr.heap.size 5 5 [1, 1, 1, 2, 3] _ hS2.cur (Blk.new wr _ _) hne rfl (by omega) (by omega))
        have HZL := hide hzl
        simp only [List.map_cons, List.map_nil] at H5 hS2 hI2 hp2
        clear hzl hal hS hI hp
        go_wp2_with fail
        refine (unhide H5).mono ?_
        rintro e w7 ⟨v, rfl, ⟨y, hy, rfl⟩, hc7, hg7⟩
        have hy3 : 0 ≤ y ∧ y ≤ 3 := by
          simp only [List.mem_cons, List.not_mem_nil, or_false] at hy
          omega
        obtain ⟨m2, rfl⟩ : ∃ m2 : Nat, y = m2 := ⟨y.toNat, by omega⟩
        have hS7 := hS2.drawn hc7 hg7
        have hI7 := hI2.drawn hg7 hS2.lt
        have hp7 := hp2.drawn hg7 hS2.lt
        have H6 := hide (l2draw_any B cb m2 (by omega) w7 hc7)
        have hm23 : m2 ≤ 9 := by omega
        clear H5 hS2 hI2 hp2 hc7 hg7 hy3 hy
        go_wp2_with fail
        refine (unhide H6).mono ?_
        rintro e w8 ⟨A8, c8, z8, rfl, hl8, hown8, hc8, hg8⟩
        have hu := Ints.of_own hown8
        have hF := hI7.fresh hg8 hS7.lt hu
        have hS8 := hS7.drawn hc8 hg8
        have hp8 := hp7.drawn hg8 hS7.lt
        have hu8 := hu.low hS7.size
        have hlen : zss.length ≤ 1048576 := by have := unhide HZL; omega
        have hL2 := hide (show ∀ z ∈ zss ++ [z8], Lite 9 z from fun z hz => by
          rcases List.mem_append.1 hz with hz | hz
          · exact unhide hLz z hz
          · rw [List.mem_singleton] at hz; subst hz; exact hl8.more hm23)
        have hsz := hS8.size
        clear H6 hl8 hown8 hu hI7 hS7 hp7 hc8 hg8 hLz
        go_wp2_with (first
          | (at_builtin; refine wpList_push_fresh_keep rfl (.tmp 29) (.tmp 35) rfl w.heap.size w8 _ _ zss z8 rfl rfl rfl hF hu8 hlen hsz ?_))
        intro v9 w9 hI9 hb9 hk9
        have hS9 := hS8.low hb9
        have hp9 := hp8.keepI hk9
        have hlen9 : (zss ++ [z8]).length = k + 1 := by rw [List.length_append, unhide HZL]; rfl
        clear hF hu8 hS8 hb9 hp8 hk9
        go_wp2
        go_roundw
        case rel => exact ⟨k + 1, zss ++ [z8], by omega, by go_num, hlen9, hI9, hL2, hS9, hp9⟩
        case measure => simp [intOf]; omega
      · obtain rfl : L = k := by omega
        subst hzl
        obtain ⟨A9, c9, rfl⟩ := hI.slice
        have hpl := hide (inflR_lite zs zss)
        obtain ⟨b, hb⟩ : ∃ b, inflOK zs zss = b := ⟨_, rfl⟩
        have H7 := hide (sinfl_any A2 A9 _ c2 _ _ c9 _ zs zss wr (hp.arg (by omega) hp.cap (unhide HL).2) hI (by omega) (fun z hz => ⟨by have := (unhide hLz z hz).1; omega, (unhide hLz z hz).2⟩))
        rw [hb] at H7
        clear hI hb
        go_wp2_with fail
        refine (unhide H7).mono ?_
        rintro e w9 ⟨A10, c10, rfl, own10, hb10⟩
        have hS10 := hide (hS.below hb10)
        have hp10 := hp.below hb10
        have ho10 := own10.low hS.size
        clear H7 own10 hb10 hS hp
        cases b with
        | true =>
          go_wp2
          go_ret
          exact DrawnI.mk ho10 (unhide hpl) (unhide hS10)
        | false =>
          go_wp2
          go_ret
          exact DrawnI.mk hp10 (unhide HL) (unhide hS10)
--END5INFL
theorem l5bent_any (B cb : Nat) (w : World) (hc : Cur w B cb) : Calls Tryz.prog 26 #[.pointer (some ⟨cb, 0, none⟩)] w (DrawnI B cb w 9) := by
  have hS0 := Side.start hc
  have H1 := hide (once_any B cb 3 (by omega) _ hc)
  clear hc
  go_enter Tryz.func26, Tryz.ntmps26
  go_wp2_with fail
  refine (unhide H1).mono ?_
  rintro e w1 ⟨v, rfl, ⟨b, rfl⟩, hc1, hg1⟩
  have hS1 := hS0.drawn hc1 hg1
  have H2 := hide (l2bent_any B cb w1 hc1)
  have H3 := hide (l5infl_any B cb w1 hc1)
  clear H1 hS0 hc1 hg1
  cases b with
  | true =>
    go_wp2_with fail
    refine (unhide H2).mono ?_
    rintro e w2 ⟨A2, c2, zs, rfl, hl, hI, hc2, hg2⟩
    have hS2 := hide (hS1.drawn hc2 hg2)
    have hI2 := hI.low hS1.size
    have HL := hide hl
    clear H2 H3 hS1 hl hI hc2 hg2
    go_wp2
    go_ret
    exact DrawnI.mk hI2 (unhide HL) (unhide hS2)
  | false =>
    go_wp2_with fail
    refine (unhide H3).mono ?_
    rintro e w2 ⟨A2, c2, zs, rfl, hl, hI, hc2, hg2⟩
    have hS2 := hide (hS1.drawn hc2 hg2)
    have hI2 := hI.low hS1.size
    have HL := hide hl
    clear H2 H3 hS1 hl hI hc2 hg2
    go_wp2
    go_ret
    exact DrawnI.mk hI2 (unhide HL) (unhide hS2)

end Go.Proofs.YtinnlhfdgbeibaaGreat


/-
  A list of rows that is read place by place.
-/

namespace Go.Proofs.YtinnlhfdgbeibaaGreat
set_option maxRecDepth 100000
open Go.RowKit

/-- How a list of rows reads, place by place, in every world behind it. -/
def AtS (w : World) (A : Option Addr) (n : Nat) (zss : List (List Int)) : Prop :=
  zss.length = n ∧ ∀ wr, Below w.heap.size w wr → ∀ k, k < n → ∃ ad A' c' z, A = some ad ∧ zss[k]? = some z ∧ wr.cell? (ad.add k) = some (.slice A' z.length c') ∧ Arg wr wr.heap.size A' z.length c' z
theorem IntsS.atS {w : World} {B n c : Nat} {A : Option Addr} {zss : List (List Int)} (h : IntsS w B (.slice A n c) zss) (hsm : ∀ z ∈ zss, z.length ≤ 1048576 ∧ Small z) : AtS w A n zss :=
  ⟨h.len, fun wr hb k hk => by
    obtain ⟨ad, A', c', z, hA, hz, hc, hI⟩ := (h.below hb).at_ hk
    have hs := hsm z (List.mem_of_getElem? hz)
    exact ⟨ad, A', c', z, hA, hz, hc, hI.arg hs.1 hI.cap hs.2⟩⟩
/-- 'list[f:]', f a place of it. -/
theorem AtS.rest {w : World} {n f : Nat} {ad : Addr} {zss : List (List Int)} (h : AtS w (some ad) n zss) (hf : f ≤ n) : AtS w (some (ad.add f)) (n - f) (zss.drop f) :=
  ⟨by rw [List.length_drop, h.1], fun wr hb k hk => by
    obtain ⟨ad', A', c', z, hA, hz, hc, hI⟩ := h.2 wr hb (f + k) (by omega)
    injection hA with hA
    subst hA
    exact ⟨_, A', c', z, rfl, by rw [List.getElem?_drop]; exact hz, by rw [add_of_add]; exact hc, hI⟩⟩
theorem AtS.below {w w' : World} {n : Nat} {A : Option Addr} {zss : List (List Int)} (h : AtS w A n zss) (hb : Below w.heap.size w w') : AtS w' A n zss :=
  ⟨h.1, fun wr hb' k hk => h.2 wr (hb.trans (hb'.mono hb.size)) k hk⟩
end Go.Proofs.YtinnlhfdgbeibaaGreat


/-
  THE LAST STEP OF A LAW: the walk's answer 'true' and 'nothing below the call's own blocks has turned' give the row's post. One lemma for all laws.
-/

namespace Go.Proofs.YtinnlhfdgbeibaaGreat
set_option maxRecDepth 100000
open Go.ChangeShapes Go.WideShapes Go.ChangeAt Go.RowKit

theorem trodAll_below {H : Type} {enc : TypeId × Value → H} {P : Program} (hl : laidOutB P = true) {W W' : World} (hb : Below W.heap.size W W') :
    ∀ (ts : List TypeId) (vs : List Value) (ds : List (DataW H)) (ps : List MemPlace), (∀ t ∈ ts, P.readableRec t = true ∧ t < P.types.size) → (∀ x ∈ ps, x.block < W.heap.size) →
      DataW.TrodAll enc P W 0 (fun _ => true) true ts vs ds ps → DataW.TrodAll enc P W' 0 (fun b => decide (b < W.heap.size)) true ts vs ds ps
  | [], vs, ds, ps, _, _, h => by
    obtain ⟨rfl, rfl, rfl⟩ := trodAll_nil h
    exact trodAll_mk0
  | t :: ts, vs, ds, ps, ht, hp, h => by
    obtain ⟨v, vs1, d, ds1, a, b, rfl, rfl, rfl, h1, h2⟩ := trodAll_cons h
    exact ⟨a, b, Below.trod hl (ht t (by simp)).1 (ht t (by simp)).2 h1 hb (fun x hx => hp x (by simp [hx])),
      trodAll_below hl hb ts vs1 ds1 b (fun t' h' => ht t' (by simp [h'])) (fun x hx => hp x (by simp [hx])) h2, rfl⟩

theorem law_end {H : Type} {enc : TypeId × Value → H} {P : Program} {f : Func} {s : ChangeSpec} {W W' : World} {args : Array Value} {ds gs : List (DataW H)} {before : List MemPlace} {tb : TypeId}
    (hl : laidOutB P = true) (hts : ∀ t ∈ f.params.toList, P.readableRec t = true ∧ t < P.types.size) (hb4 : P.underlying tb = some .bool) (hrt : f.resultTypes = #[tb]) (hv : s.vars = [])
    (hW : DataW.Whole enc P f.params.toList s.vars false W args.toList ds gs before)
    (hfn : s.fn H (ds ++ gs) = { results := [.lit (.bool true)], args := ds }) (hbel : Below W.heap.size W W') :
    s.post enc P f false true false false W args (.bool true) W' := by
  have hlt : ∀ x ∈ before, x.block < W.heap.size := fun x hx => by simpa using hW.lt x hx
  have hW' := hW
  obtain ⟨p, q, hA, hV, rfl, _, _⟩ := hW
  rw [hv] at hV
  obtain ⟨rfl, rfl⟩ := trodVars_none hV
  have hargs := trodAll_below hl hbel _ _ _ _ hts (fun x hx => hlt x (by simp [hx])) hA
  refine ⟨ds, [], _, [] ++ [], p, [], hW', ?_, ?_, ?_, hbel.frame _, fun h => by cases h⟩
  · rw [hfn, hrt]; exact trodAll_mk1 (shut_bool hb4 _)
  · rw [hfn]; exact hargs
  · rw [hfn, hv]; rfl

theorem lt_of_row {W : World} {a : Addr} {m j : Nat} (hlt : ∀ x ∈ MemPlace.row a m, x.block < W.heap.size) (hj : j < m) : a.block < W.heap.size :=
  hlt (.cell a.block (a.off + j)) (MemPlace.mem_row.2 ⟨j, hj, rfl⟩)

/-- An argument []string, as 'Reads'. -/
theorem open_strs_reads {H : Type} {enc : TypeId × Value → H} {P : Program} {w : World} {r : Reach} {b0 t e : TypeId} {v : Value} {d : DataW H} {ps : List MemPlace} (ht : P.underlying t = some (.slice e)) (he : P.underlying e = some .string) (hc : P.cellsOf e = 1)
    (hval : Value.okWide P w r b0 t v) (h : DataW.Trod enc P w 0 (fun _ => true) true t v d ps) (hlt : ∀ x ∈ ps, x.block < w.heap.size) :
    ∃ (A : Option Addr) (n c : Nat) (ss : List ByteArray), v = .slice A n c ∧ Reads w w.heap.size A n (ss.map Value.string) ∧ n ≤ maxLen ∧ ∀ s ∈ ss, s.size ≤ maxLen := by
  obtain ⟨a0, len, cap, rfl⟩ := okWide_slice ht hval
  obtain ⟨fuel, hf⟩ := h
  rcases open_strings ht he hc hf with ⟨hcs, hx⟩ | ⟨a, len', cap', ss, hcs, _, hl, hm, hz, hx, hcell, hws⟩
  · simp [Value.cells] at hcs
    obtain ⟨rfl, rfl, rfl⟩ := hcs
    exact ⟨none, 0, 0, [], rfl, Reads.none_, Nat.zero_le _, by simp⟩
  · simp [Value.cells] at hcs
    obtain ⟨rfl, rfl, rfl⟩ := hcs
    simp only [Prod.mk.injEq] at hx
    obtain ⟨rfl, rfl⟩ := hx
    simp only [if_true] at hz
    refine ⟨some a, len, cap, ss.take len, rfl, ⟨by simp; omega, fun hn => ⟨a, rfl, lt_of_row (j := 0) hlt (by omega), fun j u hu => ?_⟩⟩, by omega, fun s hs => hws s (List.mem_of_mem_take hs)⟩
    rw [List.getElem?_map, List.getElem?_take] at hu
    by_cases hj : j < len
    · rw [if_pos hj] at hu
      rw [hcell j (by omega), ← hu, List.getD_eq_getElem?_getD]
      have : ss[j]? = some ss[j] := List.getElem?_eq_getElem (by omega)
      rw [this]; rfl
    · rw [if_neg hj] at hu; cases hu

/-- An argument of integers, as 'Reads'. -/
theorem open_ints_reads {H : Type} {enc : TypeId × Value → H} {P : Program} {w : World} {r : Reach} {b0 t e : TypeId} {ik : IntKind} {v : Value} {d : DataW H} {ps : List MemPlace} (ht : P.underlying t = some (.slice e)) (he : P.underlying e = some (.int ik)) (hc : P.cellsOf e = 1)
    (hval : Value.okWide P w r b0 t v) (h : DataW.Trod enc P w 0 (fun _ => true) true t v d ps) (hlt : ∀ x ∈ ps, x.block < w.heap.size) :
    ∃ (A : Option Addr) (n c : Nat) (zs : List Int), v = .slice A n c ∧ Reads w w.heap.size A n (zs.map (Value.int ik)) ∧ n ≤ maxLen ∧ ∀ z ∈ zs, (Lit.int ik z).wf = true := by
  obtain ⟨a0, len, cap, rfl⟩ := okWide_slice ht hval
  obtain ⟨fuel, hf⟩ := h
  rcases open_ints ht he hc hf with ⟨hcs, hx⟩ | ⟨a, len', cap', zs, hcs, _, hl, hm, hz, hx, hcell, hws⟩
  · simp [Value.cells] at hcs
    obtain ⟨rfl, rfl, rfl⟩ := hcs
    exact ⟨none, 0, 0, [], rfl, Reads.none_, Nat.zero_le _, by simp⟩
  · simp [Value.cells] at hcs
    obtain ⟨rfl, rfl, rfl⟩ := hcs
    simp only [Prod.mk.injEq] at hx
    obtain ⟨rfl, rfl⟩ := hx
    simp only [if_true] at hz
    refine ⟨some a, len, cap, zs.take len, rfl, ⟨by simp; omega, fun hn => ⟨a, rfl, lt_of_row (j := 0) hlt (by omega), fun j u hu => ?_⟩⟩, by omega, fun s hs => hws s (List.mem_of_mem_take hs)⟩
    rw [List.getElem?_map, List.getElem?_take] at hu
    by_cases hj : j < len
    · rw [if_pos hj] at hu
      rw [hcell j (by omega), ← hu, List.getD_eq_getElem?_getD]
      have : zs[j]? = some zs[j] := List.getElem?_eq_getElem (by omega)
      rw [this]; rfl
    · rw [if_neg hj] at hu; cases hu
theorem bytes_of_wf : ∀ (zs : List Int), (∀ z ∈ zs, (Lit.int .u8 z).wf = true) → ∃ bs : List UInt8, zs.map (Value.int .u8) = u8s bs
  | [], _ => ⟨[], rfl⟩
  | z :: r, h => by
    obtain ⟨bs, hb⟩ := bytes_of_wf r (fun y hy => h y (by simp [hy]))
    have hz : 0 ≤ z ∧ z ≤ 255 := by simpa [Lit.wf, IntKind.min, IntKind.max, IntKind.signed, IntKind.bits] using h z (by simp)
    refine ⟨UInt8.ofNat z.toNat :: bs, ?_⟩
    have e : ((UInt8.ofNat z.toNat).toNat : Int) = z := by rw [UInt8.toNat_ofNat']; omega
    simp only [u8s, List.map_cons, e]
    rw [hb]; rfl
theorem open_bytes_reads {H : Type} {enc : TypeId × Value → H} {P : Program} {w : World} {r : Reach} {b0 t e : TypeId} {v : Value} {d : DataW H} {ps : List MemPlace} (ht : P.underlying t = some (.slice e)) (he : P.underlying e = some (.int .u8)) (hc : P.cellsOf e = 1)
    (hval : Value.okWide P w r b0 t v) (h : DataW.Trod enc P w 0 (fun _ => true) true t v d ps) (hlt : ∀ x ∈ ps, x.block < w.heap.size) :
    ∃ (A : Option Addr) (n c : Nat) (bs : List UInt8), v = .slice A n c ∧ Reads w w.heap.size A n (u8s bs) ∧ n ≤ maxLen := by
  obtain ⟨A, n, c, zs, rfl, hr, hn, hw⟩ := open_ints_reads ht he hc hval h hlt
  obtain ⟨bs, hb⟩ := bytes_of_wf zs hw
  exact ⟨A, n, c, bs, rfl, by rw [← hb]; exact hr, hn⟩
theorem cellsByte : Tryz.prog.cellsOf 5 = 1 := by kernel_rfl

theorem laidOut : laidOutB Tryz.prog = true := by kernel_rfl
theorem own : ownKnob Tryz.prog.godebug = none := by kernel_rfl
end Go.Proofs.YtinnlhfdgbeibaaGreat


/-
  LISTS OF ROWS AS ARGUMENTS: how they read; szIntS, szIntSS, toIntSS by their contracts.
-/

namespace Go.Proofs.YtinnlhfdgbeibaaGreat
set_option maxRecDepth 100000
open Go.RowKit Go.ChangeShapes Go.WideShapes Go.ChangeAt

/-- The slice value '.slice A n c' holds rows that read as the lists zss, all below block B. -/
structure ReadsS (w : World) (B : Nat) (A : Option Addr) (n : Nat) (zss : List (List Int)) : Prop where
  len : zss.length = n
  rows : 0 < n → ∃ ad, A = some ad ∧ ad.block < B ∧ ∀ (j : Nat) z, zss[j]? = some z → ∃ A' c', w.cell? (ad.add j) = some (.slice A' z.length c') ∧ Reads w B A' z.length (i64s z)
theorem ReadsS.below {w w' : World} {B n : Nat} {A : Option Addr} {zss : List (List Int)} (h : ReadsS w B A n zss) (hb : Below B w w') : ReadsS w' B A n zss :=
  ⟨h.len, fun hn => by
    obtain ⟨ad, e, h1, h2⟩ := h.rows hn
    refine ⟨ad, e, h1, fun j z hz => ?_⟩
    obtain ⟨A', c', h3, h4⟩ := h2 j z hz
    exact ⟨A', c', (hb.cell (by rw [block_of_add]; exact h1)).trans h3, h4.below hb⟩⟩
theorem ReadsS.at_ {w : World} {B n k : Nat} {A : Option Addr} {zss : List (List Int)} (h : ReadsS w B A n zss) (hk : k < n) : ∃ ad A' c' z, A = some ad ∧ zss[k]? = some z ∧ w.cell? (ad.add k) = some (.slice A' z.length c') ∧ Reads w B A' z.length (i64s z) := by
  obtain ⟨ad, e, h1, h2⟩ := h.rows (by omega)
  have hz : zss[k]? = some (zss[k]'(by rw [h.len]; exact hk)) := List.getElem?_eq_getElem _
  obtain ⟨A', c', h3, h4⟩ := h2 k _ hz
  exact ⟨ad, A', c', _, e, hz, h3, h4⟩
theorem list_of {β : Type} {P : Nat → β → Prop} : ∀ n : Nat, (∀ i, i < n → ∃ z, P i z) → ∃ l : List β, l.length = n ∧ ∀ (i : Nat) z, l[i]? = some z → P i z
  | 0, _ => ⟨[], rfl, fun i z h => by simp at h⟩
  | n + 1, h => by
    obtain ⟨l, h1, h2⟩ := list_of n fun i hi => h i (by omega)
    obtain ⟨z, hz⟩ := h n (by omega)
    refine ⟨l ++ [z], by simp [h1], fun i y hy => ?_⟩
    by_cases hi : i < l.length
    · rw [List.getElem?_append_left hi] at hy
      exact h2 i y hy
    · rw [List.getElem?_append_right (by omega)] at hy
      have h0 : i - l.length = 0 := by
        have := (List.getElem?_eq_some_iff.1 hy).1
        simp at this
        omega
      rw [h0] at hy
      simp at hy
      subst hy
      rw [show i = n by omega]
      exact hz
/-- An argument [][]int, as 'ReadsS'. -/
theorem open_intss_reads {H : Type} {enc : TypeId × Value → H} {P : Program} {w : World} {r : Reach} {b0 t e ei : TypeId} {v : Value} {d : DataW H} {ps : List MemPlace} (ht : P.underlying t = some (.slice e)) (he : P.underlying e = some (.slice ei)) (hei : P.underlying ei = some (.int .i64)) (hc : P.cellsOf e = 1) (hci : P.cellsOf ei = 1)
    (hval : Value.okWide P w r b0 t v) (h : DataW.Trod enc P w 0 (fun _ => true) true t v d ps) (hlt : ∀ x ∈ ps, x.block < w.heap.size) :
    ∃ (A : Option Addr) (n c : Nat) (zss : List (List Int)), v = .slice A n c ∧ ReadsS w w.heap.size A n zss ∧ n ≤ maxLen ∧ ∀ z ∈ zss, z.length ≤ maxLen ∧ Small z := by
  obtain ⟨a0, len, cap, rfl⟩ := okWide_slice ht hval
  obtain ⟨fuel, hf⟩ := h
  rcases DataW.trod_slice ht hf with ⟨hcs, hx⟩ | ⟨a, len', cap', elems, rest, m, _, hcs, hx, _, hl, hm, hlen, hel, _, _⟩
  · simp [Value.cells] at hcs
    obtain ⟨rfl, rfl, rfl⟩ := hcs
    exact ⟨none, 0, 0, [], rfl, ⟨rfl, fun h => absurd h (by omega)⟩, Nat.zero_le _, by simp⟩
  · simp [Value.cells] at hcs
    obtain ⟨rfl, rfl, rfl⟩ := hcs
    simp only [Prod.mk.injEq] at hx
    obtain ⟨_, rfl⟩ := hx
    have each : ∀ i, i < len → ∃ z : List Int, (∃ A' c', w.cell? (a.add i) = some (.slice A' z.length c') ∧ Reads w w.heap.size A' z.length (i64s z)) ∧ z.length ≤ maxLen ∧ Small z := by
      intro i hi
      have h1 := hel i hi
      rw [hc, Nat.mul_one, List.getElem?_eq_getElem (by omega), Option.bind_eq_some_iff] at h1
      obtain ⟨cs', hcs', htr⟩ := h1
      have hq : ∀ x ∈ (elems[i]'(by omega)).2, x.block < w.heap.size := fun x hx => hlt x (by
        refine List.mem_append.2 (.inr (List.mem_flatMap.2 ⟨elems[i]'(by omega), List.mem_append.2 (.inl (List.getElem_mem _)), hx⟩))
      )
      rcases open_ints he hei hci htr with ⟨rfl, _⟩ | ⟨a', len'', cap'', zs, rfl, _, hl', hm', hz, hx', hcell, hws⟩
      · exact ⟨[], ⟨none, 0, cell_of_cells?_one hcs', Reads.none_⟩, Nat.zero_le _, fun z hz => by simp at hz⟩
      · simp only [if_true] at hz
        have e1 : (zs.take len'').length = len'' := by rw [List.length_take]; omega
        refine ⟨zs.take len'', ⟨some a', cap'', by rw [e1]; exact cell_of_cells?_one hcs', ?_⟩, by omega, small_of_wf fun z hz => hws z (List.mem_of_mem_take hz)⟩
        refine ⟨by rw [i64_length], fun hn => ⟨a', rfl, ?_, fun j u hu => ?_⟩⟩
        · rw [hx'] at hq
          exact lt_of_row (j := 0) hq (by omega)
        · unfold i64s at hu
          rw [List.getElem?_map, List.getElem?_take] at hu
          by_cases hj : j < len''
          · rw [if_pos hj] at hu
            rw [hcell j (by omega), ← hu, List.getD_eq_getElem?_getD]
            have : zs[j]? = some zs[j] := List.getElem?_eq_getElem (by omega)
            rw [this]; rfl
          · rw [if_neg hj] at hu; cases hu
    obtain ⟨zss, hz1, hz2⟩ := list_of len each
    refine ⟨some a, len, cap, zss, rfl, ⟨hz1, fun hn => ⟨a, rfl, ?_, fun j z hz => (hz2 j z hz).1⟩⟩, by omega, fun z hz => ?_⟩
    · rw [hc] at hlt
      refine lt_of_row (m := (elems.length + rest.length) * 1) (j := 0) (fun x hx => hlt x (List.mem_append.2 (.inl hx))) (by omega)
    · obtain ⟨i, hi, rfl⟩ := List.getElem_of_mem hz
      exact (hz2 i _ (List.getElem?_eq_getElem hi)).2
theorem cellsRow : Tryz.prog.cellsOf 24 = 1 := by kernel_rfl

end Go.Proofs.YtinnlhfdgbeibaaGreat
