/-
  Words and contracts that the laws lean on, bundled: OccF, ClassS, Strs, SplitM, FmtS, SplitG, PermT, PPerm, ClassX.
-/
import Derived.Test.YtplchjeamooliaaDoorB3
import Derived.Test.YtplchjeamooliaaDoorB2
import Derived.Deep.CutRange
import Derived.Deep.RegionHeld3
import Derived.Test.YtplchjeamooliaaDoorProg
import Derived.WalkKit
import Derived.Deep.QuietTactic
import Derived.BigQuiet
import Derived.Lib.Split
import Derived.Lib.SplitLaws
import Derived.Lib.IndexBytes
import Derived.Lib.Join
import Derived.Lib.ItoaNum
import Derived.Lib.ItoaLen
import Derived.Laws.IdiomStrings
import Derived.WalkSpells
import Derived.WalkLawsBesides
import Derived.Test.YtplchjeamooliaaDoorB1

/-
  spec.l7Find, spec.OccurrencesOf, spec.CountPattern, spec.HasPattern, by their contracts.
-/

namespace Go.Proofs.YtplchjeamooliaaDoor
set_option maxRecDepth 100000
open Go.RowKit

theorem extK_len {p q : List Int} {m : Nat} {head : List Int} (ih : ∀ x, (extL p q m (head ++ [x])).length ≤ 2 ^ (p.length - x.toNat)) : ∀ j, j ≤ p.length - lastP head → (extK p q m head j).length + 2 ^ (p.length - lastP head - j) ≤ 2 ^ (p.length - lastP head)
  | 0, _ => by rw [extK_zero]; simp
  | j + 1, hj => by
    have h1 := extK_len ih j (by omega)
    have e : p.length - lastP head - j = (p.length - lastP head - (j + 1)) + 1 := by omega
    rw [e, Nat.pow_succ] at h1
    cases hf : fitL p q (head ++ [((lastP head + j + 1 : Nat) : Int)]) with
    | false => rw [extK_no hf]; omega
    | true =>
      have h2 := ih ((lastP head + j + 1 : Nat) : Int)
      rw [show p.length - ((lastP head + j + 1 : Nat) : Int).toNat = p.length - lastP head - (j + 1) by omega] at h2
      rw [extK_yes hf, List.length_append]
      omega
theorem extL_size {p q : List Int} : ∀ (m : Nat) (head : List Int), (extL p q m head).length ≤ 2 ^ (p.length - lastP head)
  | 0, head => by rw [extL, List.length_singleton]; exact Nat.one_le_two_pow
  | m + 1, head => by
    have h := extK_len (p := p) (q := q) (m := m) (head := head) (fun x => by
      have := extL_size (p := p) (q := q) m (head ++ [x])
      rwa [lastP_snoc] at this) (p.length - lastP head) (Nat.le_refl _)
    rw [extK_all] at h
    exact Nat.le_trans (Nat.le_add_right _ _) h
theorem extK_mono {p q : List Int} {m : Nat} {head : List Int} (j : Nat) : (extK p q m head j).length ≤ (extK p q m head (j + 1)).length := by
  cases hf : fitL p q (head ++ [((lastP head + j + 1 : Nat) : Int)]) with
  | false => rw [extK_no hf]; exact Nat.le_refl _
  | true => rw [extK_yes hf, List.length_append]; omega
theorem extK_le {p q : List Int} {m : Nat} {head : List Int} {j : Nat} (k : Nat) : (extK p q m head j).length ≤ (extK p q m head (j + k)).length := by
  induction k with
  | zero => exact Nat.le_refl _
  | succ k ih => exact Nat.le_trans ih (extK_mono _)
theorem occ_size (p q : List Int) (hp : isP p = true) : (occR p q).length ≤ 256 := by
  have h8 := isP_le hp
  unfold occR
  split
  · have := extL_size (p := p) (q := q) q.length []
    rw [lastP_nil] at this
    exact Nat.le_trans this (Nat.pow_le_pow_right (n := 2) (by decide) (show p.length - 0 ≤ 8 by omega))
  · simp

/-- What l7Find leaves: the list with more rows, of which none but head's own is older than the call. -/
def FindEnds (w : World) (B : Nat) (vs : List Value) (zss : List (List Int)) (hv : Value) (L : List (List Int)) (e : Ending) (w' : World) : Prop :=
  ∃ v' us, e = .returned v' ∧ w'.ownsRow B 30 1 v' (zss.length + L.length) (vs ++ us) ∧ Inner w' B (vs ++ us) (zss ++ L) ∧ (∀ x ∈ us, x = hv ∨ Since w.heap.size x) ∧ Below B w w' ∧ KeepI w w'

set_option maxHeartbeats 1600000 in
theorem l7find_any : ∀ (m : Nat) (A A' : Option Addr) (n c Bp n' c' Bq B : Nat) (p q : List Int) (Ah : Option Addr) (nh ch : Nat) (head : List Int) (v : Value) (vs : List Value) (zss : List (List Int)) (w : World)
    (_ : Arg w Bp A n c p) (_ : Arg w Bq A' n' c' q) (_ : Bp ≤ B) (_ : Bq ≤ B) (_ : B ≤ w.heap.size) (_ : isP p = true) (_ : isP q = true) (_ : head.length + m = q.length) (_ : PlOK p.length head) (_ : Ints w B (.slice Ah nh ch) head)
    (_ : w.ownsRow B 30 1 v zss.length vs) (_ : Inner w B vs zss) (_ : ∀ x ∈ vs, Away x (.slice Ah nh ch)) (_ : zss.length + (extL p q m head).length ≤ 1048576),
    Calls Tryd.prog 28 #[.slice A n c, .slice A' n' c', .slice Ah nh ch, v] w (FindEnds w B vs zss (.slice Ah nh ch) (extL p q m head)) := by
  intro m
  induction m with
  | zero =>
    intro A A' n c Bp n' c' Bq B p q Ah nh ch head v vs zss w h h' hBp hBq hB hp hq hm hP hh hown hin haw hlen
    obtain ⟨i0, hi, hz0, hz1, hz2⟩ := info_parts rowsInfo
    have hl' := h'.len
    have hnh := hh.len
    have heq : (nh : Int) = (n' : Int) := by omega
    obtain ⟨Av, cv, rfl, _⟩ := Reads.of_own hown
    rw [extL, List.length_singleton] at hlen
    rw [extL]
    have HH := hide (And.intro hin (And.intro haw hh))
    have HO := hide hown
    clear h h' hp hq hP hm hl' hin haw hh hnh
    go_enter Tryd.func28, Tryd.ntmps28
    go_wp2_with (first
      | (at_builtin; refine wpList_append_one rfl (.tmp 17) (.tmp 19) 22 rfl B 30 i0 (.slice none 0 0) 24 Tryd.underlying22 hi hz0 hz1 hz2 rfl w w _ _ _ rfl hown (.slice Ah nh ch) rfl rfl rfl (by omega) (by unfold maxLen; omega) (Below.refl _ _) hB ?_))
    intro v2 w2 hown2 hb2 hg2
    obtain ⟨hin, haw, hh⟩ := unhide HH
    have hk := KeepI.of_grown (unhide HO) hg2
    have hin2 := (hin.keepI hk).push (hh.keepI hk) haw
    clear hg2 hin haw hh
    go_wp2
    go_ret
    exact ⟨v2, [.slice Ah nh ch], rfl, hown2, hin2, fun x hx => .inl (List.mem_singleton.1 hx), hb2, hk⟩
  | succ m ih =>
    intro A A' n c Bp n' c' Bq B p q Ah nh ch head v vs zss w h h' hBp hBq hB hp hq hm hP hh hown hin haw hlen
    obtain ⟨i0, hi, hz0, hz1, hz2⟩ := info_parts intInfo
    have hl := h.len
    have hl' := h'.len
    have hnh := hh.len
    have h8 := isP_le hp
    have hq8 := isP_le hq
    have hne : ¬ (nh : Int) = (n' : Int) := by omega
    have hnh8 : nh ≤ 8 := by omega
    have hn8 : n ≤ 8 := by omega
    have hlast := lastP_le hP
    obtain ⟨Av, cv, rfl, _⟩ := Reads.of_own hown
    have hu0 := hh.until_
    have HX := hide (fun (j : Nat) (hj : j < p.length - lastP head) => show zss.length + (extK p q m head (j + 1)).length ≤ 1048576 from by
      have := extK_le (p := p) (q := q) (m := m) (head := head) (j := j + 1) (p.length - lastP head - (j + 1))
      rw [show j + 1 + (p.length - lastP head - (j + 1)) = p.length - lastP head by omega, extK_all] at this
      omega)
    have HC : Hid (Ints w B (.slice Ah nh ch) head ∧ w.ownsRow B 30 1 (.slice Av zss.length cv) (zss.length + (extK p q m head 0).length) (vs ++ []) ∧ Inner w B (vs ++ []) (zss ++ extK p q m head 0) ∧ (∀ x ∈ ([] : List Value), Since w.heap.size x) ∧ Below B w w ∧ KeepI w w) :=
      hide ⟨hh, by rw [extK_zero, List.append_nil]; exact hown, by rw [extK_zero, List.append_nil, List.append_nil]; exact hin, fun x hx => by simp at hx, Below.refl _ _, KeepI.refl _⟩
    have HA := hide (And.intro haw (And.intro hP (And.intro hp hq)))
    obtain ⟨f, hf⟩ : ∃ f, lastP head = f := ⟨_, rfl⟩
    have hf0 : (∀ k, nh = k + 1 → ∃ ad, Ah = some ad ∧ w.cell? (ad.add k) = some (.int .i64 (f : Int))) ∧ (nh = 0 → f = 0) := by
      constructor
      · intro k hk
        obtain ⟨ad, u, rfl, _, hu, hc⟩ := hh.reads.at_ (show k < nh by omega)
        obtain ⟨z, hz, rfl⟩ := i64_at hu
        have hr := hP.rng (i := k) (by omega)
        rw [at0_of hz] at hr
        rw [lastP_at (by omega), show head.length - 1 = k by omega, at0_of hz] at hf
        exact ⟨ad, rfl, by rw [hc, show z = (f : Int) by omega]⟩
      · intro h0
        have : head = [] := List.eq_nil_of_length_eq_zero (by omega)
        subst this
        exact hf.symm
    have HF := hide hf
    have HL := hide hlen
    have HM := hide (And.intro hm hnh)
    rw [hf] at hlast
    clear hh hown hin haw hP hp hq hlen hf hm hnh
    cases nh with
    | zero =>
      have HZ := hide (hf0.2 rfl)
      have e0 : ((0 : Int) == (n' : Int)) = false := by rw [beq_eq_false_iff_ne]; omega
      clear hf0
      go_enter Tryd.func28, Tryd.ntmps28
      go_wp2
      go_loopw [3, 10, 11] (fun o i _ wr => ∃ (j : Nat) (us : List Value), j ≤ p.length - f ∧ i = .int .i64 ((f + j + 1 : Nat) : Int) ∧ Hid (Ints wr B (.slice Ah 0 ch) head ∧ wr.ownsRow B 30 1 o (zss.length + (extK p q m head j).length) (vs ++ us) ∧ Inner wr B (vs ++ us) (zss ++ extK p q m head j) ∧ (∀ x ∈ us, Since w.heap.size x) ∧ Below B w wr ∧ KeepI w wr)) (fun _ i _ _ => (p.length + 1 - (intOf i).toNat))
      case atStart => exact ⟨0, [], Nat.zero_le _, by rw [unhide HZ]; rfl, HC⟩
      case round =>
        obtain ⟨j, us, hj, rfl, HCr⟩ := hrel
        clear HC
        obtain ⟨Ao, co, rfl, _⟩ := Reads.of_own (unhide HCr).2.1
        by_cases hlt : j < p.length - f
        · have hst := own0 wr wr.heap.size (Nat.le_refl _)
          have hal := (Below.refl wr.heap.size wr).alloc (Nat.le_refl _) (.cells #[] 3)
          have hArg := ((unhide HCr).1.arg (by omega) (unhide HCr).1.cap (fun z hz => by have := (unhide HA).2.1.1 z hz; omega)).below hal
          have hBw : B ≤ wr.heap.size := Nat.le_trans hB (unhide HCr).2.2.2.2.1.size
          go_wp2_with (first
            | (at_builtin; refine wpList_append_arg rfl (.tmp 38) (.tmp 39) rfl wr.heap.size _ 0 (0) ch _ _ Ah [] head rfl rfl hst hArg (by omega) hal (by simp) ?_))
          intro v5 w5 hown5 hb5 hg5
          have hs5 := hb5.size
          clear hg5 hst hal hArg
          go_wp2_with (first
            | (at_builtin; refine wpList_append_one rfl (.tmp 40) (.tmp 42) 30 rfl wr.heap.size 3 i0 (.int .i64 0) 8 Tryd.underlying30 hi hz0 hz1 hz2 rfl wr w5 _ _ _ rfl hown5 (.int .i64 ((f + j + 1 : Nat) : Int)) rfl rfl rfl (by omega) (by unfold maxLen; omega) hb5 hs5 ?_))
          intro v6 w6 hown6 hb6 hg6
          rw [i64_snoc] at hown6
          clear hg6 hown5 hb5 hs5
          have hI6 : Ints w6 wr.heap.size v6 (head ++ [((f + j + 1 : Nat) : Int)]) := Ints.of_own hown6
          obtain ⟨A6, c6, rfl, _⟩ := Reads.of_own hown6
          obtain ⟨x1, x2, x3, x4, x5, x6⟩ := unhide HCr
          have y5 : Below B w w6 := x5.trans (hb6.mono hBw)
          have hP6 : PlOK p.length (head ++ [((f + j + 1 : Nat) : Int)]) := PlOK.snoc.2 ⟨(unhide HA).2.1, by rw [unhide HF]; omega, by omega⟩
          have hA6 : Arg w6 w6.heap.size A6 (0 + 1) c6 (head ++ [((f + j + 1 : Nat) : Int)]) := hI6.arg (by omega) hI6.cap (fun z hz => by have := hP6.1 z hz; omega)
          obtain ⟨b, hb⟩ : ∃ b, fitL p q (head ++ [((f + j + 1 : Nat) : Int)]) = b := ⟨_, rfl⟩
          have H1 := hide (l7fits_any A A' A6 n c Bp n' c' Bq _ c6 _ p q _ b hb w6 (h.stay y5 hBp) (h'.stay y5 hBq) hA6 hP6 (by omega) (by have := (unhide HM).1; have := (unhide HM).2; omega))
          have hsn := hI6.since
          have haw6 : ∀ x ∈ vs ++ us, Away x (.slice A6 (0 + 1) c6) := x3.away_new hsn (Nat.le_refl _)
          have hws : w.heap.size ≤ wr.heap.size := x5.size
          have HEX := hide (unhide HX j (by rw [unhide HF]; omega))
          cases b with
          | false =>
            have HE : Hid (extK p q m head (j + 1) = extK p q m head j) := hide (extK_no (by rw [unhide HF]; exact hb))
            have HC6 : Hid (Ints w6 B (.slice Ah 0 ch) head ∧ w6.ownsRow B 30 1 (.slice Ao (zss.length + (extK p q m head j).length) co) (zss.length + (extK p q m head j).length) (vs ++ us) ∧ Inner w6 B (vs ++ us) (zss ++ extK p q m head j) ∧ (∀ x ∈ us, Since w.heap.size x) ∧ Below B w w6 ∧ KeepI w w6) :=
              hide ⟨x1.below hb6, own_below x2 hb6, x3.keepI (KeepI.of_below hb6), x4, y5, x6.trans (KeepI.of_below hb6)⟩
            clear hI6 hown6 hb6 x1 x2 x3 x4 x5 x6 y5 hP6 hA6 hb hsn haw6 HCr HEX
            go_wp2_with fail
            refine (unhide H1).mono ?_
            rintro e w7 ⟨rfl, hd⟩
            have HC7 : Hid (Ints w7 B (.slice Ah 0 ch) head ∧ w7.ownsRow B 30 1 (.slice Ao (zss.length + (extK p q m head j).length) co) (zss.length + (extK p q m head (j + 1)).length) (vs ++ us) ∧ Inner w7 B (vs ++ us) (zss ++ extK p q m head (j + 1)) ∧ (∀ x ∈ us, Since w.heap.size x) ∧ Below B w w7 ∧ KeepI w w7) := hide (by
              obtain ⟨x1, x2, x3, x4, x5, x6⟩ := unhide HC6
              rw [unhide HE]
              exact ⟨x1.below (hd.below _), own_below x2 (hd.below _), x3.keepI hd.keepI, x4, x5.trans (hd.below _), x6.trans hd.keepI⟩)
            clear H1 hd HC6 HE
            go_wp2
            go_roundw
            case rel => exact ⟨j + 1, us, by omega, by go_num, HC7⟩
            case measure => simp [intOf]; omega
          | true =>
            have HE : Hid (extK p q m head (j + 1) = extK p q m head j ++ extL p q m (head ++ [((f + j + 1 : Nat) : Int)])) := hide (by have := extK_yes (p := p) (q := q) (m := m) (head := head) (j := j) (by rw [unhide HF]; exact hb); rwa [unhide HF] at this)
            have H2 := hide (fun (w7 : World) (hd : Below w6.heap.size w6 w7) => ih A A' n c Bp n' c' Bq B p q A6 _ c6 (head ++ [((f + j + 1 : Nat) : Int)]) (.slice Ao (zss.length + (extK p q m head j).length) co) (vs ++ us) (zss ++ extK p q m head j) w7 (h.stay (y5.trans (hd.mono (Nat.le_trans hBw hb6.size))) hBp) (h'.stay (y5.trans (hd.mono (Nat.le_trans hBw hb6.size))) hBq) hBp hBq (Nat.le_trans hBw (Nat.le_trans hb6.size hd.size)) (unhide HA).2.2.1 (unhide HA).2.2.2 (by have := (unhide HM).1; rw [List.length_append, List.length_singleton]; omega) hP6 ((hI6.below hd).low hBw)
              (by rw [List.length_append]; exact own_below (own_below x2 hb6) hd) ((x3.keepI (KeepI.of_below hb6)).keepI (KeepI.of_below hd)) haw6 (by have := unhide HEX; rw [unhide HE, List.length_append] at this; rw [List.length_append]; omega))
            have HC6 := hide (And.intro (x1.below hb6) (And.intro x4 (And.intro y5 (x6.trans (KeepI.of_below hb6)))))
            have hb6s := hb6.size
            clear hI6 hown6 hb6 x1 x2 x3 x4 x5 x6 y5 hP6 hA6 hb haw6 HCr HEX
            go_wp2_with fail
            refine (unhide H1).mono ?_
            rintro e w7 ⟨rfl, hd⟩
            have H3 := hide (unhide H2 w7 (hd.below _))
            clear H1 H2
            go_wp2_with fail
            refine (unhide H3).mono ?_
            rintro e w8 ⟨v8, us2, rfl, o8, i8, hu8, hb8, hk8⟩
            have HC8 : Hid (Ints w8 B (.slice Ah 0 ch) head ∧ w8.ownsRow B 30 1 v8 (zss.length + (extK p q m head (j + 1)).length) (vs ++ (us ++ us2)) ∧ Inner w8 B (vs ++ (us ++ us2)) (zss ++ extK p q m head (j + 1)) ∧ (∀ x ∈ us ++ us2, Since w.heap.size x) ∧ Below B w w8 ∧ KeepI w w8) := hide (by
              obtain ⟨x1, x4, x5, x6⟩ := unhide HC6
              rw [List.append_assoc] at o8 i8
              rw [List.append_assoc, ← unhide HE] at i8
              rw [List.length_append, Nat.add_assoc, ← List.length_append, ← unhide HE] at o8
              refine ⟨(x1.below (hd.below _)).keepI hk8, o8, i8, fun x hx => ?_, (x5.trans (hd.below _)).trans hb8, (x6.trans hd.keepI).trans hk8⟩
              rcases List.mem_append.1 hx with hx | hx
              · exact x4 x hx
              · rcases hu8 x hx with rfl | hx
                · exact hsn.mono hws
                · exact hx.mono (by have := hd.size; omega))
            clear H3 o8 i8 hu8 hb8 hk8 hd HC6 hsn HE
            go_wp2
            go_roundw
            case rel => exact ⟨j + 1, us ++ us2, by omega, by go_num, HC8⟩
            case measure => simp [intOf]; omega
        · obtain rfl : j = p.length - f := by omega
          obtain ⟨x1, x2, x3, x4, x5, x6⟩ := unhide HCr
          have hE : extK p q m head (p.length - f) = extL p q (m + 1) head := by have := extK_all p q m head; rwa [unhide HF] at this
          have HR : Hid (wr.ownsRow B 30 1 (.slice Ao (zss.length + (extK p q m head (p.length - f)).length) co) (zss.length + (extL p q (m + 1) head).length) (vs ++ us) ∧ Inner wr B (vs ++ us) (zss ++ extL p q (m + 1) head) ∧ (∀ x ∈ us, Since w.heap.size x) ∧ Below B w wr ∧ KeepI w wr) :=
            hide ⟨by rw [← hE]; exact x2, by rw [← hE]; exact x3, x4, x5, x6⟩
          clear x1 x2 x3 x4 x5 x6 HCr hE
          go_wp2
          go_ret
          obtain ⟨x2, x3, x4, x5, x6⟩ := unhide HR
          exact ⟨_, us, rfl, x2, x3, fun x hx => .inr (x4 x hx), x5, x6⟩
    | succ nh =>
      obtain ⟨adh, rfl, hcl⟩ := hf0.1 nh rfl
      have hki : ((nh + 1 : Nat) : Int) - 1 = (nh : Int) := by omega
      have e0 : ((nh : Int) + 1 == (n' : Int)) = false := by rw [beq_eq_false_iff_ne]; omega
      clear hf0
      go_enter Tryd.func28, Tryd.ntmps28
      go_wp2
      clear hcl hki
      go_loopw [3, 10, 11] (fun o i _ wr => ∃ (j : Nat) (us : List Value), j ≤ p.length - f ∧ i = .int .i64 ((f + j + 1 : Nat) : Int) ∧ Hid (Ints wr B (.slice (some adh) (nh + 1) ch) head ∧ wr.ownsRow B 30 1 o (zss.length + (extK p q m head j).length) (vs ++ us) ∧ Inner wr B (vs ++ us) (zss ++ extK p q m head j) ∧ (∀ x ∈ us, Since w.heap.size x) ∧ Below B w wr ∧ KeepI w wr)) (fun _ i _ _ => (p.length + 1 - (intOf i).toNat))
      case atStart => exact ⟨0, [], Nat.zero_le _, by go_num, HC⟩
      case round =>
        obtain ⟨j, us, hj, rfl, HCr⟩ := hrel
        clear HC
        obtain ⟨Ao, co, rfl, _⟩ := Reads.of_own (unhide HCr).2.1
        by_cases hlt : j < p.length - f
        · have hst := own0 wr wr.heap.size (Nat.le_refl _)
          have hal := (Below.refl wr.heap.size wr).alloc (Nat.le_refl _) (.cells #[] 3)
          have hArg := ((unhide HCr).1.arg (by omega) (unhide HCr).1.cap (fun z hz => by have := (unhide HA).2.1.1 z hz; omega)).below hal
          have hBw : B ≤ wr.heap.size := Nat.le_trans hB (unhide HCr).2.2.2.2.1.size
          go_wp2_with (first
            | (at_builtin; refine wpList_append_arg rfl (.tmp 38) (.tmp 39) rfl wr.heap.size _ 0 ((nh + 1)) ch _ _ (some adh) [] head rfl rfl hst hArg (by omega) hal (by simp) ?_))
          intro v5 w5 hown5 hb5 hg5
          have hs5 := hb5.size
          clear hg5 hst hal hArg
          go_wp2_with (first
            | (at_builtin; refine wpList_append_one rfl (.tmp 40) (.tmp 42) 30 rfl wr.heap.size 3 i0 (.int .i64 0) 8 Tryd.underlying30 hi hz0 hz1 hz2 rfl wr w5 _ _ _ rfl hown5 (.int .i64 ((f + j + 1 : Nat) : Int)) rfl rfl rfl (by omega) (by unfold maxLen; omega) hb5 hs5 ?_))
          intro v6 w6 hown6 hb6 hg6
          rw [i64_snoc] at hown6
          clear hg6 hown5 hb5 hs5
          have hI6 : Ints w6 wr.heap.size v6 (head ++ [((f + j + 1 : Nat) : Int)]) := Ints.of_own hown6
          obtain ⟨A6, c6, rfl, _⟩ := Reads.of_own hown6
          obtain ⟨x1, x2, x3, x4, x5, x6⟩ := unhide HCr
          have y5 : Below B w w6 := x5.trans (hb6.mono hBw)
          have hP6 : PlOK p.length (head ++ [((f + j + 1 : Nat) : Int)]) := PlOK.snoc.2 ⟨(unhide HA).2.1, by rw [unhide HF]; omega, by omega⟩
          have hA6 : Arg w6 w6.heap.size A6 ((nh + 1) + 1) c6 (head ++ [((f + j + 1 : Nat) : Int)]) := hI6.arg (by omega) hI6.cap (fun z hz => by have := hP6.1 z hz; omega)
          obtain ⟨b, hb⟩ : ∃ b, fitL p q (head ++ [((f + j + 1 : Nat) : Int)]) = b := ⟨_, rfl⟩
          have H1 := hide (l7fits_any A A' A6 n c Bp n' c' Bq _ c6 _ p q _ b hb w6 (h.stay y5 hBp) (h'.stay y5 hBq) hA6 hP6 (by omega) (by have := (unhide HM).1; have := (unhide HM).2; omega))
          have hsn := hI6.since
          have haw6 : ∀ x ∈ vs ++ us, Away x (.slice A6 ((nh + 1) + 1) c6) := x3.away_new hsn (Nat.le_refl _)
          have hws : w.heap.size ≤ wr.heap.size := x5.size
          have HEX := hide (unhide HX j (by rw [unhide HF]; omega))
          cases b with
          | false =>
            have HE : Hid (extK p q m head (j + 1) = extK p q m head j) := hide (extK_no (by rw [unhide HF]; exact hb))
            have HC6 : Hid (Ints w6 B (.slice (some adh) (nh + 1) ch) head ∧ w6.ownsRow B 30 1 (.slice Ao (zss.length + (extK p q m head j).length) co) (zss.length + (extK p q m head j).length) (vs ++ us) ∧ Inner w6 B (vs ++ us) (zss ++ extK p q m head j) ∧ (∀ x ∈ us, Since w.heap.size x) ∧ Below B w w6 ∧ KeepI w w6) :=
              hide ⟨x1.below hb6, own_below x2 hb6, x3.keepI (KeepI.of_below hb6), x4, y5, x6.trans (KeepI.of_below hb6)⟩
            clear hI6 hown6 hb6 x1 x2 x3 x4 x5 x6 y5 hP6 hA6 hb hsn haw6 HCr HEX
            go_wp2_with fail
            refine (unhide H1).mono ?_
            rintro e w7 ⟨rfl, hd⟩
            have HC7 : Hid (Ints w7 B (.slice (some adh) (nh + 1) ch) head ∧ w7.ownsRow B 30 1 (.slice Ao (zss.length + (extK p q m head j).length) co) (zss.length + (extK p q m head (j + 1)).length) (vs ++ us) ∧ Inner w7 B (vs ++ us) (zss ++ extK p q m head (j + 1)) ∧ (∀ x ∈ us, Since w.heap.size x) ∧ Below B w w7 ∧ KeepI w w7) := hide (by
              obtain ⟨x1, x2, x3, x4, x5, x6⟩ := unhide HC6
              rw [unhide HE]
              exact ⟨x1.below (hd.below _), own_below x2 (hd.below _), x3.keepI hd.keepI, x4, x5.trans (hd.below _), x6.trans hd.keepI⟩)
            clear H1 hd HC6 HE
            go_wp2
            go_roundw
            case rel => exact ⟨j + 1, us, by omega, by go_num, HC7⟩
            case measure => simp [intOf]; omega
          | true =>
            have HE : Hid (extK p q m head (j + 1) = extK p q m head j ++ extL p q m (head ++ [((f + j + 1 : Nat) : Int)])) := hide (by have := extK_yes (p := p) (q := q) (m := m) (head := head) (j := j) (by rw [unhide HF]; exact hb); rwa [unhide HF] at this)
            have H2 := hide (fun (w7 : World) (hd : Below w6.heap.size w6 w7) => ih A A' n c Bp n' c' Bq B p q A6 _ c6 (head ++ [((f + j + 1 : Nat) : Int)]) (.slice Ao (zss.length + (extK p q m head j).length) co) (vs ++ us) (zss ++ extK p q m head j) w7 (h.stay (y5.trans (hd.mono (Nat.le_trans hBw hb6.size))) hBp) (h'.stay (y5.trans (hd.mono (Nat.le_trans hBw hb6.size))) hBq) hBp hBq (Nat.le_trans hBw (Nat.le_trans hb6.size hd.size)) (unhide HA).2.2.1 (unhide HA).2.2.2 (by have := (unhide HM).1; rw [List.length_append, List.length_singleton]; omega) hP6 ((hI6.below hd).low hBw)
              (by rw [List.length_append]; exact own_below (own_below x2 hb6) hd) ((x3.keepI (KeepI.of_below hb6)).keepI (KeepI.of_below hd)) haw6 (by have := unhide HEX; rw [unhide HE, List.length_append] at this; rw [List.length_append]; omega))
            have HC6 := hide (And.intro (x1.below hb6) (And.intro x4 (And.intro y5 (x6.trans (KeepI.of_below hb6)))))
            have hb6s := hb6.size
            clear hI6 hown6 hb6 x1 x2 x3 x4 x5 x6 y5 hP6 hA6 hb haw6 HCr HEX
            go_wp2_with fail
            refine (unhide H1).mono ?_
            rintro e w7 ⟨rfl, hd⟩
            have H3 := hide (unhide H2 w7 (hd.below _))
            clear H1 H2
            go_wp2_with fail
            refine (unhide H3).mono ?_
            rintro e w8 ⟨v8, us2, rfl, o8, i8, hu8, hb8, hk8⟩
            have HC8 : Hid (Ints w8 B (.slice (some adh) (nh + 1) ch) head ∧ w8.ownsRow B 30 1 v8 (zss.length + (extK p q m head (j + 1)).length) (vs ++ (us ++ us2)) ∧ Inner w8 B (vs ++ (us ++ us2)) (zss ++ extK p q m head (j + 1)) ∧ (∀ x ∈ us ++ us2, Since w.heap.size x) ∧ Below B w w8 ∧ KeepI w w8) := hide (by
              obtain ⟨x1, x4, x5, x6⟩ := unhide HC6
              rw [List.append_assoc] at o8 i8
              rw [List.append_assoc, ← unhide HE] at i8
              rw [List.length_append, Nat.add_assoc, ← List.length_append, ← unhide HE] at o8
              refine ⟨(x1.below (hd.below _)).keepI hk8, o8, i8, fun x hx => ?_, (x5.trans (hd.below _)).trans hb8, (x6.trans hd.keepI).trans hk8⟩
              rcases List.mem_append.1 hx with hx | hx
              · exact x4 x hx
              · rcases hu8 x hx with rfl | hx
                · exact hsn.mono hws
                · exact hx.mono (by have := hd.size; omega))
            clear H3 o8 i8 hu8 hb8 hk8 hd HC6 hsn HE
            go_wp2
            go_roundw
            case rel => exact ⟨j + 1, us ++ us2, by omega, by go_num, HC8⟩
            case measure => simp [intOf]; omega
        · obtain rfl : j = p.length - f := by omega
          obtain ⟨x1, x2, x3, x4, x5, x6⟩ := unhide HCr
          have hE : extK p q m head (p.length - f) = extL p q (m + 1) head := by have := extK_all p q m head; rwa [unhide HF] at this
          have HR : Hid (wr.ownsRow B 30 1 (.slice Ao (zss.length + (extK p q m head (p.length - f)).length) co) (zss.length + (extL p q (m + 1) head).length) (vs ++ us) ∧ Inner wr B (vs ++ us) (zss ++ extL p q (m + 1) head) ∧ (∀ x ∈ us, Since w.heap.size x) ∧ Below B w wr ∧ KeepI w wr) :=
            hide ⟨by rw [← hE]; exact x2, by rw [← hE]; exact x3, x4, x5, x6⟩
          clear x1 x2 x3 x4 x5 x6 HCr hE
          go_wp2
          go_ret
          obtain ⟨x2, x3, x4, x5, x6⟩ := unhide HR
          exact ⟨_, us, rfl, x2, x3, fun x hx => .inr (x4 x hx), x5, x6⟩
end Go.Proofs.YtplchjeamooliaaDoor


/-
  spec.l7Has, spec.l12Avoids, spec.IsBasis, spec.InClass, by their contracts.
-/

namespace Go.Proofs.YtplchjeamooliaaDoor
set_option maxRecDepth 100000
open Go.RowKit

/-- A list of rows with a Boolean. -/
def GivesSSB (w : World) (zss : List (List Int)) (b : Bool) (e : Ending) (w' : World) : Prop := ∃ A c, e = .returned (.tuple #[.slice A zss.length c, .bool b]) ∧ IntsS w' w.heap.size (.slice A zss.length c) zss ∧ Below w.heap.size w w'
theorem GivesSSB.mk {w w' : World} {v : Value} {zss : List (List Int)} (b : Bool) (h : IntsS w' w.heap.size v zss) (hb : Below w.heap.size w w') : GivesSSB w zss b (.returned (.tuple #[v, .bool b])) w' := by
  obtain ⟨A, c, rfl⟩ := h.slice
  exact ⟨A, c, rfl, h, hb⟩
set_option maxHeartbeats 800000 in
theorem l7has_any (A A' : Option Addr) (n c B n' c' B' : Nat) (p q : List Int) (w : World) (h : Arg w B A n c p) (h' : Arg w B' A' n' c' q) (hp : isP p = true) (hq : isP q = true) :
    Calls Tryd.prog 20 #[.slice A n c, .slice A' n' c'] w (GivesB w (hasO p q)) := by
  have hsz : (extL p q q.length []).length ≤ 256 := by
    have h1 := occ_size p q hp
    rwa [occR_yes hp hq] at h1
  have hbx := (Below.refl w.heap.size w).alloc (Nat.le_refl _) (.cells #[] 3)
  have hby := hbx.alloc (by simp) (.cells #[] 30)
  have H3 := hide (l7find_any q.length A A' n c B n' c' B' w.heap.size p q (some ⟨w.heap.size, 0, none⟩) 0 0 [] (.slice (some ⟨w.heap.size + 1, 0, none⟩) 0 0) [] []
    ((w.alloc (.cells #[] 3)).alloc (.cells #[] 30)) (h.below hby) (h'.below hby) h.under h'.under (by simp; omega) hp hq (by simp) (PlOK.nil _)
    ((Ints.made0 w w.heap.size (Nat.le_refl _)).below ((Below.refl _ _).alloc (Nat.le_refl _) _)) (by have := ownS0 (w.alloc (.cells #[] 3)) w.heap.size (by simp); rw [World.size_alloc] at this; exact this) (Inner.nil _ _) (fun x hx => by cases hx) (by simp only [List.length_nil]; omega))
  unfold hasO
  obtain ⟨N, hN⟩ : ∃ N, N = (extL p q q.length []).length := ⟨_, rfl⟩
  rw [← hN] at hsz ⊢
  have HN := hide hN
  clear h h' hp hq hbx hN
  go_enter Tryd.func20, Tryd.ntmps20
  go_wp2_with fail
  refine (unhide H3).mono ?_
  rintro e w5 ⟨v, us, rfl, o5, i5, _, hb5, _⟩
  obtain ⟨A5, c5, rfl, _⟩ := Reads.of_own o5
  simp only [List.length_nil, Nat.zero_add] at o5 ⊢
  rw [← unhide HN]
  have hb6 := hby.trans hb5
  clear H3 o5 i5 hb5 hby
  by_cases h0 : 0 < N
  · have h0' : (0 : Int) < (N : Int) := by omega
    go_wp2
    go_ret
    exact ⟨ret_bool (decide_eq_true h0).symm, hb6⟩
  · have h0' : ¬ (0 : Int) < (N : Int) := by omega
    go_wp2
    go_ret
    exact ⟨ret_bool (by first | rfl | exact (decide_eq_false h0).symm), hb6⟩
set_option maxHeartbeats 1600000 in
theorem sbas2_any (A : Option Addr) (n c B : Nat) (zss : List (List Int)) (w : World) (hS : IntsS w B (.slice A n c) zss) (hn : n ≤ 2097152) (hsm : ∀ z ∈ zss, z.length ≤ 1048576 ∧ Small z) :
    Calls Tryd.prog 11 #[.slice A n c] w (GivesB w (basis zss)) := by
  have hl := hS.len
  have HA := hide (⟨hS, hsm⟩ : IntsS w B (.slice A n c) zss ∧ ∀ z ∈ zss, z.length ≤ 1048576 ∧ Small z)
  have HL := hide hl
  have hb0 := Below.refl w.heap.size w
  clear hS hsm hl
  go_enter Tryd.func11, Tryd.ntmps11
  go_wp2
  go_loopw [3, 4] (fun i _ wr => ∃ k : Nat, k ≤ n ∧ i = .int .i64 k ∧ Below w.heap.size w wr ∧ Hid (BasTo zss k)) (fun i _ _ => n - (intOf i).toNat)
  case atStart => exact ⟨0, Nat.zero_le _, rfl, hb0, BasTo.zero zss⟩
  case round =>
    obtain ⟨k, hk, rfl, hb, hT⟩ := hrel
    clear hb0
    by_cases hlt : k < n
    · have hS := (unhide HA).1.below hb
      obtain ⟨ad, A6, c6, z, rfl, hz, hcell, hI⟩ := hS.at_ hlt
      obtain ⟨hzl, hzs⟩ := (unhide HA).2 z (List.mem_of_getElem? hz)
      have hA := hI.arg hzl hI.cap hzs
      have hkl : k < zss.length := by rw [unhide HL]; exact hlt
      have hat := basAt_at hz
      have HB := hide hb
      obtain ⟨b1, hb1⟩ : ∃ b, isP z = b := ⟨_, rfl⟩
      have HR1 := hide hA
      cases b1 with
      | false =>
        have HF := hide (basis_no hkl (by rw [hat, hb1]; rfl))
        have hzc := hA.cap
        obtain ⟨lz, hlz⟩ : ∃ l, l = z.length := ⟨_, rfl⟩
        rw [← hlz] at hcell HR1 hzc hzl
        have HP := hide hb1
        clear hz hA hI hat hlz hS hb hzs hb1 hT hkl
        go_wp2
        go_quiet ((go_at_call 18; exact Calls.quiet_of (sisperm_any A6 _ c6 _ z false (unhide HP) _ ((unhide HR1).reads.drewN _) hzl hzc)))
        go_wp2
        go_ret
        exact ⟨ret_bool (unhide HF).symm, (unhide HB).trans ((Drew.refl wr |>.more nq).below _)⟩
      | true =>
        have hz8 := isP_le hb1
        by_cases h0 : z.length = 0
        · have HF := hide (basis_no hkl (by rw [hat, hb1, h0]; rfl))
          have hzc := hA.cap
          rw [h0] at hcell hzc
          have HP := hide hb1
          have HR2 := hide hA.reads
          rw [h0] at HR2
          clear hz hA hI hat hS hb hzs hb1 hT hkl h0 HR1
          go_wp2
          go_quiet ((go_at_call 18; exact Calls.quiet_of (sisperm_any A6 0 c6 _ z true (unhide HP) _ ((unhide HR2).drewN _) (by omega) (by omega))))
          go_wp2
          go_ret
          exact ⟨ret_bool (unhide HF).symm, (unhide HB).trans ((Drew.refl wr |>.more nq).below _)⟩
        · have hz0 : ((z.length : Int) == 0) = false := by rw [beq_eq_false_iff_ne]; omega
          obtain ⟨b2, hb2⟩ : ∃ b, (decide (k = 0) || befL (zss.getD (k - 1) []) z) = b := ⟨_, rfl⟩
          have HP := hide hb1
          have HZ := hide hz
          have hzc := hA.cap
          cases b2 with
          | false =>
            have hk0 : k ≠ 0 := fun e => by rw [e] at hb2; simp at hb2
            obtain ⟨a, rfl⟩ : ∃ a, k = a + 1 := ⟨k - 1, by omega⟩
            obtain ⟨ad2, A7, c7, y, hade, hy, hcell2, hI2⟩ := hS.at_ (show a < n by omega)
            obtain rfl : ad = ad2 := Option.some.inj hade
            obtain ⟨hyl, hys⟩ := (unhide HA).2 y (List.mem_of_getElem? hy)
            have hA2 := hI2.arg hyl hI2.cap hys
            have hbf : befL y z = false := by
              rw [Nat.add_sub_cancel, getD_row hy] at hb2
              simpa using hb2
            have HF := hide (basis_no hkl (by rw [hat, hb1, hb2]; simp))
            have HY := hide hA2
            have HBF := hide hbf
            have q1 : IntKind.i64.wrap ((a : Int) + 1 - 1) = (a : Int) := by rw [IntKind.wrap_i64]; omega
            have q2 : IntKind.i64.wrap (a : Int) = (a : Int) := by rw [IntKind.wrap_i64]; omega
            have hadd : ad.add (a + 1) = ⟨ad.block, ad.off + (a + 1), none⟩ := by unfold Addr.add; rw [if_neg (by omega)]
            rw [hadd] at hcell
            have hbd0 : (0 : Int) ≤ (a : Int) + 1 := by omega
            have hbd1 : (a : Int) + 1 < (n : Int) := by omega
            have hbd2 : (a : Int) < (n : Int) := by omega
            have hpos : decide ((0 : Int) < (a : Int) + 1) = true := decide_eq_true (by omega)
            obtain ⟨lz, hlz⟩ : ∃ l, l = z.length := ⟨_, rfl⟩
            rw [← hlz] at hcell HR1 hzc hzl hz0 h0
            obtain ⟨ly, hly⟩ : ∃ l, l = y.length := ⟨_, rfl⟩
            rw [← hly] at hcell2 HY
            clear hz hA hI hat hlz hly hS hb hzs hb1 hT hkl hade hy hI2 hyl hys hA2 hbf hb2 hadd hk0 hz8
            go_wp2
            go_quiet (first
              | (go_at_call 18; exact Calls.quiet_of (sisperm_any A6 _ c6 _ z true (unhide HP) _ ((unhide HR1).reads.drewN _) hzl hzc))
              | (go_at_call 19; exact Calls.quiet_of (l2bef_any A7 A6 _ c7 _ _ c6 _ y z false (unhide HBF) _ ((unhide HY).below ((Drew.refl _ |>.more _).below _)) ((unhide HR1).below ((Drew.refl _ |>.more _).below _)))))
            go_wp2
            go_ret
            exact ⟨ret_bool (unhide HF).symm, (unhide HB).trans ((Drew.refl wr |>.more nq).below _)⟩
          | true =>
            have HBT := hide hb2
            have HAT := hide hat
            clear hat
            go_upto_region 4 with fail
            go_cut [41] from 5 to 55 (fun b wx => b = .bool false ∧ ∃ m, wx = wr.drewN m)
            case first =>
              by_cases hk0 : k = 0
              · have hpos : decide (0 < k) = false := decide_eq_false (by omega)
                obtain ⟨lz, hlz⟩ : ∃ l, l = z.length := ⟨_, rfl⟩
                rw [← hlz] at hcell HR1 hzc hzl hz0 h0
                clear hz hA hI hlz hS hb hzs hb1 hT hkl hb2 hz8 hk0
                go_quiet ((go_at_call 18; exact Calls.quiet_of (sisperm_any A6 _ c6 _ z true (unhide HP) _ ((unhide HR1).reads.drewN _) hzl hzc)))
                go_wp2_with fail
                go_meet
                exact ⟨rfl, _, rfl⟩
              · obtain ⟨a, rfl⟩ : ∃ a, k = a + 1 := ⟨k - 1, by omega⟩
                obtain ⟨ad2, A7, c7, y, hade, hy, hcell2, hI2⟩ := hS.at_ (show a < n by omega)
                obtain rfl : ad = ad2 := Option.some.inj hade
                obtain ⟨hyl, hys⟩ := (unhide HA).2 y (List.mem_of_getElem? hy)
                have hA2 := hI2.arg hyl hI2.cap hys
                have hbf : befL y z = true := by
                  rw [Nat.add_sub_cancel, getD_row hy] at hb2
                  simpa using hb2
                have HY := hide hA2
                have HBF := hide hbf
                have q1 : IntKind.i64.wrap ((a : Int) + 1 - 1) = (a : Int) := by rw [IntKind.wrap_i64]; omega
                have q2 : IntKind.i64.wrap (a : Int) = (a : Int) := by rw [IntKind.wrap_i64]; omega
                have hadd : ad.add (a + 1) = ⟨ad.block, ad.off + (a + 1), none⟩ := by unfold Addr.add; rw [if_neg (by omega)]
                rw [hadd] at hcell
                have hbd0 : (0 : Int) ≤ (a : Int) + 1 := by omega
                have hbd1 : (a : Int) + 1 < (n : Int) := by omega
                have hbd2 : (a : Int) < (n : Int) := by omega
                have hpos : decide ((0 : Int) < (a : Int) + 1) = true := decide_eq_true (by omega)
                obtain ⟨lz, hlz⟩ : ∃ l, l = z.length := ⟨_, rfl⟩
                rw [← hlz] at hcell HR1 hzc hzl hz0 h0
                obtain ⟨ly, hly⟩ : ∃ l, l = y.length := ⟨_, rfl⟩
                rw [← hly] at hcell2 HY
                clear hz hA hI hlz hly hS hb hzs hb1 hT hkl hade hy hI2 hyl hys hA2 hbf hb2 hadd hk0 hz8
                go_quiet (first
                  | (go_at_call 18; exact Calls.quiet_of (sisperm_any A6 _ c6 _ z true (unhide HP) _ ((unhide HR1).reads.drewN _) hzl hzc))
                  | (go_at_call 19; exact Calls.quiet_of (l2bef_any A7 A6 _ c7 _ _ c6 _ y z true (unhide HBF) _ ((unhide HY).below ((Drew.refl _ |>.more _).below _)) ((unhide HR1).below ((Drew.refl _ |>.more _).below _)))))
                go_wp2_with fail
                go_meet
                exact ⟨rfl, _, rfl⟩
            case rest =>
              obtain ⟨rfl, dm, hwx⟩ := hcut
              have hbc : Below w.heap.size w wc := by rw [hwx]; exact (unhide HB).trans ((Drew.refl wr |>.more dm).below _)
              have HT2 := hide (show avo (zss.take k) z = true → BasTo zss (k + 1) from fun e => (unhide hT).step (by rw [unhide HAT, unhide HP, unhide HBT, e, decide_eq_true h0]; rfl))
              have HF2 := hide (show avo (zss.take k) z = false → basis zss = false from fun e => basis_no hkl (by rw [unhide HAT, e, Bool.and_false]))
              have HPI := hide (fun (i : Nat) (y : List Int) (hi : i < k) (hy : zss[i]? = some y) => (unhide hT).isP hi hy)
              clear hz hA hI hS hb hzs hb1 hT hkl hb2 hz8 hwx HBT HAT HR1 HB hcell hz0
              obtain ⟨wo, rfl⟩ : ∃ wo : World, wo = wc := ⟨_, rfl⟩
              go_wp2
              go_loopw [4] (fun iv wi => ∃ i : Nat, i ≤ k ∧ iv = .int .i64 i ∧ Below w.heap.size w wi ∧ Hid (avo (zss.take i) z = true)) (fun iv _ => k - (intOf iv).toNat)
              case atStart => exact ⟨0, Nat.zero_le _, rfl, hbc, by exact (rfl : avo (zss.take 0) z = true)⟩
              case round =>
                obtain ⟨i, hi, rfl, hbi, hav⟩ := hrel
                clear hbc
                by_cases hik : i < k
                · have hS := (unhide HA).1.below hbi
                  obtain ⟨ad2, A8, c8, z2, hade, hz2, hck, hIk⟩ := hS.at_ hlt
                  obtain rfl : ad = ad2 := Option.some.inj hade
                  obtain rfl : z = z2 := Option.some.inj ((unhide HZ).symm.trans hz2)
                  obtain ⟨ad3, A9, c9, y, hade3, hy, hci, hIi⟩ := hS.at_ (show i < n by omega)
                  obtain rfl : ad = ad3 := Option.some.inj hade3
                  have hyp := unhide HPI i y hik hy
                  have H4 := hide (fun (w' : World) (d : Below wr.heap.size wr w') => l7has_any A8 A9 z.length c8 _ y.length c9 _ z y w' ((hIk.argP (unhide HP)).below d) ((hIi.argP hyp).below d) (unhide HP) hyp)
                  have hlk := World.block_lt_of_cell? wr _ hck
                  have hli := World.block_lt_of_cell? wr _ hci
                  obtain ⟨b, hbb⟩ : ∃ b, hasO z y = b := ⟨_, rfl⟩
                  rw [hbb] at H4
                  obtain ⟨lz, hlz⟩ : ∃ l, l = z.length := ⟨_, rfl⟩
                  obtain ⟨ly, hly⟩ : ∃ l, l = y.length := ⟨_, rfl⟩
                  rw [← hlz] at hck H4
                  rw [← hly] at hci H4
                  have HB := hide hbi
                  have HYM := hide (show y ∈ zss.take k from List.mem_of_getElem? (i := i) (by rw [List.getElem?_take_of_lt hik]; exact hy))
                  have HY := hide hy
                  have hb0 := (Below.refl wr.heap.size wr).drew
                  have hin : (i : Int) < (n : Int) := by omega
                  have hin2 : i < n := by omega
                  clear hS hade hz2 hIk hade3 hy hIi hyp hlz hly hbi
                  go_wp2
                  go_region_held3 (fun w' => w'.cell? (ad.add k) = some (.slice A8 lz c8) ∧ w'.cell? (ad.add i) = some (.slice A9 ly c9))
                    (first | go_keep | exact ⟨(d4.cell hlk).trans hck, (d4.cell hli).trans hci⟩)
                    (first | (go_simp; go_at_call 20; refine (unhide H4 _ hb0).mono ?_; rintro e w4 ⟨rfl, d4⟩))
                  have hb5 := below_after (unhide HB) (hb0.trans d4)
                  clear H4 hck hci hlk hli HB hb0 d4
                  cases b with
                  | true =>
                    have HF := hide (unhide HF2 (avo_no (unhide HYM) hbb))
                    clear hbb hav
                    go_wp2
                    go_ret
                    exact ⟨ret_bool (unhide HF).symm, hb5⟩
                  | false =>
                    have HR := hide (avo_step (unhide HY) hbb (unhide hav))
                    clear hbb hav
                    go_wp2
                    go_roundw
                    case rel => exact ⟨i + 1, by omega, by go_num, hb5, HR⟩
                    case measure => simp [intOf]; omega
                · obtain rfl : k = i := by omega
                  have HT := hide (unhide HT2 (unhide hav))
                  clear hav
                  go_wp2
                  go_roundw
                  case rel => exact ⟨k + 1, by omega, by go_num, hbi, HT⟩
                  case measure => simp [intOf]; omega
    · have hkn : n = k := by omega
      subst hkn
      have hE := hide (show basis zss = decide (n ≤ 8) by have h := (unhide hT); have h2 := BasTo.end_ (L := zss) (by rw [unhide HL]; exact h); rwa [unhide HL] at h2)
      clear hT
      by_cases h8 : n ≤ 8
      · have h8' : (n : Int) ≤ 8 := by omega
        go_wp2
        go_ret
        exact ⟨ret_bool (by rw [unhide hE, decide_eq_true h8]), hb⟩
      · have h8' : ¬ (n : Int) ≤ 8 := by omega
        go_wp2
        go_ret
        exact ⟨ret_bool (by rw [unhide hE, decide_eq_false h8]), hb⟩
theorem sbas_any (A : Option Addr) (n c B : Nat) (zss : List (List Int)) (w : World) (hS : IntsS w B (.slice A n c) zss) (hn : n ≤ 1048576) (hsm : ∀ z ∈ zss, z.length ≤ 1048576 ∧ Small z) :
    Calls Tryd.prog 11 #[.slice A n c] w (GivesB w (basis zss)) := sbas2_any A n c B zss w hS (by omega) hsm
end Go.Proofs.YtplchjeamooliaaDoor


/-
  CONTRACTS OF THE LAWS' HELPERS OVER []string THAT ONLY READ: szStringS, eqStringS.
-/

namespace Go.Proofs.YtplchjeamooliaaDoor
set_option maxRecDepth 100000
open Go.RowKit

def szGo : Int → List ByteArray → Int
  | l, [] => l
  | l, s :: r => if l - s.size < 0 then -1 else szGo (l - s.size) r

theorem strs_at {ss : List ByteArray} {k : Nat} {u : Value} (h : (ss.map Value.string)[k]? = some u) : ∃ s, ss[k]? = some s ∧ u = .string s := by
  rw [List.getElem?_map] at h
  cases hs : ss[k]? with
  | none => simp [hs] at h
  | some s => simp [hs] at h; exact ⟨s, rfl, h.symm⟩
theorem drop_at {α : Type} {l : List α} {k : Nat} {x : α} (h : l[k]? = some x) : l.drop k = x :: l.drop (k + 1) := by
  obtain ⟨hk, rfl⟩ := List.getElem?_eq_some_iff.1 h
  exact List.drop_eq_getElem_cons hk

theorem below_set_own {B : Nat} {w w' : World} {e : TypeId} {size : Nat} {g cap n : Nat} {xs : List Value} (hb : Below B w w') (hown : w'.ownsRow B e size (.slice (some ⟨g, 0, none⟩) n cap) n xs) (j : Nat) (u : Value) : Below B w (w'.setCell ⟨g, j, none⟩ u) :=
  hb.setCell (hown.lt g rfl).1 _

theorem strInfo : (Tryd.prog.info? 9).map (fun i => (i.zero, i.size, i.bytes)) = some (some (.string ByteArray.empty), 1, 16) := by kernel_rfl

theorem take_set_eq {α : Type} {xs ys : List α} {k : Nat} {u : α} (h : xs.take k = ys.take k) (hu : ys[k]? = some u) (hl : k < xs.length) : (xs.set k u).take (k + 1) = ys.take (k + 1) := by
  rw [List.take_add_one, List.take_add_one, List.take_set_of_le (Nat.le_refl _), h]
  simp [hu, hl]

end Go.Proofs.YtplchjeamooliaaDoor


/-
  PLAIN: splitting a list at a byte, round for round and by the first place. Nothing here speaks of the program.
-/

namespace Go.Proofs.YtplchjeamooliaaDoor
set_option maxRecDepth 100000

def splitL (c : UInt8) : List UInt8 → List (List UInt8)
  | [] => [[]]
  | x :: r => if x = c then [] :: splitL c r else match splitL c r with
    | h :: t => (x :: h) :: t
    | [] => [[x]]
theorem splitL_ne (c : UInt8) : ∀ l, splitL c l ≠ []
  | [] => by simp [splitL]
  | x :: r => by
    unfold splitL
    split
    · simp
    · split <;> simp
/-- pre ahead of the first piece. -/
def glue (pre : List UInt8) : List (List UInt8) → List (List UInt8)
  | h :: t => (pre ++ h) :: t
  | [] => [pre]
theorem glue_nil {ps : List (List UInt8)} (h : ps ≠ []) : glue [] ps = ps := by cases ps with
  | nil => exact absurd rfl h
  | cons a b => rfl
theorem split_hit (c : UInt8) (pre r : List UInt8) : glue pre (splitL c (c :: r)) = pre :: splitL c r := by
  rw [splitL, if_pos rfl]; simp [glue]
theorem split_miss {c x : UInt8} (h : x ≠ c) (pre r : List UInt8) : glue pre (splitL c (x :: r)) = glue (pre ++ [x]) (splitL c r) := by
  rw [splitL, if_neg h]
  cases hs : splitL c r with
  | nil => exact absurd hs (splitL_ne c r)
  | cons a b => simp [glue]
theorem splitL_no {c : UInt8} : ∀ {l : List UInt8}, c ∉ l → splitL c l = [l]
  | [], _ => rfl
  | x :: r, h => by
    rw [splitL, if_neg (fun e => h (by simp [e])), splitL_no (fun e => h (by simp [e]))]
theorem splitL_at {c : UInt8} : ∀ {a b : List UInt8}, c ∉ a → splitL c (a ++ c :: b) = a :: splitL c b
  | [], b, _ => by rw [List.nil_append, splitL, if_pos rfl]
  | x :: r, b, h => by
    rw [List.cons_append, splitL, if_neg (fun e => h (by simp [e])), splitL_at (fun e => h (by simp [e]))]

theorem splitK_eq (c : UInt8) : ∀ (k : Nat) (l : List UInt8), l.count c = k → Lib.splitK [c] 0 k l = splitL c l
  | 0, l, h => by
    rw [splitL_no (List.count_eq_zero.1 h)]; rfl
  | k + 1, l, h => by
    have hm : c ∈ l := List.count_pos_iff.1 (by omega)
    have hge := Lib.indexByte_ge l c
    have hne : Lib.indexByte l c ≠ -1 := fun e => by
      obtain ⟨i, hi, he⟩ := List.getElem_of_mem hm
      exact Lib.indexByte_none e i (by rw [List.getElem?_eq_getElem hi, he])
    obtain ⟨i, hi⟩ : ∃ i : Nat, Lib.indexByte l c = i := ⟨(Lib.indexByte l c).toNat, by omega⟩
    obtain ⟨h1, h2⟩ := Lib.indexByte_some hi
    obtain ⟨hil, hic⟩ := List.getElem?_eq_some_iff.1 h1
    have hno : c ∉ l.take i := fun hmem => by
      obtain ⟨j, hj, he⟩ := List.getElem_of_mem hmem
      rw [List.length_take] at hj
      rw [List.getElem_take] at he
      exact h2 j (by omega) (by rw [List.getElem?_eq_getElem (by omega), he])
    have hsplit : l = l.take i ++ c :: l.drop (i + 1) := by
      conv => lhs; rw [← List.take_append_drop i l, List.drop_eq_getElem_cons hil, hic]
    have hcount : (l.drop (i + 1)).count c = k := by
      have e := congrArg (List.count c) hsplit
      rw [List.count_append, List.count_cons_self, List.count_eq_zero.2 hno, h] at e
      omega
    have e1 : (Lib.index l [c] == -1) = false := by rw [Lib.index_one, beq_eq_false_iff_ne]; exact hne
    have e2 : (Lib.index l [c]).toNat = i := by rw [Lib.index_one, hi]; rfl
    rw [Lib.splitK, e1, e2]
    simp only [Bool.false_eq_true, if_false, Nat.add_zero, List.length_singleton]
    rw [splitK_eq c k _ hcount]
    conv => rhs; rw [hsplit, splitL_at hno]
theorem splitB_eq (s : ByteArray) (c : UInt8) : (Lib.splitB ⟨#[c]⟩ 0 (Lib.countB s ⟨#[c]⟩) s).map (·.data.toList) = splitL c s.data.toList := by
  rw [Lib.splitB_data]
  have h : Lib.countB s ⟨#[c]⟩ = s.data.toList.count c := Lib.count_one c s.data.toList
  rw [h]
  exact splitK_eq c _ _ rfl
theorem bytes_inj_list : ∀ {xs ys : List ByteArray}, xs.map (·.data.toList) = ys.map (·.data.toList) → xs = ys
  | [], [], _ => rfl
  | [], _ :: _, h => by cases h
  | _ :: _, [], h => by cases h
  | x :: xs, y :: ys, h => by
    simp only [List.map_cons, List.cons.injEq] at h
    rw [bytes_inj_list h.2]
    congr 1
    cases x; cases y
    simpa using h.1
/-- The pieces of s at c. -/
def pieces (s : ByteArray) (c : UInt8) : List ByteArray := (splitL c s.data.toList).map fun l => ⟨l.toArray⟩
theorem pieces_data (s : ByteArray) (c : UInt8) : (pieces s c).map (·.data.toList) = splitL c s.data.toList := by
  unfold pieces
  rw [List.map_map]
  exact (List.map_congr_left (fun l _ => by simp)).trans (List.map_id _)
theorem splitB_pieces (s : ByteArray) (c : UInt8) : Lib.splitB ⟨#[c]⟩ 0 (Lib.countB s ⟨#[c]⟩) s = pieces s c :=
  bytes_inj_list ((splitB_eq s c).trans (pieces_data s c).symm)
theorem pieces_length (s : ByteArray) (c : UInt8) : (pieces s c).length = Lib.countB s ⟨#[c]⟩ + 1 := by
  rw [← splitB_pieces]
  exact Lib.splitB_all ⟨#[c]⟩ (Nat.le_refl 1) 0 _ s rfl
theorem splitL_length (c : UInt8) : ∀ l, (splitL c l).length = l.count c + 1
  | [] => rfl
  | x :: r => by
    have ih := splitL_length c r
    unfold splitL
    by_cases h : x = c
    · rw [if_pos h, List.length_cons, ih, h, List.count_cons_self]
    · rw [if_neg h]
      rw [List.count_cons_of_ne h]
      cases hs : splitL c r with
      | nil => exact absurd hs (splitL_ne c r)
      | cons a b => rw [hs] at ih; simpa using ih
theorem pieces_le (s : ByteArray) (c : UInt8) : (pieces s c).length ≤ s.size + 1 := by
  have h1 : (pieces s c).length = (splitL c s.data.toList).length := by unfold pieces; rw [List.length_map]
  have h2 := List.count_le_length (a := c) (l := s.data.toList)
  have h3 : s.data.toList.length = s.size := by rw [Array.length_toList]; rfl
  rw [h1, splitL_length]
  omega

theorem split_parts (c : UInt8) : ∀ (l : List UInt8), ∀ p ∈ splitL c l, c ∉ p ∧ p.length ≤ l.length
  | [], p, h => by
    obtain rfl := List.mem_singleton.1 h
    exact ⟨by simp, by simp⟩
  | x :: r, p, h => by
    have ih := split_parts c r
    rw [splitL] at h
    by_cases hx : x = c
    · rw [if_pos hx] at h
      rcases List.mem_cons.1 h with rfl | h
      · exact ⟨by simp, by simp⟩
      · have := ih p h; exact ⟨this.1, by rw [List.length_cons]; omega⟩
    · rw [if_neg hx] at h
      cases hs : splitL c r with
      | nil => exact absurd hs (splitL_ne c r)
      | cons a b =>
        rw [hs] at h ih
        rcases List.mem_cons.1 h with rfl | h
        · have := ih a (by simp)
          refine ⟨fun hm => ?_, by rw [List.length_cons, List.length_cons]; omega⟩
          rcases List.mem_cons.1 hm with rfl | hm
          · exact hx rfl
          · exact this.1 hm
        · have := ih p (by simp [h]); exact ⟨this.1, by rw [List.length_cons]; omega⟩
theorem pieces_parts {s : ByteArray} {c : UInt8} {p : ByteArray} (h : p ∈ pieces s c) : (pieces p c).length = 1 ∧ p.size ≤ s.size := by
  unfold pieces at h
  obtain ⟨l, hl, rfl⟩ := List.mem_map.1 h
  have hp := split_parts c _ l hl
  have e : s.data.toList.length = s.size := by rw [Array.length_toList]; rfl
  refine ⟨?_, ?_⟩
  · unfold pieces
    rw [List.length_map]
    show (splitL c l).length = 1
    rw [splitL_no hp.1]; rfl
  · show l.toArray.size ≤ s.size
    rw [List.size_toArray]; omega
theorem join_split (c : UInt8) : ∀ l, Lib.join (splitL c l) [c] = l
  | [] => Lib.join_one _ _
  | x :: r => by
    have ih := join_split c r
    rw [splitL]
    by_cases hx : x = c
    · rw [if_pos hx, Lib.join_cons, List.nil_append]
      cases hs : splitL c r with
      | nil => exact absurd hs (splitL_ne c r)
      | cons a b =>
        rw [hs, Lib.join_cons] at ih
        simp only [Lib.joinTail, List.map_cons, List.flatten_cons] at ih ⊢
        rw [List.append_assoc, ih, hx]; rfl
    · rw [if_neg hx]
      cases hs : splitL c r with
      | nil => exact absurd hs (splitL_ne c r)
      | cons a b =>
        rw [hs, Lib.join_cons] at ih
        show Lib.join ((x :: a) :: b) [c] = x :: r
        rw [Lib.join_cons, List.cons_append, ih]
theorem join_pieces (s : ByteArray) (c : UInt8) : Lib.join ((pieces s c).map (·.data.toList)) [c] = s.data.toList := by rw [pieces_data]; exact join_split c _
end Go.Proofs.YtplchjeamooliaaDoor


/-
  spec.FormatInt, by its contract: the decimal numeral.
-/

namespace Go.Proofs.YtplchjeamooliaaDoor
set_option maxRecDepth 100000
open Go.RowKit

/-- What is still to be written of m, ahead of l. -/
def decR (m : Nat) (l : List UInt8) : List UInt8 := if m = 0 then l else Lib.decDigits m ++ l
theorem decR_step {m : Nat} (h : m ≠ 0) (l : List UInt8) : decR m l = decR (m / 10) (UInt8.ofNat (48 + m % 10) :: l) := by
  unfold decR
  rw [if_neg h]
  by_cases h10 : m < 10
  · rw [if_pos (by omega), Lib.decDigits_one h10, Nat.mod_eq_of_lt h10]; rfl
  · rw [if_neg (by omega)]
    rw [Lib.decDigits, dif_neg h10, List.append_assoc]; rfl

theorem cv_one {P : Program} {src dst e : TypeId} (hs : P.underlying src = some (.slice e)) (he : P.underlying e = some (.int .u8)) (hd : P.underlying dst = some .string) (W : World) (x : Int) :
    (convert src dst (.slice (some ⟨W.heap.size, 0, none⟩) 1 1)).run P (W.alloc (.cells #[.int .u8 x] e)) = .ok (.string ⟨#[UInt8.ofNat x.toNat]⟩) (W.alloc (.cells #[.int .u8 x] e)) := by
  rw [run_convert_bytes_string _ src dst e _ 1 1 hs he hd]
  have h := run_bytesToString (P := P) (W.alloc (.cells #[.int .u8 x] e)) ⟨W.heap.size, 0, none⟩ 1 1 [x] (by rw [show (1 : Nat) = ([Value.int .u8 x] : List Value).length from rfl]; exact run_loadCells_list (P := P) _ _ [Value.int .u8 x] (fun j v hj => by
    match j, hj with
    | 0, hj => simp at hj; subst hj; simp [Addr.add]))
  exact h

theorem one_app {b b' : UInt8} (l : List UInt8) (h : b = b') : Value.string (⟨#[b]⟩ ++ ⟨l.toArray⟩) = .string ⟨(b' :: l).toArray⟩ := by
  subst h
  congr 1
theorem neg_rem {m : Int} (h : m ≤ 0) : m.tmod 10 = -((m.natAbs % 10 : Nat) : Int) := by
  obtain ⟨u, rfl⟩ : ∃ u : Nat, m = -(u : Int) := ⟨m.natAbs, by omega⟩
  rw [Int.neg_tmod, Int.natAbs_neg, Int.natAbs_natCast]; rfl
theorem neg_quo {m : Int} (h : m ≤ 0) : m.tdiv 10 = -((m.natAbs / 10 : Nat) : Int) := by
  obtain ⟨u, rfl⟩ : ∃ u : Nat, m = -(u : Int) := ⟨m.natAbs, by omega⟩
  rw [Int.neg_tdiv, Int.natAbs_neg, Int.natAbs_natCast]; rfl
theorem left_short {m n : Int} {l : List UInt8} (h0 : -9223372036854775808 ≤ n) (h1 : n ≤ 9223372036854775807) (h : decR m.natAbs l = Lib.decDigits n.natAbs) : l.length ≤ 21 := by
  have h2 := Lib.itoa_length_le n h0 h1
  have h3 : (Lib.decDigits n.natAbs).length ≤ (Lib.itoa n).length := by
    unfold Lib.itoa
    by_cases hn : n < 0
    · rw [if_pos hn]; simp
    · rw [if_neg hn, show n.natAbs = n.toNat from by omega]; exact Nat.le_refl _
  have h4 : l.length ≤ (decR m.natAbs l).length := by
    unfold decR
    split <;> simp
  rw [h] at h4
  omega

end Go.Proofs.YtplchjeamooliaaDoor


/-
  spec.SplitByte, by its contract: a new row that holds the pieces.
-/

namespace Go.Proofs.YtplchjeamooliaaDoor
set_option maxRecDepth 100000
open Go.RowKit

/-- A new row that holds these strings. -/
def GivesStrs (w : World) (ss : List ByteArray) (e : Ending) (w' : World) : Prop :=
  ∃ v, e = .returned v ∧ w'.ownsRow w.heap.size 9 1 v ss.length (ss.map Value.string) ∧ Below w.heap.size w w'

/-- A byte's number as the byte. -/
def byteOf (b : Int) : UInt8 := UInt8.ofNat b.toNat

theorem strInfo' : (Tryd.prog.info? 9).map (fun i => (i.zero, i.size, i.bytes)) = some (some (.string ByteArray.empty), 1, 16) := by kernel_rfl

/-- Where the loop of spec.SplitByte stands: at place k, the last piece begun at 'fr', 'done' laid. -/
def At (s : ByteArray) (c : UInt8) (k fr : Nat) (done : List ByteArray) : Prop :=
  (k ≤ s.size ∧ done.map (·.data.toList) ++ glue ((s.data.toList.take k).drop fr) (splitL c (s.data.toList.drop k)) = splitL c s.data.toList) ∨ (k = s.size + 1 ∧ done.map (·.data.toList) = splitL c s.data.toList)

theorem take_drop_snoc {s : ByteArray} {k fr : Nat} (h : k < s.size) (hf : fr ≤ k) : (s.data.toList.take (k + 1)).drop fr = (s.data.toList.take k).drop fr ++ [s[k]] := by
  have e : s.data.toList.length = s.size := size_list' s
  have hk : s.data.toList[k]? = some s[k] := by rw [List.getElem?_eq_getElem (by omega)]; rfl
  rw [List.take_add_one, hk, Option.toList_some, List.drop_append_of_le_length (by rw [List.length_take]; omega)]
theorem drop_at_byte {s : ByteArray} {k : Nat} (h : k < s.size) : s.data.toList.drop k = s[k] :: s.data.toList.drop (k + 1) := by
  have e : s.data.toList.length = s.size := size_list' s
  rw [List.drop_eq_getElem_cons (by omega)]; rfl
theorem extract_list (s : ByteArray) (fr k : Nat) : (s.extract fr k).data.toList = (s.data.toList.take k).drop fr := by
  rw [ByteArray.data_extract, Array.toList_extract, List.extract_eq_take_drop, List.drop_take]
theorem At.start (s : ByteArray) (c : UInt8) : At s c 0 0 [] := .inl ⟨Nat.zero_le _, by simp only [List.take_zero, List.drop_nil, List.drop_zero, List.map_nil, List.nil_append]; exact glue_nil (splitL_ne c _)⟩
theorem At.hit {s : ByteArray} {c : UInt8} {k fr : Nat} {done : List ByteArray} (h : At s c k fr done) (hk : k < s.size) (he : s[k] = c) : At s c (k + 1) (k + 1) (done ++ [s.extract fr k]) := by
  rcases h with ⟨_, h⟩ | ⟨h, _⟩
  · refine .inl ⟨hk, ?_⟩
    rw [← h, drop_at_byte hk, he, split_hit, List.map_append, List.append_assoc, List.map_singleton, extract_list]
    rw [show (s.data.toList.take (k + 1)).drop (k + 1) = [] from List.drop_of_length_le (by rw [List.length_take]; omega), glue_nil (splitL_ne c _)]
    rfl
  · omega
theorem At.miss {s : ByteArray} {c : UInt8} {k fr : Nat} {done : List ByteArray} (h : At s c k fr done) (hk : k < s.size) (hf : fr ≤ k) (he : s[k] ≠ c) : At s c (k + 1) fr done := by
  rcases h with ⟨_, h⟩ | ⟨h, _⟩
  · refine .inl ⟨hk, ?_⟩
    rw [← h, drop_at_byte hk, split_miss he, take_drop_snoc hk hf]
  · omega
theorem At.last {s : ByteArray} {c : UInt8} {fr : Nat} {done : List ByteArray} (h : At s c s.size fr done) (fr' : Nat) : At s c (s.size + 1) fr' (done ++ [s.extract fr s.size]) := by
  have e : s.data.toList.length = s.size := size_list' s
  rcases h with ⟨_, h⟩ | ⟨h, _⟩
  · refine .inr ⟨rfl, ?_⟩
    have hd : s.data.toList.drop s.size = [] := List.drop_of_length_le (by omega)
    rw [← h, List.map_append, List.map_singleton, extract_list, hd]
    simp [splitL, glue]
  · omega
theorem At.done {s : ByteArray} {c : UInt8} {fr : Nat} {done : List ByteArray} (h : At s c (s.size + 1) fr done) : done = pieces s c := by
  rcases h with ⟨h, _⟩ | ⟨_, h⟩
  · omega
  · exact bytes_inj_list (h.trans (pieces_data s c).symm)

set_option maxRecDepth 100000 in
set_option maxHeartbeats 1600000 in
theorem ssplit_any (s : ByteArray) (hs : s.size ≤ 1048576) (b : Int) (hb0 : 0 ≤ b) (hb1 : b ≤ 255) (w : World) :
    Calls Tryd.prog 9 #[.string s, .int .u8 b] w (GivesStrs w (pieces s (byteOf b))) := by
  obtain ⟨i0, hi, hz0, hz1, hz2⟩ := info_parts strInfo'
  have hst := World.ownsRow_made (base := w.heap.size) (e := 9) (size := 1) w #[] 0 (Nat.le_refl _) (by simp [maxLen]) rfl
  have hbel := (Below.refl w.heap.size w).alloc (Nat.le_refl _) (.cells #[] 9)
  have hbyte : ∀ x : UInt8, ((x.toNat : Int) == b) = decide (x = byteOf b) := fun x => by
    have hx : x.toNat < 256 := x.toNat_lt
    rw [Bool.eq_iff_iff, beq_iff_eq, decide_eq_true_eq, ← UInt8.toNat_inj, byteOf, UInt8.toNat_ofNat']
    omega
  have HB := hide hbyte
  clear hbyte
  obtain ⟨c, hc⟩ : ∃ c, c = byteOf b := ⟨_, rfl⟩
  rw [← hc] at HB ⊢
  clear hc
  go_enter Tryd.func9, Tryd.ntmps9
  go_wp2
  go_loopw [5, 6, 7] (fun v f i wr => ∃ (k fr : Nat) (done : List ByteArray), k ≤ s.size + 1 ∧ (k ≤ s.size → fr ≤ k) ∧ done.length ≤ k ∧ i = .int .i64 k ∧ f = .int .i64 fr ∧ Below w.heap.size w wr ∧ wr.ownsRow w.heap.size 9 1 v done.length (done.map Value.string) ∧ Hid (At s c k fr done)) (fun _ _ i _ => s.size + 1 - (intOf i).toNat)
  case atStart => exact ⟨0, 0, [], by omega, fun _ => Nat.le_refl _, Nat.le_refl _, rfl, rfl, hbel, hst, At.start s c⟩
  case round =>
    obtain ⟨k, fr, done, hk, hf, hdl, rfl, rfl, hbw, hown, hat⟩ := hrel
    clear hst hbel
    by_cases hlt : k < s.size
    · have hfr : fr ≤ k := hf (by omega)
      by_cases he : s[k] = c
      · have he' : ((s[k].toNat : Int) == b) = true := by rw [unhide HB]; simp [he]
        have hnext := hide (At.hit (unhide hat) hlt he)
        have hkn : ((k : Int) == (s.size : Int)) = false := by rw [beq_eq_false_iff_ne]; omega
        clear hf he hat
        go_wp2_with (first
          | (at_builtin; refine wpList_append_one rfl (.tmp 26) (.tmp 31) 28 rfl w.heap.size 9 i0 (.string ByteArray.empty) 16 Tryd.underlying28 hi hz0 hz1 hz2 rfl w wr _ _ _ rfl hown (.string (s.extract fr k)) rfl rfl rfl (by omega) (by simp only [maxLen]; omega) hbw hbw.size ?_; intro v2 w2 hown2 hb2 hg2; clear hg2))
        have hl2 : (done ++ [s.extract fr k]).length = done.length + 1 := by simp
        have hown3 : w2.ownsRow w.heap.size 9 1 v2 (done ++ [s.extract fr k]).length ((done ++ [s.extract fr k]).map Value.string) := by
          rw [hl2, List.map_append]; exact hown2
        clear hown2 hown
        go_roundw
        case rel => exact ⟨k + 1, k + 1, _, by omega, fun _ => by omega, by rw [hl2]; omega, by go_num, by go_num, hb2, hown3, hnext⟩
        case measure => simp [intOf]; omega
      · have he' : ((s[k].toNat : Int) == b) = false := by rw [unhide HB]; simp [he]
        have hnext := hide (At.miss (unhide hat) hlt hfr he)
        have hkn : ((k : Int) == (s.size : Int)) = false := by rw [beq_eq_false_iff_ne]; omega
        clear hf he hat
        go_wp2
        go_roundw
        case rel => exact ⟨k + 1, fr, _, by omega, fun _ => by omega, by omega, by go_num, rfl, hbw, hown, hnext⟩
        case measure => simp [intOf]; omega
    · by_cases hend : k = s.size
      · subst hend
        have hfr : fr ≤ s.size := hf (Nat.le_refl _)
        have hnext := hide (At.last (unhide hat) (s.size + 1))
        clear hf hat
        go_wp2_with (first
          | (at_builtin; refine wpList_append_one rfl (.tmp 26) (.tmp 31) 28 rfl w.heap.size 9 i0 (.string ByteArray.empty) 16 Tryd.underlying28 hi hz0 hz1 hz2 rfl w wr _ _ _ rfl hown (.string (s.extract fr s.size)) rfl rfl rfl (by omega) (by simp only [maxLen]; omega) hbw hbw.size ?_; intro v2 w2 hown2 hb2 hg2; clear hg2))
        have hl2 : (done ++ [s.extract fr s.size]).length = done.length + 1 := by simp
        have hown3 : w2.ownsRow w.heap.size 9 1 v2 (done ++ [s.extract fr s.size]).length ((done ++ [s.extract fr s.size]).map Value.string) := by
          rw [hl2, List.map_append]; exact hown2
        clear hown2 hown
        go_roundw
        case rel => exact ⟨s.size + 1, s.size + 1, _, by omega, fun _ => by omega, by rw [hl2]; omega, by go_num, by go_num, hb2, hown3, hnext⟩
        case measure => simp [intOf]
      · obtain rfl : k = s.size + 1 := by omega
        obtain rfl := At.done (unhide hat)
        clear hf hat hlt hend
        go_wp2
        go_ret
        exact ⟨_, rfl, hown, hbw⟩
end Go.Proofs.YtplchjeamooliaaDoor


/-
  PLAIN: a permutation's text, and back. Nothing here speaks of the program.
-/

namespace Go.Proofs.YtplchjeamooliaaDoor
set_option maxRecDepth 100000

def dgt (z : Int) : UInt8 := UInt8.ofNat (48 + z.toNat)
def textL (l : List Int) : List UInt8 := l.map dgt
theorem textL_length (l : List Int) : (textL l).length = l.length := by simp [textL]
theorem textL_nil : textL [] = [] := rfl
theorem textL_step {l : List Int} {k : Nat} {z : Int} (h : l[k]? = some z) : textL (l.take (k + 1)) = textL (l.take k) ++ [dgt z] := by unfold textL; rw [take_snoc_i h, List.map_append, List.map_singleton]
theorem itoa_one {z : Int} (h0 : 1 ≤ z) (h1 : z ≤ 8) : Lib.itoa z = [dgt z] := by
  rw [Lib.itoa, if_neg (by omega)]
  exact Lib.decDigits_one (by omega)
/-- The text's numbers as integers. -/
def textI (l : List Int) : List Int := l.map (48 + ·)
theorem textI_length (l : List Int) : (textI l).length = l.length := by simp [textI]
theorem textI_at {l : List Int} {k : Nat} {z : Int} (h : l[k]? = some z) : (textI l)[k]? = some (48 + z) := by unfold textI; rw [List.getElem?_map, h]; rfl
theorem push_list : ∀ (ns : List Int) (s : ByteArray), (ns.foldl (fun r n => r.push (UInt8.ofNat n.toNat)) s) = ⟨s.data ++ (ns.map fun n => UInt8.ofNat n.toNat).toArray⟩
  | [], s => by simp
  | n :: ns, s => by
    rw [List.foldl_cons, push_list ns]
    simp [ByteArray.push]
theorem textI_bytes {l : List Int} (h : ∀ z ∈ l, 0 ≤ z) : (textI l).map (fun n => UInt8.ofNat n.toNat) = textL l := by
  unfold textI textL
  rw [List.map_map]
  refine List.map_congr_left fun z hz => ?_
  have := h z hz
  simp only [Function.comp, dgt]
  congr 1
  omega

def ptext (l : List Int) : ByteArray := if isP l then (if l = [] then ⟨#[45]⟩ else ⟨(textL l).toArray⟩) else ByteArray.empty
theorem ptext_no {l : List Int} (h : isP l = false) : ptext l = ByteArray.empty := by unfold ptext; rw [if_neg (by simp [h])]
theorem ptext_nil {l : List Int} (h : isP l = true) (h0 : l.length = 0) : ptext l = ⟨#[45]⟩ := by unfold ptext; rw [if_pos h, if_pos (List.eq_nil_of_length_eq_zero h0)]
theorem ptext_yes {l : List Int} (h : isP l = true) (h0 : l.length ≠ 0) : ptext l = ⟨(textL l).toArray⟩ := by
  unfold ptext
  rw [if_pos h, if_neg (fun e => h0 (by rw [e]; rfl))]

/-- A text's numbers. -/
def tnums (s : ByteArray) : List Int := s.data.toList.map fun b => (b.toNat : Int) - 48
theorem tnums_length (s : ByteArray) : (tnums s).length = s.size := by
  unfold tnums
  rw [List.length_map, Array.length_toList]; rfl
theorem tnums_at {s : ByteArray} {k : Nat} (h : k < s.size) : (tnums s)[k]? = some ((s[k].toNat : Int) - 48) := by
  have hl : s.data.toList.length = s.size := by rw [Array.length_toList]; rfl
  unfold tnums
  rw [List.getElem?_map, List.getElem?_eq_getElem (by omega)]
  rfl
theorem tnums_small {s : ByteArray} : ∀ z ∈ tnums s, -48 ≤ z ∧ z ≤ 207 := by
  intro z hz
  unfold tnums at hz
  obtain ⟨b, _, rfl⟩ := List.mem_map.1 hz
  have := b.toNat_lt
  omega
def ppOK (s : ByteArray) : Bool := decide (s = ⟨#[45]⟩) || (decide (0 < s.size) && isP (tnums s))
def ppR (s : ByteArray) : List Int := if s = ⟨#[45]⟩ then [] else if ppOK s then tnums s else []
theorem ppOK_dash : ppOK ⟨#[45]⟩ = true := by simp [ppOK]
theorem ppR_dash : ppR ⟨#[45]⟩ = [] := by simp [ppR]
theorem ppOK_else {s : ByteArray} (h : s ≠ ⟨#[45]⟩) (h0 : 0 < s.size) : ppOK s = isP (tnums s) := by simp [ppOK, h, h0]
theorem ppOK_none {s : ByteArray} (h : s ≠ ⟨#[45]⟩) (h0 : s.size = 0) : ppOK s = false := by simp [ppOK, h, h0]
theorem ppR_yes {s : ByteArray} (h : s ≠ ⟨#[45]⟩) (hk : ppOK s = true) : ppR s = tnums s := by unfold ppR; rw [if_neg h, if_pos hk]
theorem ppR_no {s : ByteArray} (h : s ≠ ⟨#[45]⟩) (hk : ppOK s = false) : ppR s = [] := by unfold ppR; rw [if_neg h, if_neg (by simp [hk])]
theorem ppR_le (s : ByteArray) : (ppR s).length ≤ 8 := by
  by_cases h : s = ⟨#[45]⟩
  · subst h; rw [ppR_dash]; simp
  · cases hk : ppOK s with
    | false => rw [ppR_no h hk]; simp
    | true =>
      rw [ppR_yes h hk]
      by_cases h0 : 0 < s.size
      · rw [ppOK_else h h0] at hk
        exact isP_le hk
      · rw [tnums_length]; omega
end Go.Proofs.YtplchjeamooliaaDoor


/-
  spec.ParsePerm and impl.ParsePerm, by their contracts.
-/

namespace Go.Proofs.YtplchjeamooliaaDoor
set_option maxRecDepth 100000
open Go.RowKit

theorem tnums_take {s : ByteArray} {k : Nat} (h : k < s.size) : (tnums s).take (k + 1) = (tnums s).take k ++ [(s[k].toNat : Int) - 48] := take_snoc_i (tnums_at h)
theorem own_capP {w : World} {base n c g : Nat} {xs : List Value} {e : TypeId} (h : w.ownsRow base e 1 (.slice (some ⟨g, 0, none⟩) n c) n xs) : n ≤ c := by
  rcases h.2 with ⟨h0, _⟩ | ⟨g', cap, cur, hv, _, _, hnc, _⟩
  · cases h0
  · injection hv with _ _ h3
    omega
theorem own_form {w : World} {base n : Nat} {v : Value} {xs : List Value} {e : TypeId} (h : w.ownsRow base e 1 v n xs) : ∃ A c, v = .slice A n c ∧ n ≤ c := by
  rcases h.2 with ⟨rfl, rfl⟩ | ⟨g, cap, cur, rfl, _, _, hnc, _⟩
  · exact ⟨none, 0, rfl, Nat.le_refl _⟩
  · exact ⟨_, _, rfl, hnc⟩

theorem not_dash {s : ByteArray} (h : s ≠ ⟨#[45]⟩) : (s.toList == [45]) = false := by
  rw [beq_eq_false_iff_ne]
  intro e
  rw [ByteArray.toList_eq] at e
  refine h (ByteArray.ext (Array.ext' ?_))
  exact e
theorem empty_list {s : ByteArray} (h : s.size = 0) : s.toList.isEmpty = true := by
  rw [ByteArray.toList_eq, List.isEmpty_iff_length_eq_zero, Array.length_toList]
  exact h
theorem nonempty_list {s : ByteArray} (h : ¬ s.size = 0) : s.toList.isEmpty = false := by
  rw [Bool.eq_false_iff]
  intro e
  rw [ByteArray.toList_eq, List.isEmpty_iff_length_eq_zero, Array.length_toList] at e
  exact h e

set_option maxHeartbeats 800000 in
theorem spp_any (s : ByteArray) (hs : s.size ≤ 1048576) (b : Bool) (hb : ppOK s = b) (w : World) :
    Calls Tryd.prog 10 #[.string s] w (GivesIB w (ppR s) b) := by
  obtain ⟨i0, hi, hz0, hz1, hz2⟩ := info_parts intInfo
  have hst := own0 w w.heap.size (Nat.le_refl _)
  have hst2 := Ints.made0 w w.heap.size (Nat.le_refl _)
  have hbel := (Below.refl w.heap.size w).alloc (Nat.le_refl _) (.cells #[] 3)
  by_cases hd : s = ⟨#[45]⟩
  · subst hd
    obtain rfl : b = true := hb.symm.trans ppOK_dash
    rw [ppR_dash]
    clear hb hs hst
    go_enter Tryd.func10, Tryd.ntmps10
    go_wp2
    go_ret2
    exact GivesIB.mk true hst2 hbel
  · have hd' := not_dash hd
    by_cases h0 : s.size = 0
    · have hno := ppOK_none hd h0
      obtain rfl : b = false := hb.symm.trans hno
      have HR := hide (ppR_no hd hno)
      have he := empty_list h0
      have HZ := hide h0
      clear hb hs hst hd hno h0
      have hz0 : s.size ≤ 0 := by rw [unhide HZ]; exact Nat.le_refl _
      go_enter Tryd.func10, Tryd.ntmps10
      go_wp2
      go_loopw [4, 5] (fun v i wr => i = .int .i64 0 ∧ wr = w.alloc (.cells #[] 3)) (fun _ _ _ => 0)
      case atStart => exact ⟨rfl, rfl⟩
      case round =>
        obtain ⟨rfl, rfl⟩ := hrel
        have hst3 := Ints.made0 (w.alloc (.cells #[] 3)) w.heap.size (by simp)
        rw [show (w.alloc (.cells #[] 3)).heap.size = w.heap.size + 1 by simp] at hst3
        have hbel2 := hbel.alloc hbel.size (.cells #[] 3)
        have hz : ¬ 0 < s.size := by omega
        go_wp2
        go_ret2
        exact GivesIB.mk false (by rw [unhide HR]; exact hst3) hbel2
    · have hp := ppOK_else hd (by omega)
      have he := nonempty_list h0
      have he2 : ¬ s.toList = [] := fun e => by rw [e] at he; cases he
      have hlen := tnums_length s
      have HB := hide (hp.symm.trans hb)
      have HY := hide (fun (h : ppOK s = true) => ppR_yes hd h)
      have HN := hide (fun (h : ppOK s = false) => ppR_no hd h)
      have HL := hide hlen
      have HO := hide hb
      clear hb hd hp hlen hst2
      go_enter Tryd.func10, Tryd.ntmps10
      go_wp2
      go_loopw [4, 5] (fun v i wr => ∃ k : Nat, k ≤ s.size ∧ i = .int .i64 k ∧ Below w.heap.size w wr ∧ wr.ownsRow w.heap.size 3 1 v k (i64s ((tnums s).take k))) (fun _ i _ => s.size - (intOf i).toNat)
      case atStart => exact ⟨0, Nat.zero_le _, rfl, hbel, hst⟩
      case round =>
        obtain ⟨k, hk, rfl, hbw, hown⟩ := hrel
        clear hst hbel
        by_cases hlt : k < s.size
        · have e : i64s ((tnums s).take k) ++ [.int .i64 ((s[k].toNat : Int) - 48)] = i64s ((tnums s).take (k + 1)) := by rw [tnums_take hlt]; unfold i64s; simp
          have HE := hide e
          have hby := s[k].toNat_lt
          clear e
          go_wp2_with (first
            | (at_builtin; refine wpList_append_one rfl (.tmp 16) (.tmp 22) 30 rfl w.heap.size 3 i0 (.int .i64 0) 8 Tryd.underlying30 hi hz0 hz1 hz2 rfl w wr _ _ _ rfl hown (.int .i64 ((s[k].toNat : Int) - 48)) rfl rfl rfl (by omega) (by simp only [maxLen]; omega) hbw hbw.size ?_; intro v2 w2 hown2 hb2 hg2; clear hg2))
          rw [unhide HE] at hown2
          clear hown hbw HE
          go_roundw
          case rel => exact ⟨k + 1, by omega, by go_num, hb2, hown2⟩
          case measure => simp [intOf]; omega
        · obtain rfl : k = s.size := by omega
          have e : (tnums s).take s.size = tnums s := List.take_of_length_le (by rw [unhide HL]; exact Nat.le_refl _)
          rw [e] at hown
          obtain ⟨A, c, rfl, hc⟩ := own_form hown
          have hI : Ints wr w.heap.size (.slice A s.size c) (tnums s) := Ints.of_own hown
          have H1 := hide (sisperm_any A s.size c _ (tnums s) b (unhide HB) wr hI.reads hs hc)
          clear hown e
          cases b with
          | true =>
            have HR := hide (unhide HY (unhide HO))
            go_wp2_with fail
            refine (unhide H1).mono ?_
            rintro e w2 ⟨rfl, hd⟩
            have hb2 := below_after hbw (hd.below _)
            have hI2 := hI.below (hd.below _)
            rw [← unhide HR] at hI2
            clear hd H1 hI
            go_wp2
            go_ret2
            exact GivesIB.mk true hI2 hb2
          | false =>
            have HR := hide (unhide HN (unhide HO))
            go_wp2_with fail
            refine (unhide H1).mono ?_
            rintro e w2 ⟨rfl, hd⟩
            have hb2 := below_after hbw (hd.below _)
            have hst3 := Ints.made0 w2 w.heap.size hb2.size
            have hbel2 := hb2.alloc hb2.size (.cells #[] 3)
            clear hd H1 hI
            go_wp2
            go_ret2
            exact GivesIB.mk false (by rw [unhide HR]; exact hst3) hbel2

set_option maxHeartbeats 800000 in
theorem ipp_any (s : ByteArray) (hs : s.size ≤ 1048576) (b : Bool) (hb : ppOK s = b) (w : World) :
    Calls Tryd.prog 13 #[.string s] w (GivesIB w (ppR s) b) := by
  obtain ⟨i0, hi, hz0, hz1, hz2⟩ := info_parts intInfo
  have hst2 := Ints.made0 w w.heap.size (Nat.le_refl _)
  have hbel := (Below.refl w.heap.size w).alloc (Nat.le_refl _) (.cells #[] 3)
  by_cases hd : s = ⟨#[45]⟩
  · subst hd
    obtain rfl : b = true := hb.symm.trans ppOK_dash
    rw [ppR_dash]
    clear hb hs
    go_enter Tryd.func13, Tryd.ntmps13
    go_wp2
    go_ret2
    exact GivesIB.mk true hst2 hbel
  · have hd' := not_dash hd
    by_cases h0 : s.size = 0
    · have hno := ppOK_none hd h0
      obtain rfl : b = false := hb.symm.trans hno
      rw [ppR_no hd hno]
      have he := empty_list h0
      clear hb hs hd hno h0 hst2
      go_enter Tryd.func13, Tryd.ntmps13
      go_wp2
      go_ret2
      exact GivesIB.mk (v := .slice none 0 0) false (Ints.nil _ _) (Below.refl _ _)
    · have hp := ppOK_else hd (by omega)
      have he := nonempty_list h0
      have he2 : ¬ s.toList = [] := fun e => by rw [e] at he; cases he
      have hlen := tnums_length s
      by_cases h8 : s.size ≤ 8
      · have h8b : decide ((8 : Int) < (s.size : Int)) = false := by simp; omega
        have HB := hide (hp.symm.trans hb)
        have HY := hide (fun (h : ppOK s = true) => ppR_yes hd h)
        have HN := hide (fun (h : ppOK s = false) => ppR_no hd h)
        have HL := hide hlen
        have HO := hide hb
        clear hb hd hp hlen hst2 hbel
        go_enter Tryd.func13, Tryd.ntmps13
        go_wp2_with (first
          | (at_make; refine wpList_make_full _ rfl (.tmp 17) (.tmp 17) 30 rfl w.heap.size 3 i0 (.int .i64 0) 1 Tryd.underlying30 hi hz0 hz1 _ _ _ _ s.size rfl rfl (by first | rfl | omega) (by first | rfl | omega) (by rw [hz2]; omega) (by unfold maxLen; omega) (Nat.le_refl _) ?_; intro w1 hown hg))
        have hb1 := (Below.refl w.heap.size w).grown hg (Nat.le_refl _) (by simp)
        clear hg
        go_loopw [5, 21] (fun _ i wr => ∃ (k : Nat) (xs : List Value), k ≤ s.size ∧ i = .int .i64 k ∧ Below w.heap.size w wr ∧ wr.ownsRow w.heap.size 3 1 (.slice (some ⟨w.heap.size, 0, none⟩) s.size s.size) s.size xs ∧ Hid (xs.take k = (i64s (tnums s)).take k)) (fun _ i _ => s.size - (intOf i).toNat)
        case atStart => exact ⟨0, _, Nat.zero_le _, rfl, hb1, hown, by exact rfl⟩
        case round =>
          obtain ⟨k, xs, hk, rfl, hb, hown', hx⟩ := hrel
          clear hown hb1
          have hlx : xs.length = s.size := by simpa using hown'.1
          by_cases hlt : k < s.size
          · obtain ⟨old, hold⟩ : ∃ old, wr.cell? ⟨w.heap.size, k, none⟩ = some old := ⟨_, by rw [hown'.cellAt k (by omega)]; exact List.getElem?_eq_getElem (by omega)⟩
            have hfz := hown'.frozenAt k
            have hst := hide (take_set_i (unhide hx) (i64_get (tnums_at hlt)) (by omega))
            have ho2 := (hown'.stored k (.int .i64 ((s[k].toNat : Int) - 48))).1
            have hb2 := below_set_i hb hown' k (.int .i64 ((s[k].toNat : Int) - 48))
            have hby := s[k].toNat_lt
            clear hx hlx hown' hb
            go_wp2
            go_roundw
            case rel => exact ⟨k + 1, _, by omega, by go_num, hb2, ho2, hst⟩
            case measure => simp [intOf]; omega
          · obtain rfl : k = s.size := by omega
            have : xs = i64s (tnums s) := by
              have h := unhide hx
              rwa [List.take_of_length_le (by omega), List.take_of_length_le (by rw [i64_length, unhide HL]; exact Nat.le_refl _)] at h
            subst this
            have hI : Ints wr w.heap.size (.slice (some ⟨w.heap.size, 0, none⟩) s.size s.size) (tnums s) := Ints.of_own hown'
            have hsm : Small (tnums s) := fun x hx => by
              have := tnums_small x hx
              omega
            have H4 := hide (iisperm_any _ s.size s.size _ (tnums s) b (unhide HB) wr hI.reads (Nat.le_refl _) (by omega) hsm)
            clear hx hlx hown' hsm
            cases b with
            | true =>
              have HR := hide (unhide HY (unhide HO))
              go_wp2_with fail
              refine (unhide H4).mono ?_
              rintro e w2 ⟨rfl, hb2⟩
              have hI2 := hI.below hb2
              rw [← unhide HR] at hI2
              clear H4
              go_wp2
              go_ret2
              exact GivesIB.mk true hI2 (below_after hb hb2)
            | false =>
              have HR := hide (unhide HN (unhide HO))
              go_wp2_with fail
              refine (unhide H4).mono ?_
              rintro e w2 ⟨rfl, hb2⟩
              clear H4
              go_wp2
              go_ret2
              exact GivesIB.mk (v := .slice none 0 0) false (by rw [unhide HR]; exact Ints.nil _ _) (below_after hb hb2)
      · have hno : ppOK s = false := by rw [hp]; exact isP_long (by omega)
        obtain rfl : b = false := hb.symm.trans hno
        rw [ppR_no hd hno]
        have h8b : decide ((8 : Int) < (s.size : Int)) = true := by simp; omega
        have h8' : 8 < s.size := by omega
        clear hb hd hp hlen hno hst2
        go_enter Tryd.func13, Tryd.ntmps13
        go_wp2
        go_ret2
        exact GivesIB.mk (v := .slice none 0 0) false (Ints.nil _ _) (Below.refl _ _)
end Go.Proofs.YtplchjeamooliaaDoor


/-
  spec.ParseBasis, by its contract.
-/

namespace Go.Proofs.YtplchjeamooliaaDoor
set_option maxRecDepth 100000
open Go.RowKit

theorem own_keepStr {w w' : World} {B n : Nat} {v : Value} {xs : List Value} (h : w.ownsRow B 9 1 v n xs) (hk : KeepI w w') : w'.ownsRow B 9 1 v n xs := by
  refine ⟨h.1, ?_⟩
  rcases h.2 with hn | ⟨g, cap, cur, rfl, hb, hgg, hr⟩
  · exact .inl hn
  · exact .inr ⟨g, cap, cur, rfl, hb, (hk.block g cur _ _ hgg (by decide)).trans hgg, hr⟩
/-- 'out = append(out, p)' of a new row, with what it keeps of other blocks. -/
theorem wpList_push_row_keep {ops : Array Oper} {rest : List Oper} {o : Oper} {a : Act} {W : World} {Q : Exit → Act → World → Prop} (hgd : o.guard = none) (sl x : Operand)
    (ho : o.op = .call { callee := .builtin .append, args := #[sl, x], argTypes := #[22, 22] })
    (base : Nat) (W0 w0 wr : World) (v u : Value) (zss : List (List Int)) (zs : List Int) (hs : a.eval sl = v) (hx : a.eval x = .slice (some ⟨wr.heap.size, 0, none⟩) 1 1) (hW : W = wr.alloc (.cells #[u] 30))
    (hS : IntsS w0 base v zss) (hb0 : Below w0.heap.size w0 wr) (hu : Ints wr w0.heap.size u zs) (hn : zss.length ≤ 1048576) (hb : Below base W0 wr) (hbase : base ≤ w0.heap.size)
    (K : ∀ v' w', IntsS w' base v' (zss ++ [zs]) → Below base W0 w' → KeepI wr w' → wpList Tryd.prog ops Q rest (a.put o.dst v') w') : wpList Tryd.prog ops Q (o :: rest) a W := by
  obtain ⟨i0, hi, hz0, hz1, hz2⟩ := info_parts rowsInfo
  obtain ⟨vs, hown, hin⟩ := hS
  have hown1 := own_below hown hb0
  have hal := (Below.refl wr.heap.size wr).alloc (Nat.le_refl _) (.cells #[u] 30)
  have hown2 := own_below hown1 hal
  obtain ⟨A1, c1, rfl⟩ := hu.slice
  subst hW
  refine wpList_append_own_at _ hgd sl x 22 ho base 30 i0 (.slice none 0 0) 1 24 Tryd.underlying22 hi hz0 hz1 hz2 rfl (by decide) v _ _ hs hown2 ⟨wr.heap.size, 0, none⟩ 1 1 [.slice A1 zs.length c1] hx rfl ?_ ?_ (by unfold maxLen; omega) (by omega) (by simp; have := hb0.size; omega) ?_
  · intro j u hj
    match j, hj with
    | 0, hj => simp at hj; subst hj; simp [Addr.add]
  · intro y hy
    obtain rfl := List.mem_singleton.1 hy
    rfl
  · intro v' w' h1 h2 _ h4
    have hk := (KeepI.of_below hal).trans (KeepI.of_grown hown2 h2)
    refine K v' w' ⟨vs ++ [.slice A1 zs.length c1], by rw [List.length_append]; exact h1, ?_⟩ ?_ hk
    · exact ((hin.keepI (KeepI.of_below hb0)).keepI hk).push ((hu.low hbase).keepI hk) (hin.away_new hu.since (Nat.le_refl _))
    · exact (hb.trans (hal.mono (Nat.le_trans hbase hb0.size))).grown h2 (by simp; have := hb0.size; omega) (fun k hk => (hown.lt k hk).1)

theorem ppR_smallX (s : ByteArray) : Small (ppR s) := fun z hz => by
  unfold ppR at hz
  split at hz
  · simp at hz
  · split at hz
    · have := tnums_small z hz; omega
    · simp at hz
/-- What ParseBasis gives. -/
def pbOK (s : ByteArray) : Bool := if s.size = 0 then true else (pieces s (byteOf 32)).all ppOK && basis ((pieces s (byteOf 32)).map ppR)
def pbR (s : ByteArray) : List (List Int) := if s.size = 0 then [] else if pbOK s then (pieces s (byteOf 32)).map ppR else []
theorem pbOK_none {s : ByteArray} (h : s.size = 0) : pbOK s = true := by unfold pbOK; rw [if_pos h]
theorem pbR_none {s : ByteArray} (h : s.size = 0) : pbR s = [] := by unfold pbR; rw [if_pos h]
theorem pb_no {s : ByteArray} {P : List ByteArray} (h : ¬ s.size = 0) (hP : P = pieces s (byteOf 32)) (hk : (P.all ppOK && basis (P.map ppR)) = false) : pbOK s = false ∧ pbR s = [] := by
  subst hP
  have e : pbOK s = false := by unfold pbOK; rw [if_neg h]; exact hk
  exact ⟨e, by unfold pbR; rw [if_neg h, e]; rfl⟩
theorem pb_yes {s : ByteArray} {P : List ByteArray} (h : ¬ s.size = 0) (hP : P = pieces s (byteOf 32)) (hk : (P.all ppOK && basis (P.map ppR)) = true) : pbOK s = true ∧ pbR s = P.map ppR := by
  subst hP
  have e : pbOK s = true := by unfold pbOK; rw [if_neg h]; exact hk
  exact ⟨e, by unfold pbR; rw [if_neg h, e]; rfl⟩
theorem all_no {P : List ByteArray} {k : Nat} {p : ByteArray} (hp : P[k]? = some p) (h : ppOK p = false) : P.all ppOK = false := by
  rw [List.all_eq_false]
  exact ⟨p, List.mem_of_getElem? hp, by rw [h]; simp⟩
theorem all_take {P : List ByteArray} {k : Nat} {p : ByteArray} (hp : P[k]? = some p) (h : ppOK p = true) (hk : (P.take k).all ppOK = true) : (P.take (k + 1)).all ppOK = true := by
  rw [List.take_add_one, hp, Option.toList_some, List.all_append, hk]
  simp [h]
theorem map_takeX {P : List ByteArray} {k : Nat} {p : ByteArray} (hp : P[k]? = some p) : (P.take (k + 1)).map ppR = (P.take k).map ppR ++ [ppR p] := by
  rw [List.take_add_one, hp, Option.toList_some, List.map_append]; rfl
set_option maxHeartbeats 1600000 in
theorem spb_any (s : ByteArray) (hs : s.size ≤ 1048576) (w : World) :
    Calls Tryd.prog 4 #[.string s] w (GivesSSB w (pbR s) (pbOK s)) := by
  have hst := IntsS.made0 w w.heap.size (Nat.le_refl _)
  have hbel := (Below.refl w.heap.size w).alloc (Nat.le_refl _) (.cells #[] 30)
  by_cases h0 : s.size = 0
  · rw [pbR_none h0, pbOK_none h0]
    have he := empty_list h0
    clear hs h0
    go_enter Tryd.func4, Tryd.ntmps4
    go_wp2
    go_ret2
    exact GivesSSB.mk true hst hbel
  · have he := nonempty_list h0
    have H1 := hide (fun w' => ssplit_any s hs 32 (by omega) (by omega) w')
    have HP := hide (⟨pieces_le s (byteOf 32), fun p (hp : p ∈ pieces s (byteOf 32)) => (pieces_parts hp).2⟩ : (pieces s (byteOf 32)).length ≤ s.size + 1 ∧ ∀ p ∈ pieces s (byteOf 32), p.size ≤ s.size)
    obtain ⟨P, hP⟩ : ∃ P, P = pieces s (byteOf 32) := ⟨_, rfl⟩
    have HNO := hide (fun (h : (P.all ppOK && basis (P.map ppR)) = false) => pb_no h0 hP h)
    have HYES := hide (fun (h : (P.all ppOK && basis (P.map ppR)) = true) => pb_yes h0 hP h)
    rw [← hP] at H1 HP
    obtain ⟨N, hN⟩ : ∃ N, N = P.length := ⟨_, rfl⟩
    rw [← hN] at HP
    have hN1 : N ≤ 1048577 := by have := (unhide HP).1; omega
    have HN := hide hN
    have HZ := hide hs
    clear h0 hP hs
    go_enter Tryd.func4, Tryd.ntmps4
    go_wp2_with fail
    refine (unhide H1 _).mono ?_
    rintro e w2 ⟨v2, rfl, o2, d2⟩
    rw [← hN] at o2
    obtain ⟨A2, c2, rfl, _⟩ := Reads.of_own o2
    have hI2 := hst.below d2
    have hb2 := below_after hbel d2
    obtain ⟨B2, hB2⟩ : ∃ b, b = (w.alloc (.cells #[] 30)).heap.size := ⟨_, rfl⟩
    rw [← hB2] at o2
    clear H1 hst hbel d2 hN hB2
    go_wp2
    go_loopw [4, 6, 7, 8] (fun ov kv _ _ wr => ∃ k : Nat, k ≤ N ∧ kv = .int .i64 k ∧ Below w.heap.size w wr ∧ IntsS wr w.heap.size ov ((P.take k).map ppR) ∧ wr.ownsRow B2 9 1 (.slice A2 N c2) N (P.map Value.string) ∧ Hid ((P.take k).all ppOK = true)) (fun _ kv _ _ _ => N - (intOf kv).toNat)
    case atStart => exact ⟨0, Nat.zero_le _, rfl, hb2, hI2, o2, by exact (by simp : (P.take 0).all ppOK = true)⟩
    case round =>
      obtain ⟨k, hk, rfl, hb, hI, ho, hall⟩ := hrel
      clear hb2 hI2 o2
      by_cases hlt : k < N
      · obtain ⟨ad, u, rfl, _, hu, hc⟩ := (Reads.of_own_at ho).at_ hlt
        obtain ⟨p, hp, rfl⟩ := strs_at hu
        have hps : p.size ≤ 1048576 := by have h1 := (unhide HP).2 p (List.mem_of_getElem? hp); have h2 := unhide HZ; omega
        obtain ⟨b, hbb⟩ : ∃ b, ppOK p = b := ⟨_, rfl⟩
        have H3 := hide (spp_any p hps b hbb wr)
        have HPP := hide (⟨hp, hbb⟩ : P[k]? = some p ∧ ppOK p = b)
        have hml : ((P.take k).map ppR).length = k := by rw [List.length_map, List.length_take, ← unhide HN]; omega
        have hsz := hb.size
        clear hu hp hps hbb
        go_wp2_with fail
        refine (unhide H3).mono ?_
        rintro e w3 ⟨A3, c3, rfl, o3, d3⟩
        have hb3 := below_after hb d3
        clear H3
        cases b with
        | false =>
          obtain ⟨e1, e2⟩ := unhide HNO (by rw [all_no (unhide HPP).1 (unhide HPP).2]; rfl)
          have hst3 := IntsS.made0 w3 w.heap.size hb3.size
          have hbe3 := hb3.alloc hb3.size (.cells #[] 30)
          clear hI ho hb hml d3 o3 hc
          go_wp2
          go_ret2
          rw [e1, e2]; exact GivesSSB.mk false hst3 hbe3
        | true =>
          have ho3 := own_below ho d3
          have HA := hide (all_take (unhide HPP).1 (unhide HPP).2 (unhide hall))
          have HM := hide (map_takeX (unhide HPP).1)
          have hlen : ((P.take k).map ppR).length ≤ 1048576 := by rw [hml]; omega
          clear ho hc hml
          go_wp2_with (first
            | (at_builtin; refine wpList_push_row_keep rfl (.tmp 32) (.tmp 34) rfl w.heap.size w wr w3 _ _ ((P.take k).map ppR) (ppR p) rfl rfl rfl hI d3 o3 hlen hb3 hsz ?_; intro v4 w4 hI4 hb4 hk4))
          have ho4 := own_keepStr ho3 hk4
          rw [← unhide HM] at hI4
          clear hI hb ho3 hk4 hb3 o3 d3 hlen
          go_wp2
          go_roundw
          case rel => exact ⟨k + 1, by omega, by go_num, hb4, hI4, ho4, HA⟩
          case measure => simp [intOf]; omega
      · obtain rfl : k = N := by omega
        have ht : P.take k = P := List.take_of_length_le (by rw [← unhide HN]; exact Nat.le_refl _)
        rw [ht] at hI hall
        obtain ⟨Ao, co, rfl⟩ := hI.slice
        have hml : (P.map ppR).length = k := by rw [List.length_map, ← unhide HN]
        rw [hml] at hI ⊢
        obtain ⟨b, hbb⟩ : ∃ b, basis (P.map ppR) = b := ⟨_, rfl⟩
        have H5 := hide (by have h5 := sbas2_any Ao k co w.heap.size (P.map ppR) wr hI (by omega) (fun z hz => by obtain ⟨q, _, rfl⟩ := List.mem_map.1 hz; exact ⟨Nat.le_trans (ppR_le q) (by omega), ppR_smallX q⟩); rw [hbb] at h5; exact h5)
        have hE : (P.all ppOK && basis (P.map ppR)) = b := by rw [unhide hall, hbb]; rfl
        have HE := hide hE
        clear hml ht hE hbb ho
        go_wp2_with fail
        refine (unhide H5).mono ?_
        rintro e w6 ⟨rfl, d6⟩
        have hb6 := below_after hb d6
        have hI6 := hI.below d6
        clear H5 hI hb d6
        cases b with
        | false =>
          obtain ⟨e1, e2⟩ := unhide HNO (unhide HE)
          have hst3 := IntsS.made0 w6 w.heap.size hb6.size
          have hbe3 := hb6.alloc hb6.size (.cells #[] 30)
          go_wp2
          go_ret2
          rw [e1, e2]; exact GivesSSB.mk false hst3 hbe3
        | true =>
          obtain ⟨e1, e2⟩ := unhide HYES (unhide HE)
          go_wp2
          go_ret2
          rw [e1, e2]; exact GivesSSB.mk true hI6 hb6
end Go.Proofs.YtplchjeamooliaaDoor
