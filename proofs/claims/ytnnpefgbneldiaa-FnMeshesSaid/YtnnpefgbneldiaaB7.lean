/-
  Words and contracts that the laws lean on, bundled: OccF, OccR, Parts, Draw7, DrawR, Sames, Big.
-/
import Derived.Test.YtnnpefgbneldiaaB6
import Derived.Test.YtnnpefgbneldiaaB3
import Derived.Deep.RegionHeld3
import Derived.Test.YtnnpefgbneldiaaB1
import Derived.Test.YtnnpefgbneldiaaB4
import Derived.Deep.RegionLaw
import Derived.IntWalk
import Derived.Test.YtnnpefgbneldiaaProg
import Derived.Test.YtnnpefgbneldiaaB2

/-
  spec.l7Find, spec.OccurrencesOf, spec.CountPattern, spec.HasPattern, by their contracts.
-/

namespace Go.Proofs.Ytnnpefgbneldiaa
set_option maxRecDepth 100000
open Go.RowKit

theorem extK_len {p q : List Int} {m : Nat} {head : List Int} (ih : ∀ x, (extL p q m (head ++ [x])).length ≤ 2 ^ (p.length - x.toNat)) : ∀ j, j ≤ p.length - lastP head → (extK p q m head j).length + 2 ^ (p.length - lastP head - j) ≤ 2 ^ (p.length - lastP head)
  | 0, _ => by rw [extK_zero]; simp
  | j + 1, hj => by
    have h1 := extK_len ih j (by omega)
    have e : p.length - lastP head - j = (p.length - lastP head - (j + 1)) + 1 := by omega
    rw [e, Nat.pow_succ] at h1
    cases hf : fitL p q (head ++ [((lastP head + j + 1 : Nat) : Int)]) with
    | false => rw [extK_no hf]; omega
    | true =>
      have h2 := ih ((lastP head + j + 1 : Nat) : Int)
      rw [show p.length - ((lastP head + j + 1 : Nat) : Int).toNat = p.length - lastP head - (j + 1) by omega] at h2
      rw [extK_yes hf, List.length_append]
      omega
theorem extL_size {p q : List Int} : ∀ (m : Nat) (head : List Int), (extL p q m head).length ≤ 2 ^ (p.length - lastP head)
  | 0, head => by rw [extL, List.length_singleton]; exact Nat.one_le_two_pow
  | m + 1, head => by
    have h := extK_len (p := p) (q := q) (m := m) (head := head) (fun x => by
      have := extL_size (p := p) (q := q) m (head ++ [x])
      rwa [lastP_snoc] at this) (p.length - lastP head) (Nat.le_refl _)
    rw [extK_all] at h
    exact Nat.le_trans (Nat.le_add_right _ _) h
theorem extK_mono {p q : List Int} {m : Nat} {head : List Int} (j : Nat) : (extK p q m head j).length ≤ (extK p q m head (j + 1)).length := by
  cases hf : fitL p q (head ++ [((lastP head + j + 1 : Nat) : Int)]) with
  | false => rw [extK_no hf]; exact Nat.le_refl _
  | true => rw [extK_yes hf, List.length_append]; omega
theorem extK_le {p q : List Int} {m : Nat} {head : List Int} {j : Nat} (k : Nat) : (extK p q m head j).length ≤ (extK p q m head (j + k)).length := by
  induction k with
  | zero => exact Nat.le_refl _
  | succ k ih => exact Nat.le_trans ih (extK_mono _)
theorem occ_size (p q : List Int) (hp : isP p = true) : (occR p q).length ≤ 256 := by
  have h8 := isP_le hp
  unfold occR
  split
  · have := extL_size (p := p) (q := q) q.length []
    rw [lastP_nil] at this
    exact Nat.le_trans this (Nat.pow_le_pow_right (n := 2) (by decide) (show p.length - 0 ≤ 8 by omega))
  · simp

/-- What l7Find leaves: the list with more rows, of which none but head's own is older than the call. -/
def FindEnds (w : World) (B : Nat) (vs : List Value) (zss : List (List Int)) (hv : Value) (L : List (List Int)) (e : Ending) (w' : World) : Prop :=
  ∃ v' us, e = .returned v' ∧ w'.ownsRow B 24 1 v' (zss.length + L.length) (vs ++ us) ∧ Inner w' B (vs ++ us) (zss ++ L) ∧ (∀ x ∈ us, x = hv ∨ Since w.heap.size x) ∧ Below B w w' ∧ KeepI w w'

set_option maxHeartbeats 1600000 in
theorem l7find_any : ∀ (m : Nat) (A A' : Option Addr) (n c Bp n' c' Bq B : Nat) (p q : List Int) (Ah : Option Addr) (nh ch : Nat) (head : List Int) (v : Value) (vs : List Value) (zss : List (List Int)) (w : World)
    (_ : Arg w Bp A n c p) (_ : Arg w Bq A' n' c' q) (_ : Bp ≤ B) (_ : Bq ≤ B) (_ : B ≤ w.heap.size) (_ : isP p = true) (_ : isP q = true) (_ : head.length + m = q.length) (_ : PlOK p.length head) (_ : Ints w B (.slice Ah nh ch) head)
    (_ : w.ownsRow B 24 1 v zss.length vs) (_ : Inner w B vs zss) (_ : ∀ x ∈ vs, Away x (.slice Ah nh ch)) (_ : zss.length + (extL p q m head).length ≤ 1048576),
    Calls Try.prog 106 #[.slice A n c, .slice A' n' c', .slice Ah nh ch, v] w (FindEnds w B vs zss (.slice Ah nh ch) (extL p q m head)) := by
  intro m
  induction m with
  | zero =>
    intro A A' n c Bp n' c' Bq B p q Ah nh ch head v vs zss w h h' hBp hBq hB hp hq hm hP hh hown hin haw hlen
    obtain ⟨i0, hi, hz0, hz1, hz2⟩ := info_parts rowsInfo
    have hl' := h'.len
    have hnh := hh.len
    have heq : (nh : Int) = (n' : Int) := by omega
    obtain ⟨Av, cv, rfl, _⟩ := Reads.of_own hown
    rw [extL, List.length_singleton] at hlen
    rw [extL]
    have HH := hide (And.intro hin (And.intro haw hh))
    have HO := hide hown
    clear h h' hp hq hP hm hl' hin haw hh hnh
    go_enter Try.func106, Try.ntmps106
    go_wp2_with (first
      | (at_builtin; refine wpList_append_one rfl (.tmp 17) (.tmp 19) 40 rfl B 24 i0 (.slice none 0 0) 24 Try.underlying40 hi hz0 hz1 hz2 rfl w w _ _ _ rfl hown (.slice Ah nh ch) rfl rfl rfl (by omega) (by unfold maxLen; omega) (Below.refl _ _) hB ?_))
    intro v2 w2 hown2 hb2 hg2
    obtain ⟨hin, haw, hh⟩ := unhide HH
    have hk := KeepI.of_grown (unhide HO) hg2
    have hin2 := (hin.keepI hk).push (hh.keepI hk) haw
    clear hg2 hin haw hh
    go_wp2
    go_ret
    exact ⟨v2, [.slice Ah nh ch], rfl, hown2, hin2, fun x hx => .inl (List.mem_singleton.1 hx), hb2, hk⟩
  | succ m ih =>
    intro A A' n c Bp n' c' Bq B p q Ah nh ch head v vs zss w h h' hBp hBq hB hp hq hm hP hh hown hin haw hlen
    obtain ⟨i0, hi, hz0, hz1, hz2⟩ := info_parts intInfo
    have hl := h.len
    have hl' := h'.len
    have hnh := hh.len
    have h8 := isP_le hp
    have hq8 := isP_le hq
    have hne : ¬ (nh : Int) = (n' : Int) := by omega
    have hnh8 : nh ≤ 8 := by omega
    have hn8 : n ≤ 8 := by omega
    have hlast := lastP_le hP
    obtain ⟨Av, cv, rfl, _⟩ := Reads.of_own hown
    have hu0 := hh.until_
    have HX := hide (fun (j : Nat) (hj : j < p.length - lastP head) => show zss.length + (extK p q m head (j + 1)).length ≤ 1048576 from by
      have := extK_le (p := p) (q := q) (m := m) (head := head) (j := j + 1) (p.length - lastP head - (j + 1))
      rw [show j + 1 + (p.length - lastP head - (j + 1)) = p.length - lastP head by omega, extK_all] at this
      omega)
    have HC : Hid (Ints w B (.slice Ah nh ch) head ∧ w.ownsRow B 24 1 (.slice Av zss.length cv) (zss.length + (extK p q m head 0).length) (vs ++ []) ∧ Inner w B (vs ++ []) (zss ++ extK p q m head 0) ∧ (∀ x ∈ ([] : List Value), Since w.heap.size x) ∧ Below B w w ∧ KeepI w w) :=
      hide ⟨hh, by rw [extK_zero, List.append_nil]; exact hown, by rw [extK_zero, List.append_nil, List.append_nil]; exact hin, fun x hx => by simp at hx, Below.refl _ _, KeepI.refl _⟩
    have HA := hide (And.intro haw (And.intro hP (And.intro hp hq)))
    obtain ⟨f, hf⟩ : ∃ f, lastP head = f := ⟨_, rfl⟩
    have hf0 : (∀ k, nh = k + 1 → ∃ ad, Ah = some ad ∧ w.cell? (ad.add k) = some (.int .i64 (f : Int))) ∧ (nh = 0 → f = 0) := by
      constructor
      · intro k hk
        obtain ⟨ad, u, rfl, _, hu, hc⟩ := hh.reads.at_ (show k < nh by omega)
        obtain ⟨z, hz, rfl⟩ := i64_at hu
        have hr := hP.rng (i := k) (by omega)
        rw [at0_of hz] at hr
        rw [lastP_at (by omega), show head.length - 1 = k by omega, at0_of hz] at hf
        exact ⟨ad, rfl, by rw [hc, show z = (f : Int) by omega]⟩
      · intro h0
        have : head = [] := List.eq_nil_of_length_eq_zero (by omega)
        subst this
        exact hf.symm
    have HF := hide hf
    have HL := hide hlen
    have HM := hide (And.intro hm hnh)
    rw [hf] at hlast
    clear hh hown hin haw hP hp hq hlen hf hm hnh
    cases nh with
    | zero =>
      have HZ := hide (hf0.2 rfl)
      have e0 : ((0 : Int) == (n' : Int)) = false := by rw [beq_eq_false_iff_ne]; omega
      clear hf0
      go_enter Try.func106, Try.ntmps106
      go_wp2
      go_loopw [3, 10, 11] (fun o i _ wr => ∃ (j : Nat) (us : List Value), j ≤ p.length - f ∧ i = .int .i64 ((f + j + 1 : Nat) : Int) ∧ Hid (Ints wr B (.slice Ah 0 ch) head ∧ wr.ownsRow B 24 1 o (zss.length + (extK p q m head j).length) (vs ++ us) ∧ Inner wr B (vs ++ us) (zss ++ extK p q m head j) ∧ (∀ x ∈ us, Since w.heap.size x) ∧ Below B w wr ∧ KeepI w wr)) (fun _ i _ _ => (p.length + 1 - (intOf i).toNat))
      case atStart => exact ⟨0, [], Nat.zero_le _, by rw [unhide HZ]; rfl, HC⟩
      case round =>
        obtain ⟨j, us, hj, rfl, HCr⟩ := hrel
        clear HC
        obtain ⟨Ao, co, rfl, _⟩ := Reads.of_own (unhide HCr).2.1
        by_cases hlt : j < p.length - f
        · have hst := own0 wr wr.heap.size (Nat.le_refl _)
          have hal := (Below.refl wr.heap.size wr).alloc (Nat.le_refl _) (.cells #[] 3)
          have hArg := ((unhide HCr).1.arg (by omega) (unhide HCr).1.cap (fun z hz => by have := (unhide HA).2.1.1 z hz; omega)).below hal
          have hBw : B ≤ wr.heap.size := Nat.le_trans hB (unhide HCr).2.2.2.2.1.size
          go_wp2_with (first
            | (at_builtin; refine wpList_append_arg rfl (.tmp 38) (.tmp 39) rfl wr.heap.size _ 0 (0) ch _ _ Ah [] head rfl rfl hst hArg (by omega) hal (by simp) ?_))
          intro v5 w5 hown5 hb5 hg5
          have hs5 := hb5.size
          clear hg5 hst hal hArg
          go_wp2_with (first
            | (at_builtin; refine wpList_append_one rfl (.tmp 40) (.tmp 42) 24 rfl wr.heap.size 3 i0 (.int .i64 0) 8 Try.underlying24 hi hz0 hz1 hz2 rfl wr w5 _ _ _ rfl hown5 (.int .i64 ((f + j + 1 : Nat) : Int)) rfl rfl rfl (by omega) (by unfold maxLen; omega) hb5 hs5 ?_))
          intro v6 w6 hown6 hb6 hg6
          rw [i64_snoc] at hown6
          clear hg6 hown5 hb5 hs5
          have hI6 : Ints w6 wr.heap.size v6 (head ++ [((f + j + 1 : Nat) : Int)]) := Ints.of_own hown6
          obtain ⟨A6, c6, rfl, _⟩ := Reads.of_own hown6
          obtain ⟨x1, x2, x3, x4, x5, x6⟩ := unhide HCr
          have y5 : Below B w w6 := x5.trans (hb6.mono hBw)
          have hP6 : PlOK p.length (head ++ [((f + j + 1 : Nat) : Int)]) := PlOK.snoc.2 ⟨(unhide HA).2.1, by rw [unhide HF]; omega, by omega⟩
          have hA6 : Arg w6 w6.heap.size A6 (0 + 1) c6 (head ++ [((f + j + 1 : Nat) : Int)]) := hI6.arg (by omega) hI6.cap (fun z hz => by have := hP6.1 z hz; omega)
          obtain ⟨b, hb⟩ : ∃ b, fitL p q (head ++ [((f + j + 1 : Nat) : Int)]) = b := ⟨_, rfl⟩
          have H1 := hide (l7fits_any A A' A6 n c Bp n' c' Bq _ c6 _ p q _ b hb w6 (h.stay y5 hBp) (h'.stay y5 hBq) hA6 hP6 (by omega) (by have := (unhide HM).1; have := (unhide HM).2; omega))
          have hsn := hI6.since
          have haw6 : ∀ x ∈ vs ++ us, Away x (.slice A6 (0 + 1) c6) := x3.away_new hsn (Nat.le_refl _)
          have hws : w.heap.size ≤ wr.heap.size := x5.size
          have HEX := hide (unhide HX j (by rw [unhide HF]; omega))
          cases b with
          | false =>
            have HE : Hid (extK p q m head (j + 1) = extK p q m head j) := hide (extK_no (by rw [unhide HF]; exact hb))
            have HC6 : Hid (Ints w6 B (.slice Ah 0 ch) head ∧ w6.ownsRow B 24 1 (.slice Ao (zss.length + (extK p q m head j).length) co) (zss.length + (extK p q m head j).length) (vs ++ us) ∧ Inner w6 B (vs ++ us) (zss ++ extK p q m head j) ∧ (∀ x ∈ us, Since w.heap.size x) ∧ Below B w w6 ∧ KeepI w w6) :=
              hide ⟨x1.below hb6, own_below x2 hb6, x3.keepI (KeepI.of_below hb6), x4, y5, x6.trans (KeepI.of_below hb6)⟩
            clear hI6 hown6 hb6 x1 x2 x3 x4 x5 x6 y5 hP6 hA6 hb hsn haw6 HCr HEX
            go_wp2_with fail
            refine (unhide H1).mono ?_
            rintro e w7 ⟨rfl, hd⟩
            have HC7 : Hid (Ints w7 B (.slice Ah 0 ch) head ∧ w7.ownsRow B 24 1 (.slice Ao (zss.length + (extK p q m head j).length) co) (zss.length + (extK p q m head (j + 1)).length) (vs ++ us) ∧ Inner w7 B (vs ++ us) (zss ++ extK p q m head (j + 1)) ∧ (∀ x ∈ us, Since w.heap.size x) ∧ Below B w w7 ∧ KeepI w w7) := hide (by
              obtain ⟨x1, x2, x3, x4, x5, x6⟩ := unhide HC6
              rw [unhide HE]
              exact ⟨x1.below (hd.below _), own_below x2 (hd.below _), x3.keepI hd.keepI, x4, x5.trans (hd.below _), x6.trans hd.keepI⟩)
            clear H1 hd HC6 HE
            go_wp2
            go_roundw
            case rel => exact ⟨j + 1, us, by omega, by go_num, HC7⟩
            case measure => simp [intOf]; omega
          | true =>
            have HE : Hid (extK p q m head (j + 1) = extK p q m head j ++ extL p q m (head ++ [((f + j + 1 : Nat) : Int)])) := hide (by have := extK_yes (p := p) (q := q) (m := m) (head := head) (j := j) (by rw [unhide HF]; exact hb); rwa [unhide HF] at this)
            have H2 := hide (fun (w7 : World) (hd : Below w6.heap.size w6 w7) => ih A A' n c Bp n' c' Bq B p q A6 _ c6 (head ++ [((f + j + 1 : Nat) : Int)]) (.slice Ao (zss.length + (extK p q m head j).length) co) (vs ++ us) (zss ++ extK p q m head j) w7 (h.stay (y5.trans (hd.mono (Nat.le_trans hBw hb6.size))) hBp) (h'.stay (y5.trans (hd.mono (Nat.le_trans hBw hb6.size))) hBq) hBp hBq (Nat.le_trans hBw (Nat.le_trans hb6.size hd.size)) (unhide HA).2.2.1 (unhide HA).2.2.2 (by have := (unhide HM).1; rw [List.length_append, List.length_singleton]; omega) hP6 ((hI6.below hd).low hBw)
              (by rw [List.length_append]; exact own_below (own_below x2 hb6) hd) ((x3.keepI (KeepI.of_below hb6)).keepI (KeepI.of_below hd)) haw6 (by have := unhide HEX; rw [unhide HE, List.length_append] at this; rw [List.length_append]; omega))
            have HC6 := hide (And.intro (x1.below hb6) (And.intro x4 (And.intro y5 (x6.trans (KeepI.of_below hb6)))))
            have hb6s := hb6.size
            clear hI6 hown6 hb6 x1 x2 x3 x4 x5 x6 y5 hP6 hA6 hb haw6 HCr HEX
            go_wp2_with fail
            refine (unhide H1).mono ?_
            rintro e w7 ⟨rfl, hd⟩
            have H3 := hide (unhide H2 w7 (hd.below _))
            clear H1 H2
            go_wp2_with fail
            refine (unhide H3).mono ?_
            rintro e w8 ⟨v8, us2, rfl, o8, i8, hu8, hb8, hk8⟩
            have HC8 : Hid (Ints w8 B (.slice Ah 0 ch) head ∧ w8.ownsRow B 24 1 v8 (zss.length + (extK p q m head (j + 1)).length) (vs ++ (us ++ us2)) ∧ Inner w8 B (vs ++ (us ++ us2)) (zss ++ extK p q m head (j + 1)) ∧ (∀ x ∈ us ++ us2, Since w.heap.size x) ∧ Below B w w8 ∧ KeepI w w8) := hide (by
              obtain ⟨x1, x4, x5, x6⟩ := unhide HC6
              rw [List.append_assoc] at o8 i8
              rw [List.append_assoc, ← unhide HE] at i8
              rw [List.length_append, Nat.add_assoc, ← List.length_append, ← unhide HE] at o8
              refine ⟨(x1.below (hd.below _)).keepI hk8, o8, i8, fun x hx => ?_, (x5.trans (hd.below _)).trans hb8, (x6.trans hd.keepI).trans hk8⟩
              rcases List.mem_append.1 hx with hx | hx
              · exact x4 x hx
              · rcases hu8 x hx with rfl | hx
                · exact hsn.mono hws
                · exact hx.mono (by have := hd.size; omega))
            clear H3 o8 i8 hu8 hb8 hk8 hd HC6 hsn HE
            go_wp2
            go_roundw
            case rel => exact ⟨j + 1, us ++ us2, by omega, by go_num, HC8⟩
            case measure => simp [intOf]; omega
        · obtain rfl : j = p.length - f := by omega
          obtain ⟨x1, x2, x3, x4, x5, x6⟩ := unhide HCr
          have hE : extK p q m head (p.length - f) = extL p q (m + 1) head := by have := extK_all p q m head; rwa [unhide HF] at this
          have HR : Hid (wr.ownsRow B 24 1 (.slice Ao (zss.length + (extK p q m head (p.length - f)).length) co) (zss.length + (extL p q (m + 1) head).length) (vs ++ us) ∧ Inner wr B (vs ++ us) (zss ++ extL p q (m + 1) head) ∧ (∀ x ∈ us, Since w.heap.size x) ∧ Below B w wr ∧ KeepI w wr) :=
            hide ⟨by rw [← hE]; exact x2, by rw [← hE]; exact x3, x4, x5, x6⟩
          clear x1 x2 x3 x4 x5 x6 HCr hE
          go_wp2
          go_ret
          obtain ⟨x2, x3, x4, x5, x6⟩ := unhide HR
          exact ⟨_, us, rfl, x2, x3, fun x hx => .inr (x4 x hx), x5, x6⟩
    | succ nh =>
      obtain ⟨adh, rfl, hcl⟩ := hf0.1 nh rfl
      have hki : ((nh + 1 : Nat) : Int) - 1 = (nh : Int) := by omega
      have e0 : ((nh : Int) + 1 == (n' : Int)) = false := by rw [beq_eq_false_iff_ne]; omega
      clear hf0
      go_enter Try.func106, Try.ntmps106
      go_wp2
      clear hcl hki
      go_loopw [3, 10, 11] (fun o i _ wr => ∃ (j : Nat) (us : List Value), j ≤ p.length - f ∧ i = .int .i64 ((f + j + 1 : Nat) : Int) ∧ Hid (Ints wr B (.slice (some adh) (nh + 1) ch) head ∧ wr.ownsRow B 24 1 o (zss.length + (extK p q m head j).length) (vs ++ us) ∧ Inner wr B (vs ++ us) (zss ++ extK p q m head j) ∧ (∀ x ∈ us, Since w.heap.size x) ∧ Below B w wr ∧ KeepI w wr)) (fun _ i _ _ => (p.length + 1 - (intOf i).toNat))
      case atStart => exact ⟨0, [], Nat.zero_le _, by go_num, HC⟩
      case round =>
        obtain ⟨j, us, hj, rfl, HCr⟩ := hrel
        clear HC
        obtain ⟨Ao, co, rfl, _⟩ := Reads.of_own (unhide HCr).2.1
        by_cases hlt : j < p.length - f
        · have hst := own0 wr wr.heap.size (Nat.le_refl _)
          have hal := (Below.refl wr.heap.size wr).alloc (Nat.le_refl _) (.cells #[] 3)
          have hArg := ((unhide HCr).1.arg (by omega) (unhide HCr).1.cap (fun z hz => by have := (unhide HA).2.1.1 z hz; omega)).below hal
          have hBw : B ≤ wr.heap.size := Nat.le_trans hB (unhide HCr).2.2.2.2.1.size
          go_wp2_with (first
            | (at_builtin; refine wpList_append_arg rfl (.tmp 38) (.tmp 39) rfl wr.heap.size _ 0 ((nh + 1)) ch _ _ (some adh) [] head rfl rfl hst hArg (by omega) hal (by simp) ?_))
          intro v5 w5 hown5 hb5 hg5
          have hs5 := hb5.size
          clear hg5 hst hal hArg
          go_wp2_with (first
            | (at_builtin; refine wpList_append_one rfl (.tmp 40) (.tmp 42) 24 rfl wr.heap.size 3 i0 (.int .i64 0) 8 Try.underlying24 hi hz0 hz1 hz2 rfl wr w5 _ _ _ rfl hown5 (.int .i64 ((f + j + 1 : Nat) : Int)) rfl rfl rfl (by omega) (by unfold maxLen; omega) hb5 hs5 ?_))
          intro v6 w6 hown6 hb6 hg6
          rw [i64_snoc] at hown6
          clear hg6 hown5 hb5 hs5
          have hI6 : Ints w6 wr.heap.size v6 (head ++ [((f + j + 1 : Nat) : Int)]) := Ints.of_own hown6
          obtain ⟨A6, c6, rfl, _⟩ := Reads.of_own hown6
          obtain ⟨x1, x2, x3, x4, x5, x6⟩ := unhide HCr
          have y5 : Below B w w6 := x5.trans (hb6.mono hBw)
          have hP6 : PlOK p.length (head ++ [((f + j + 1 : Nat) : Int)]) := PlOK.snoc.2 ⟨(unhide HA).2.1, by rw [unhide HF]; omega, by omega⟩
          have hA6 : Arg w6 w6.heap.size A6 ((nh + 1) + 1) c6 (head ++ [((f + j + 1 : Nat) : Int)]) := hI6.arg (by omega) hI6.cap (fun z hz => by have := hP6.1 z hz; omega)
          obtain ⟨b, hb⟩ : ∃ b, fitL p q (head ++ [((f + j + 1 : Nat) : Int)]) = b := ⟨_, rfl⟩
          have H1 := hide (l7fits_any A A' A6 n c Bp n' c' Bq _ c6 _ p q _ b hb w6 (h.stay y5 hBp) (h'.stay y5 hBq) hA6 hP6 (by omega) (by have := (unhide HM).1; have := (unhide HM).2; omega))
          have hsn := hI6.since
          have haw6 : ∀ x ∈ vs ++ us, Away x (.slice A6 ((nh + 1) + 1) c6) := x3.away_new hsn (Nat.le_refl _)
          have hws : w.heap.size ≤ wr.heap.size := x5.size
          have HEX := hide (unhide HX j (by rw [unhide HF]; omega))
          cases b with
          | false =>
            have HE : Hid (extK p q m head (j + 1) = extK p q m head j) := hide (extK_no (by rw [unhide HF]; exact hb))
            have HC6 : Hid (Ints w6 B (.slice (some adh) (nh + 1) ch) head ∧ w6.ownsRow B 24 1 (.slice Ao (zss.length + (extK p q m head j).length) co) (zss.length + (extK p q m head j).length) (vs ++ us) ∧ Inner w6 B (vs ++ us) (zss ++ extK p q m head j) ∧ (∀ x ∈ us, Since w.heap.size x) ∧ Below B w w6 ∧ KeepI w w6) :=
              hide ⟨x1.below hb6, own_below x2 hb6, x3.keepI (KeepI.of_below hb6), x4, y5, x6.trans (KeepI.of_below hb6)⟩
            clear hI6 hown6 hb6 x1 x2 x3 x4 x5 x6 y5 hP6 hA6 hb hsn haw6 HCr HEX
            go_wp2_with fail
            refine (unhide H1).mono ?_
            rintro e w7 ⟨rfl, hd⟩
            have HC7 : Hid (Ints w7 B (.slice (some adh) (nh + 1) ch) head ∧ w7.ownsRow B 24 1 (.slice Ao (zss.length + (extK p q m head j).length) co) (zss.length + (extK p q m head (j + 1)).length) (vs ++ us) ∧ Inner w7 B (vs ++ us) (zss ++ extK p q m head (j + 1)) ∧ (∀ x ∈ us, Since w.heap.size x) ∧ Below B w w7 ∧ KeepI w w7) := hide (by
              obtain ⟨x1, x2, x3, x4, x5, x6⟩ := unhide HC6
              rw [unhide HE]
              exact ⟨x1.below (hd.below _), own_below x2 (hd.below _), x3.keepI hd.keepI, x4, x5.trans (hd.below _), x6.trans hd.keepI⟩)
            clear H1 hd HC6 HE
            go_wp2
            go_roundw
            case rel => exact ⟨j + 1, us, by omega, by go_num, HC7⟩
            case measure => simp [intOf]; omega
          | true =>
            have HE : Hid (extK p q m head (j + 1) = extK p q m head j ++ extL p q m (head ++ [((f + j + 1 : Nat) : Int)])) := hide (by have := extK_yes (p := p) (q := q) (m := m) (head := head) (j := j) (by rw [unhide HF]; exact hb); rwa [unhide HF] at this)
            have H2 := hide (fun (w7 : World) (hd : Below w6.heap.size w6 w7) => ih A A' n c Bp n' c' Bq B p q A6 _ c6 (head ++ [((f + j + 1 : Nat) : Int)]) (.slice Ao (zss.length + (extK p q m head j).length) co) (vs ++ us) (zss ++ extK p q m head j) w7 (h.stay (y5.trans (hd.mono (Nat.le_trans hBw hb6.size))) hBp) (h'.stay (y5.trans (hd.mono (Nat.le_trans hBw hb6.size))) hBq) hBp hBq (Nat.le_trans hBw (Nat.le_trans hb6.size hd.size)) (unhide HA).2.2.1 (unhide HA).2.2.2 (by have := (unhide HM).1; rw [List.length_append, List.length_singleton]; omega) hP6 ((hI6.below hd).low hBw)
              (by rw [List.length_append]; exact own_below (own_below x2 hb6) hd) ((x3.keepI (KeepI.of_below hb6)).keepI (KeepI.of_below hd)) haw6 (by have := unhide HEX; rw [unhide HE, List.length_append] at this; rw [List.length_append]; omega))
            have HC6 := hide (And.intro (x1.below hb6) (And.intro x4 (And.intro y5 (x6.trans (KeepI.of_below hb6)))))
            have hb6s := hb6.size
            clear hI6 hown6 hb6 x1 x2 x3 x4 x5 x6 y5 hP6 hA6 hb haw6 HCr HEX
            go_wp2_with fail
            refine (unhide H1).mono ?_
            rintro e w7 ⟨rfl, hd⟩
            have H3 := hide (unhide H2 w7 (hd.below _))
            clear H1 H2
            go_wp2_with fail
            refine (unhide H3).mono ?_
            rintro e w8 ⟨v8, us2, rfl, o8, i8, hu8, hb8, hk8⟩
            have HC8 : Hid (Ints w8 B (.slice (some adh) (nh + 1) ch) head ∧ w8.ownsRow B 24 1 v8 (zss.length + (extK p q m head (j + 1)).length) (vs ++ (us ++ us2)) ∧ Inner w8 B (vs ++ (us ++ us2)) (zss ++ extK p q m head (j + 1)) ∧ (∀ x ∈ us ++ us2, Since w.heap.size x) ∧ Below B w w8 ∧ KeepI w w8) := hide (by
              obtain ⟨x1, x4, x5, x6⟩ := unhide HC6
              rw [List.append_assoc] at o8 i8
              rw [List.append_assoc, ← unhide HE] at i8
              rw [List.length_append, Nat.add_assoc, ← List.length_append, ← unhide HE] at o8
              refine ⟨(x1.below (hd.below _)).keepI hk8, o8, i8, fun x hx => ?_, (x5.trans (hd.below _)).trans hb8, (x6.trans hd.keepI).trans hk8⟩
              rcases List.mem_append.1 hx with hx | hx
              · exact x4 x hx
              · rcases hu8 x hx with rfl | hx
                · exact hsn.mono hws
                · exact hx.mono (by have := hd.size; omega))
            clear H3 o8 i8 hu8 hb8 hk8 hd HC6 hsn HE
            go_wp2
            go_roundw
            case rel => exact ⟨j + 1, us ++ us2, by omega, by go_num, HC8⟩
            case measure => simp [intOf]; omega
        · obtain rfl : j = p.length - f := by omega
          obtain ⟨x1, x2, x3, x4, x5, x6⟩ := unhide HCr
          have hE : extK p q m head (p.length - f) = extL p q (m + 1) head := by have := extK_all p q m head; rwa [unhide HF] at this
          have HR : Hid (wr.ownsRow B 24 1 (.slice Ao (zss.length + (extK p q m head (p.length - f)).length) co) (zss.length + (extL p q (m + 1) head).length) (vs ++ us) ∧ Inner wr B (vs ++ us) (zss ++ extL p q (m + 1) head) ∧ (∀ x ∈ us, Since w.heap.size x) ∧ Below B w wr ∧ KeepI w wr) :=
            hide ⟨by rw [← hE]; exact x2, by rw [← hE]; exact x3, x4, x5, x6⟩
          clear x1 x2 x3 x4 x5 x6 HCr hE
          go_wp2
          go_ret
          obtain ⟨x2, x3, x4, x5, x6⟩ := unhide HR
          exact ⟨_, us, rfl, x2, x3, fun x hx => .inr (x4 x hx), x5, x6⟩
end Go.Proofs.Ytnnpefgbneldiaa


/-
  spec.OccurrencesOf, spec.CountPattern, spec.HasPattern, spec.IsOccurrence, by their contracts.
-/

namespace Go.Proofs.Ytnnpefgbneldiaa
set_option maxRecDepth 100000
open Go.RowKit

set_option maxHeartbeats 800000 in
theorem soccs_any (A A' : Option Addr) (n c B n' c' B' : Nat) (p q : List Int) (w : World) (h : Arg w B A n c p) (h' : Arg w B' A' n' c' q) :
    Calls Try.prog 90 #[.slice A n c, .slice A' n' c'] w (GivesSS w (occR p q)) := by
  obtain ⟨b, hb⟩ : ∃ b, isP p = b := ⟨_, rfl⟩
  obtain ⟨b', hb'⟩ : ∃ b, isP q = b := ⟨_, rfl⟩
  have H0 := hide (sisperm_any A n c B p b hb w h.reads h.le h.cap)
  cases b with
  | false =>
    have HR := hide (occR_no (p := p) (q := q) (.inl hb))
    rw [unhide HR]
    clear h h' hb hb'
    go_enter Try.func90, Try.ntmps90
    go_wp2_with fail
    refine (unhide H0).mono ?_
    rintro e w1 ⟨rfl, hd⟩
    have hb1 := hd.below w.heap.size
    have hm := IntsS.made0 w1 w.heap.size hb1.size
    clear H0 hd
    go_wp2
    go_ret
    exact GivesSS.mk hm (hb1.alloc hb1.size _)
  | true =>
    have H1 := hide (fun w' (hb'' : Below w.heap.size w w') => sisperm_any A' n' c' B' q b' hb' w' (h'.below hb'').reads h'.le h'.cap)
    cases b' with
    | false =>
      have HR := hide (occR_no (p := p) (q := q) (.inr hb'))
      rw [unhide HR]
      clear h h' hb hb'
      go_enter Try.func90, Try.ntmps90
      go_wp2_with fail
      refine (unhide H0).mono ?_
      rintro e w1 ⟨rfl, hd⟩
      have hb1 := hd.below w.heap.size
      have H2 := hide (unhide H1 w1 hb1)
      clear H0 H1 hd
      go_wp2_with fail
      refine (unhide H2).mono ?_
      rintro e w2 ⟨rfl, hd2⟩
      have hb2 := hb1.trans (hd2.below _)
      have hm := IntsS.made0 w2 w.heap.size hb2.size
      clear H2 hd2 hb1
      go_wp2
      go_ret
      exact GivesSS.mk hm (hb2.alloc hb2.size _)
    | true =>
      have HR := hide (occR_yes hb hb')
      have hsz := occ_size p q hb
      rw [unhide HR] at hsz ⊢
      have H3 := hide (fun (w' : World) (hx : Below w.heap.size w w') => l7find_any q.length A A' n c B n' c' B' w.heap.size p q (some ⟨w'.heap.size, 0, none⟩) 0 0 [] (.slice (some ⟨w'.heap.size + 1, 0, none⟩) 0 0) [] []
        ((w'.alloc (.cells #[] 3)).alloc (.cells #[] 24)) (h.below ((hx.alloc hx.size _).alloc (by have := hx.size; simp; omega) _)) (h'.below ((hx.alloc hx.size _).alloc (by have := hx.size; simp; omega) _)) h.under h'.under (by have := hx.size; simp; omega) hb hb' (by simp) (PlOK.nil _)
        ((Ints.made0 w' w.heap.size hx.size).below ((Below.refl _ _).alloc (Nat.le_refl _) _)) (by have := ownS0 (w'.alloc (.cells #[] 3)) w.heap.size (by have := hx.size; simp; omega); rw [World.size_alloc] at this; exact this) (Inner.nil _ _) (fun x hx => by cases hx) (by simp only [List.length_nil]; omega))
      clear h h' hb hb' hsz
      go_enter Try.func90, Try.ntmps90
      go_wp2_with fail
      refine (unhide H0).mono ?_
      rintro e w1 ⟨rfl, hd⟩
      have hb1 := hd.below w.heap.size
      have H2 := hide (unhide H1 w1 hb1)
      clear H0 H1 hd
      go_wp2_with fail
      refine (unhide H2).mono ?_
      rintro e w2 ⟨rfl, hd2⟩
      have hb2 := hb1.trans (hd2.below _)
      have H4 := hide (unhide H3 w2 hb2)
      clear H2 H3 hd2 hb1
      go_wp2_with fail
      refine (unhide H4).mono ?_
      rintro e w5 ⟨v, us, rfl, o5, i5, _, hb5, _⟩
      have hS : IntsS w5 w.heap.size v (extL p q q.length []) := ⟨us, by simpa using o5, by simpa using i5⟩
      have hb6 := ((hb2.alloc hb2.size (.cells #[] 3)).alloc (by have := hb2.size; simp; omega) (.cells #[] 24)).trans hb5
      clear H4 o5 i5 hb5
      go_wp2
      go_ret
      exact GivesSS.mk hS hb6
/-- How often q occurs in p. -/
def numOcc (p q : List Int) : Int := if isP p && isP q then ((occR p q).length : Int) else -1
set_option maxHeartbeats 800000 in
theorem scnt_any (A A' : Option Addr) (n c B n' c' B' : Nat) (p q : List Int) (w : World) (h : Arg w B A n c p) (h' : Arg w B' A' n' c' q) :
    Calls Try.prog 54 #[.slice A n c, .slice A' n' c'] w fun e w' => e = .returned (.int .i64 (numOcc p q)) ∧ Below w.heap.size w w' := by
  obtain ⟨b, hb⟩ : ∃ b, isP p = b := ⟨_, rfl⟩
  obtain ⟨b', hb'⟩ : ∃ b, isP q = b := ⟨_, rfl⟩
  have H0 := hide (sisperm_any A n c B p b hb w h.reads h.le h.cap)
  have H1 := hide (fun w' (hx : Below w.heap.size w w') => sisperm_any A' n' c' B' q b' hb' w' (h'.below hx).reads h'.le h'.cap)
  cases b with
  | false =>
    have e : numOcc p q = -1 := by unfold numOcc; rw [hb]; rfl
    rw [e]
    clear h h' hb hb' e H1
    go_enter Try.func54, Try.ntmps54
    go_wp2_with fail
    refine (unhide H0).mono ?_
    rintro e w1 ⟨rfl, hd⟩
    have hb1 := hd.below w.heap.size
    clear H0 hd
    go_wp2
    go_ret
    exact ⟨rfl, hb1⟩
  | true =>
    cases b' with
    | false =>
      have e : numOcc p q = -1 := by unfold numOcc; rw [hb, hb']; rfl
      rw [e]
      clear h h' hb hb' e
      go_enter Try.func54, Try.ntmps54
      go_wp2_with fail
      refine (unhide H0).mono ?_
      rintro e w1 ⟨rfl, hd⟩
      have hb1 := hd.below w.heap.size
      have H2 := hide (unhide H1 w1 hb1)
      clear H0 H1 hd
      go_wp2_with fail
      refine (unhide H2).mono ?_
      rintro e w2 ⟨rfl, hd2⟩
      have hb2 := hb1.trans (hd2.below _)
      clear H2 hd2 hb1
      go_wp2
      go_ret
      exact ⟨rfl, hb2⟩
    | true =>
      have e : numOcc p q = ((occR p q).length : Int) := by unfold numOcc; rw [hb, hb']; rfl
      rw [e]
      have H3 := hide (fun w' (hx : Below w.heap.size w w') => soccs_any A A' n c B n' c' B' p q w' (h.below hx) (h'.below hx))
      have hsz := occ_size p q hb
      obtain ⟨R, hR⟩ : ∃ R, occR p q = R := ⟨_, rfl⟩
      rw [hR] at H3 hsz ⊢
      clear h h' hb hb' e hR
      go_enter Try.func54, Try.ntmps54
      go_wp2_with fail
      refine (unhide H0).mono ?_
      rintro e w1 ⟨rfl, hd⟩
      have hb1 := hd.below w.heap.size
      have H2 := hide (unhide H1 w1 hb1)
      clear H0 H1 hd
      go_wp2_with fail
      refine (unhide H2).mono ?_
      rintro e w2 ⟨rfl, hd2⟩
      have hb2 := hb1.trans (hd2.below _)
      have H4 := hide (unhide H3 w2 hb2)
      clear H2 H3 hd2 hb1
      go_wp2_with fail
      refine (unhide H4).mono ?_
      rintro e w3 ⟨A3, c3, rfl, hS, hb3⟩
      have hb4 := below_after hb2 hb3
      clear H4 hS hb3
      go_wp2
      go_ret
      exact ⟨rfl, hb4⟩
def hasR (p q : List Int) : Bool := decide (1 ≤ numOcc p q)
theorem numOcc_rng (p q : List Int) : -1 ≤ numOcc p q ∧ numOcc p q ≤ 256 := by
  unfold numOcc
  by_cases h : (isP p && isP q) = true
  · rw [if_pos h]
    have := occ_size p q (by simp at h; exact h.1)
    omega
  · rw [if_neg h]; omega
end Go.Proofs.Ytnnpefgbneldiaa


/-
  spec.l1Max; spec.SumParts, impl.SumParts, by their contracts.
-/

namespace Go.Proofs.Ytnnpefgbneldiaa
set_option maxRecDepth 100000
open Go.RowKit

theorem max_any (a b : Int) (w : World) : Calls Try.prog 65 #[.int .i64 a, .int .i64 b] w fun e w' => e = .returned (.int .i64 (max a b)) ∧ w' = w := by
  by_cases h : b < a
  · have e : max a b = a := by omega
    rw [e]
    go_enter Try.func65, Try.ntmps65
    go_wp2
    go_ret
    exact ⟨rfl, rfl⟩
  · have e : max a b = b := by omega
    rw [e]
    go_enter Try.func65, Try.ntmps65
    go_wp2
    go_ret
    exact ⟨rfl, rfl⟩
theorem most_range {p : List Int} (h : isP p = true) : ∀ k, 0 ≤ most (p.take k) ∧ most (p.take k) ≤ p.length := fun k => by
  induction k with
  | zero => simp [most]
  | succ k ih =>
    by_cases hk : k < p.length
    · have hz := at0_some hk
      have := isP_range h hz
      rw [most_take hz]; omega
    · rw [List.take_of_length_le (by omega)]
      rwa [List.take_of_length_le (by omega)] at ih

end Go.Proofs.Ytnnpefgbneldiaa


/-
  THE DRAWS OF CHAPTER 7: spec.l7Case, spec.DrawOccurrencesOf, spec.DrawIsOccurrence, spec.DrawPatternsIn, spec.DrawWithoutPlace, by their contracts.
-/

namespace Go.Proofs.Ytnnpefgbneldiaa
set_option maxRecDepth 100000
open Go.RowKit

theorem DrewII.make {L : Nat} {w w' : World} {v v' : Value} {p q : List Int} (hI : Ints w' w.heap.size v p) (hJ : Ints w' w.heap.size v' q) (hp : Lite L p) (hq : Lite L q) (h : Below w.heap.size w w') : DrewII w L (.returned (.tuple #[v, v'])) w' := by
  obtain ⟨A, c, rfl⟩ := hI.slice
  obtain ⟨A', c', rfl⟩ := hJ.slice
  exact ⟨A, c, p, A', c', q, rfl, hp, hq, hI, hJ, h⟩
/-- A row with an integer. -/
def DrewIx (w : World) (e : Ending) (w' : World) : Prop :=
  ∃ A c zs, ∃ x : Int, e = .returned (.tuple #[.slice A zs.length c, .int .i64 x]) ∧ Lite 9 zs ∧ (-9223372036854775808 ≤ x ∧ x ≤ 9223372036854775807) ∧ Ints w' w.heap.size (.slice A zs.length c) zs ∧ Below w.heap.size w w'
theorem DrewIx.mk {w w' : World} {v : Value} {zs : List Int} {x : Int} (hI : Ints w' w.heap.size v zs) (hl : Lite 9 zs) (hx : -1048576 ≤ x ∧ x ≤ 1048576) (h : Below w.heap.size w w') : DrewIx w (.returned (.tuple #[v, .int .i64 x])) w' := by
  obtain ⟨A, c, rfl⟩ := hI.slice
  exact ⟨A, c, zs, x, rfl, hl, by omega, hI, h⟩
/-- Three rows. -/
def DrewI3 (w : World) (e : Ending) (w' : World) : Prop :=
  ∃ A c p A' c' q A2 c2 r, e = .returned (.tuple #[.slice A p.length c, .slice A' q.length c', .slice A2 r.length c2]) ∧ Lite 9 p ∧ Lite 9 q ∧ Lite 9 r ∧ Ints w' w.heap.size (.slice A p.length c) p ∧ Ints w' w.heap.size (.slice A' q.length c') q ∧ Ints w' w.heap.size (.slice A2 r.length c2) r ∧ Below w.heap.size w w'
theorem DrewI3.mk {w w' : World} {v v' v2 : Value} {p q r : List Int} (hI : Ints w' w.heap.size v p) (hJ : Ints w' w.heap.size v' q) (hK : Ints w' w.heap.size v2 r) (hp : Lite 9 p) (hq : Lite 9 q) (hr : Lite 9 r) (h : Below w.heap.size w w') : DrewI3 w (.returned (.tuple #[v, v', v2])) w' := by
  obtain ⟨A, c, rfl⟩ := hI.slice
  obtain ⟨A', c', rfl⟩ := hJ.slice
  obtain ⟨A2, c2, rfl⟩ := hK.slice
  exact ⟨A, c, p, A', c', q, A2, c2, r, rfl, hp, hq, hr, hI, hJ, hK, h⟩

set_option maxHeartbeats 1600000 in
theorem l7case_any (A : Option Addr) (n c B : Nat) (bs : List UInt8) (w : World) (hr : Reads w B A n (u8s bs)) (hn : n ≤ 1048576) (hB : B ≤ w.heap.size) :
    Calls Try.prog 55 #[.slice A n c] w (DrewII w 9) := by
  have H1 := hide (new_any A n c B bs w hr hn hB)
  clear hr
  go_enter Try.func55, Try.ntmps55
  go_wp2_with fail
  refine (unhide H1).mono ?_
  rintro e w1 ⟨cb, rfl, hcb, hc1, hb1⟩
  have hS0 := Side.start hc1
  have hsz1 := hb1.size
  have H2 := hide (l2bent_any B cb w1 hc1)
  clear H1 hc1
  go_wp2_with fail
  refine (unhide H2).mono ?_
  rintro e w2 ⟨A2, c2, p, rfl, hl, hI, hc2, hg2⟩
  have hS2 := hS0.drawn hc2 hg2
  have H3 := hide (once_any B cb 14 (by omega) w2 hc2)
  have HL := hide hl
  clear H2 hS0 hl hc2 hg2
  go_wp2_with fail
  refine (unhide H3).mono ?_
  rintro e w3 ⟨v, rfl, ⟨b, rfl⟩, hc3, hg3⟩
  have hS3 := hS2.drawn hc3 hg3
  have hI3 := hI.drawn hg3 hS2.lt
  clear H3 hS2 hI hg3
  cases b with
  | true =>
    have H4 := hide (l2bent_any B cb w3 hc3)
    clear hc3
    go_wp2_with fail
    refine (unhide H4).mono ?_
    rintro e w4 ⟨A4, c4, q, rfl, hl4, hJ, hc4, hg4⟩
    have hS4 := hS3.drawn hc4 hg4
    have hI4 := (hI3.drawn hg4 hS3.lt).low hsz1
    have hJ4 := (hJ.low hS3.size).low hsz1
    have hb4 := hS4.under hb1 hcb
    have HL4 := hide hl4
    clear H4 hS3 hI3 hJ hl4 hc4 hg4 hS4
    go_wp2
    go_ret2
    exact DrewII.make hI4 hJ4 (unhide HL) (unhide HL4) hb4
  | false =>
    have hal := (Below.refl w3.heap.size w3).alloc (Nat.le_refl _) (.cells (([0, 1, 2, 3, 3, 4] : List Int).map (Value.int .i64)).toArray 3)
    have hS4 := hS3.below hal
    have hI4 := hI3.below hal
    have hne : w3.heap.size ≠ cb := by have := hc3.lt; omega
    have H4 := hide (pickInt_any B cb w3.heap.size 6 6 [0, 1, 2, 3, 3, 4] _ hS4.cur (Blk.new w3 _ _) hne rfl (by omega) (by omega))
    simp only [List.map_cons, List.map_nil] at H4 hS4 hI4 hal
    clear hal hS3 hI3 hc3
    go_wp2_with fail
    refine (unhide H4).mono ?_
    rintro e w5 ⟨v, rfl, ⟨y, hy, rfl⟩, hc5, hg5⟩
    have hy3 : 0 ≤ y ∧ y ≤ 4 := by
      simp only [List.mem_cons, List.not_mem_nil, or_false] at hy
      omega
    obtain ⟨m, rfl⟩ : ∃ m : Nat, y = m := ⟨y.toNat, by omega⟩
    have hm : m ≤ 9 := by omega
    have hS5 := hS4.drawn hc5 hg5
    have hI5 := hI4.drawn hg5 hS4.lt
    have H5 := hide (l2draw_any B cb m (by omega) w5 hc5)
    clear H4 hS4 hI4 hc5 hg5 hy hy3
    go_wp2_with fail
    refine (unhide H5).mono ?_
    rintro e w6 ⟨A6, c6, q, rfl, hl6, hown6, hc6, hg6⟩
    have hS6 := hS5.drawn hc6 hg6
    have hI6 := (hI5.drawn hg6 hS5.lt).low hsz1
    have hJ6 := ((Ints.of_own hown6).low hS5.size).low hsz1
    have hb6 := hS6.under hb1 hcb
    have HL6 := hide (hl6.more hm)
    clear H5 hS5 hI5 hown6 hl6 hc6 hg6 hS6
    go_wp2
    go_ret2
    exact DrewII.make hI6 hJ6 (unhide HL) (unhide HL6) hb6

--DRAWISOCC
theorem occ_lite {p q z : List Int} (h : z ∈ occR p q) : Lite 9 z := by
  obtain ⟨h1, h2, h3, h4, _⟩ := isOcc_iff.1 (mem_occ.1 h)
  have := isP_le h1
  have := isP_le h2
  exact ⟨by omega, fun x hx => by have := h4.1 x hx; omega⟩
theorem rows_in {w : World} {B n c : Nat} {A : Option Addr} {zss : List (List Int)} (h : IntsS w B (.slice A n c) zss) {i : Nat} (hi : i < n) :
    ∃ ad A' c' zs, A = some ad ∧ (ad.add i).block < w.heap.size ∧ zss[i]? = some zs ∧ w.cell? (ad.add i) = some (.slice A' zs.length c') ∧ Ints w B (.slice A' zs.length c') zs := by
  have hn := h.len
  obtain ⟨vs, h1, h2⟩ := h
  subst hn
  obtain ⟨ad, u, hA, hlt, hu, hc⟩ := (Reads.of_own_at h1).at_ hi
  have hz : zss[i]? = some zss[i] := List.getElem?_eq_getElem hi
  have hr := h2.row i u _ hu hz
  obtain ⟨A', c', rfl⟩ := hr.slice
  exact ⟨ad, A', c', _, hA, by rw [block_of_add]; exact hlt, hz, hc, hr⟩
end Go.Proofs.Ytnnpefgbneldiaa


/-
  THE DRAWS OF CHAPTER 10, by their contracts.
-/

namespace Go.Proofs.Ytnnpefgbneldiaa
set_option maxRecDepth 100000
open Go.RowKit

/-- A number with a row. -/
def DrewNI (w : World) (e : Ending) (w' : World) : Prop :=
  ∃ (x : Int) (A : Option Addr) (c : Nat) (zs : List Int), e = .returned (.tuple #[.int .i64 x, .slice A zs.length c]) ∧ (-1 ≤ x ∧ x ≤ 5) ∧ Lite 9 zs ∧ Ints w' w.heap.size (.slice A zs.length c) zs ∧ Below w.heap.size w w'
theorem DrewNI.mk {w w' : World} {v : Value} {zs : List Int} {x : Int} (hI : Ints w' w.heap.size v zs) (hl : Lite 9 zs) (hx : -1 ≤ x ∧ x ≤ 5) (h : Below w.heap.size w w') : DrewNI w (.returned (.tuple #[.int .i64 x, v])) w' := by
  obtain ⟨A, c, rfl⟩ := hI.slice
  exact ⟨x, A, c, zs, rfl, hx, hl, hI, h⟩
theorem small_set {q : List Int} {i : Nat} {z : Int} (h : Small q) (hz : -9223372036854775808 ≤ z ∧ z ≤ 9223372036854775807) : Small (q.set i z) := fun x hx => by
  rcases List.mem_or_eq_of_mem_set hx with h1 | h1
  · exact h x h1
  · rw [h1]; exact hz
theorem i64_set (q : List Int) (i : Nat) (z : Int) : (i64s q).set i (.int .i64 z) = i64s (q.set i z) := by unfold i64s; rw [List.map_set]
theorem keep_two {wr w : World} {p q : Addr} {u v : Value} {cb : Nat} (h : wr.cell? p = some u) (h' : wr.cell? q = some v) (l : p.block < wr.heap.size) (l' : q.block < wr.heap.size) (n : p.block ≠ cb) (n' : q.block ≠ cb) (hg : wr.grownBy w (some cb)) : w.cell? p = some u ∧ w.cell? q = some v ∧ wr.grownBy w (some cb) :=
  ⟨(World.cell?_of_block (hg.block _ l (fun e => n (by injection e)))).trans h, (World.cell?_of_block (hg.block _ l' (fun e => n' (by injection e)))).trans h', hg⟩
set_option maxHeartbeats 1600000 in
theorem dcrun_any (A : Option Addr) (n c B : Nat) (bs : List UInt8) (w : World) (hr : Reads w B A n (u8s bs)) (hn : n ≤ 1048576) (hB : B ≤ w.heap.size) :
    Calls Try.prog 13 #[.slice A n c] w (DrewII w 9) := by
  have H1 := hide (l7case_any A n c B bs w hr hn hB)
  clear hr
  go_enter Try.func13, Try.ntmps13
  go_wp2_with fail
  refine (unhide H1).mono ?_
  rintro e w1 ⟨A1, c1, p, A2, c2, q, rfl, hp, hq, hI, hJ, hb⟩
  have HP := hide hp
  have HQ := hide hq
  clear H1 hp hq
  go_wp2
  go_ret2
  exact DrewII.make hI hJ (unhide HP) (unhide HQ) hb
set_option maxHeartbeats 1600000 in
theorem dovl_any (A : Option Addr) (n c B : Nat) (bs : List UInt8) (w : World) (hr : Reads w B A n (u8s bs)) (hn : n ≤ 1048576) (hB : B ≤ w.heap.size) :
    Calls Try.prog 15 #[.slice A n c] w (DrewI w 9) := by
  have H1 := hide (new_any A n c B bs w hr hn hB)
  clear hr
  go_enter Try.func15, Try.ntmps15
  go_wp2_with fail
  refine (unhide H1).mono ?_
  rintro e w1 ⟨cb, rfl, hcb, hc1, hb1⟩
  have hS0 := Side.start hc1
  have hsz := hb1.size
  clear H1
  have H3 := hide (l2bent_any B cb w1 hc1)
  clear hc1
  go_wp2_with fail
  refine (unhide H3).mono ?_
  rintro e w3 ⟨A3, c3, q, rfl, hl, o3, hc3, hg3⟩
  have hb5 := (hS0.drawn hc3 hg3).under hb1 hcb
  have o4 := o3.low hsz
  have HL := hide hl
  clear H3 hS0 hc3 hg3 o3 hl
  go_wp2
  go_ret
  exact DrewI.mk o4 (unhide HL) hb5
set_option maxHeartbeats 1600000 in
theorem davr_any (A : Option Addr) (n c B : Nat) (bs : List UInt8) (w : World) (hr : Reads w B A n (u8s bs)) (hn : n ≤ 1048576) (hB : B ≤ w.heap.size) :
    Calls Try.prog 14 #[.slice A n c] w (DrewNI w) := by
  have H1 := hide (new_any A n c B bs w hr hn hB)
  clear hr
  go_enter Try.func14, Try.ntmps14
  go_wp2_with fail
  refine (unhide H1).mono ?_
  rintro e w1 ⟨cb, rfl, hcb, hc1, hb1⟩
  have hS0 := Side.start hc1
  have hsz := hb1.size
  clear H1
  have H2 := hide (below_any B cb 6 (by omega) w1 hc1)
  clear hc1
  go_wp2_with fail
  refine (unhide H2).mono ?_
  rintro e w2 ⟨v, rfl, ⟨x, rfl, hx0, hx1⟩, hc2, hg2⟩
  rw [if_pos (by omega)] at hx1
  have hS2 := hS0.drawn hc2 hg2
  have hs2 := hg2.size
  have H3 := hide (once_any B cb 12 (by omega) w2 hc2)
  clear H2 hS0 hc2 hg2
  go_wp2_with fail
  refine (unhide H3).mono ?_
  rintro e w3 ⟨v, rfl, ⟨b, rfl⟩, hc3, hg3⟩
  have hS3 := hS2.drawn hc3 hg3
  have hs3 := hg3.size
  have H4 := hide (below_any B cb 5 (by omega) w3 hc3)
  have H5 := hide (bit_any b w3)
  have hbi : 0 ≤ bitI b ∧ bitI b ≤ 1 := by cases b <;> simp [bitI]
  obtain ⟨bi, hbe⟩ : ∃ bi, bi = bitI b := ⟨_, rfl⟩
  rw [← hbe] at hbi H5
  clear H3 hS2 hc3 hg3 hbe
  go_wp2_with fail
  refine (unhide H5).mono ?_
  rintro e w3' ⟨rfl, hw3⟩
  rw [hw3]
  clear H5 hw3
  go_wp2_with fail
  refine (unhide H4).mono ?_
  rintro e w4 ⟨v, rfl, ⟨y, rfl, hy0, hy1⟩, hc4, hg4⟩
  rw [if_pos (by omega)] at hy1
  have hS4 := hS3.drawn hc4 hg4
  have hs4 := hg4.size
  obtain ⟨m, rfl⟩ : ∃ m : Nat, y = m := ⟨y.toNat, by omega⟩
  have hm : m ≤ 4 := by omega
  have H6 := hide (l2draw_any B cb m (by omega) w4 hc4)
  clear H4 hS3 hc4 hg4 hy0 hy1
  go_wp2_with fail
  refine (unhide H6).mono ?_
  rintro e w5 ⟨A5, c5, q, rfl, hl, hown, hc5, hg5⟩
  have hb5 := (hS4.drawn hc5 hg5).under hb1 hcb
  have o5 : Ints w5 w.heap.size (.slice A5 q.length c5) q := (Ints.of_own hown).low (by omega)
  have HL := hide (hl.more (show m ≤ 9 by omega))
  have hxb : -1 ≤ x - bi ∧ x - bi ≤ 5 := by omega
  have HX := hide hxb
  clear H6 hS4 hc5 hg5 hown hl hxb
  go_wp2
  go_ret2
  exact DrewNI.mk o5 (unhide HL) (unhide HX) hb5
set_option maxHeartbeats 1600000 in
theorem dcnta_any (A : Option Addr) (n c B : Nat) (bs : List UInt8) (w : World) (hr : Reads w B A n (u8s bs)) (hn : n ≤ 1048576) (hB : B ≤ w.heap.size) :
    Calls Try.prog 18 #[.slice A n c] w (fun e w' => ∃ x : Int, e = .returned (.int .i64 x) ∧ (-1 ≤ x ∧ x ≤ 13) ∧ Below w.heap.size w w') := by
  have H1 := hide (new_any A n c B bs w hr hn hB)
  clear hr
  go_enter Try.func18, Try.ntmps18
  go_wp2_with fail
  refine (unhide H1).mono ?_
  rintro e w1 ⟨cb, rfl, hcb, hc1, hb1⟩
  have hS0 := Side.start hc1
  have hsz := hb1.size
  clear H1
  have H2 := hide (below_any B cb 15 (by omega) w1 hc1)
  clear hc1
  go_wp2_with fail
  refine (unhide H2).mono ?_
  rintro e w2 ⟨v, rfl, ⟨x, rfl, hx0, hx1⟩, hc2, hg2⟩
  rw [if_pos (by omega)] at hx1
  have hb5 := (hS0.drawn hc2 hg2).under hb1 hcb
  clear H2 hS0 hc2 hg2
  go_wp2
  go_ret
  exact ⟨_, rfl, by omega, hb5⟩
set_option maxHeartbeats 1600000 in
theorem dcho_any (A : Option Addr) (n c B : Nat) (bs : List UInt8) (w : World) (hr : Reads w B A n (u8s bs)) (hn : n ≤ 1048576) (hB : B ≤ w.heap.size) :
    Calls Try.prog 19 #[.slice A n c] w (fun e w' => ∃ x y : Int, e = .returned (.tuple #[.int .i64 x, .int .i64 y]) ∧ (-1 ≤ x ∧ x ≤ 41) ∧ (-1 ≤ y ∧ y ≤ 43) ∧ Below w.heap.size w w') := by
  have H1 := hide (new_any A n c B bs w hr hn hB)
  clear hr
  go_enter Try.func19, Try.ntmps19
  go_wp2_with fail
  refine (unhide H1).mono ?_
  rintro e w1 ⟨cb, rfl, hcb, hc1, hb1⟩
  have hS0 := Side.start hc1
  have hsz := hb1.size
  clear H1
  have H2 := hide (below_any B cb 12 (by omega) w1 hc1)
  clear hc1
  go_wp2_with fail
  refine (unhide H2).mono ?_
  rintro e w2 ⟨v, rfl, ⟨x, rfl, hx0, hx1⟩, hc2, hg2⟩
  rw [if_pos (by omega)] at hx1
  have hS2 := hS0.drawn hc2 hg2
  have hs2 := hg2.size
  have H3 := hide (below_any B cb 41 (by omega) w2 hc2)
  clear H2 hS0 hc2 hg2
  go_wp2_with fail
  refine (unhide H3).mono ?_
  rintro e w3 ⟨v, rfl, ⟨y, rfl, hy0, hy1⟩, hc3, hg3⟩
  rw [if_pos (by omega)] at hy1
  have hS3 := hS2.drawn hc3 hg3
  have hs3 := hg3.size
  have hal := (Below.refl w3.heap.size w3).alloc (Nat.le_refl _) (.cells (([x, y, -1, 40, 41] : List Int).map (Value.int .i64)).toArray 3)
  have hS4 := hS3.below hal
  have hne : w3.heap.size ≠ cb := by have := hc3.lt; omega
  have H4 := hide (pickInt_any B cb w3.heap.size 5 5 [x, y, -1, 40, 41] _ hS4.cur (Blk.new w3 _ _) hne rfl (by omega) (by omega))
  simp only [List.map_cons, List.map_nil] at H4 hS4 hal
  clear H3 hal hS2 hS3 hc3 hg3
  go_wp2_with fail
  refine (unhide H4).mono ?_
  rintro e w5 ⟨v, rfl, ⟨z, hz, rfl⟩, hc5, hg5⟩
  have hz3 : -1 ≤ z ∧ z ≤ 41 := by
    simp only [List.mem_cons, List.not_mem_nil, or_false] at hz
    omega
  have hS5 := hS4.drawn hc5 hg5
  obtain ⟨M, hM⟩ : ∃ M, M = max 1 (z + 2) := ⟨_, rfl⟩
  have hM2 : 1 ≤ M ∧ M ≤ 43 := by omega
  have H5 := hide (max_any 1 (z + 2) w5)
  rw [← hM] at H5
  have H6 := hide (below_any B cb M (by omega) w5 hc5)
  clear H4 hS4 hc5 hg5 hz hM
  go_wp2_with fail
  refine (unhide H5).mono ?_
  rintro e w5' ⟨rfl, hw5⟩
  rw [hw5]
  clear H5 hw5
  go_wp2_with fail
  refine (unhide H6).mono ?_
  rintro e w6 ⟨v, rfl, ⟨u, rfl, hu0, hu1⟩, hc6, hg6⟩
  rw [if_pos (by omega)] at hu1
  have hS6 := hS5.drawn hc6 hg6
  have H7 := hide (once_any B cb 10 (by omega) w6 hc6)
  clear H6 hS5 hc6 hg6
  go_wp2_with fail
  refine (unhide H7).mono ?_
  rintro e w7 ⟨v, rfl, ⟨b, rfl⟩, hc7, hg7⟩
  have hb5 := (hS6.drawn hc7 hg7).under hb1 hcb
  have H8 := hide (bit_any b w7)
  have hbi : 0 ≤ bitI b ∧ bitI b ≤ 1 := by cases b <;> simp [bitI]
  obtain ⟨bi, hbe⟩ : ∃ bi, bi = bitI b := ⟨_, rfl⟩
  rw [← hbe] at hbi H8
  clear H7 hS6 hc7 hg7 hbe
  go_wp2_with fail
  refine (unhide H8).mono ?_
  rintro e w7' ⟨rfl, hw7⟩
  rw [hw7]
  clear H8 hw7
  go_wp2
  go_ret2
  exact ⟨_, _, rfl, by omega, by omega, hb5⟩
theorem own_off {g cb : Nat} {n c : Nat} : ((Value.slice (some ⟨g, 0, none⟩) n c).ownBlock = none ∨ (Value.slice (some ⟨g, 0, none⟩) n c).ownBlock ≠ some cb) ↔ g ≠ cb := by simp [Value.ownBlock]
set_option maxHeartbeats 1600000 in
theorem dalt_any (A : Option Addr) (n c B : Nat) (bs : List UInt8) (w : World) (hr : Reads w B A n (u8s bs)) (hn : n ≤ 1048576) (hB : B ≤ w.heap.size) :
    Calls Try.prog 17 #[.slice A n c] w (DrewI w 9) := by
  have H1 := hide (new_any A n c B bs w hr hn hB)
  clear hr
  go_enter Try.func17, Try.ntmps17
  go_wp2_with fail
  refine (unhide H1).mono ?_
  rintro e w1 ⟨cb, rfl, hcb, hc1, hb1⟩
  have hS0 := Side.start hc1
  have hsz := hb1.size
  clear H1
  have H3 := hide (l2bent_any B cb w1 hc1)
  clear hc1
  go_wp2_with fail
  refine (unhide H3).mono ?_
  rintro e wa ⟨A2, c2', p, rfl, hl, oa, hca, hga⟩
  have hSa := hS0.drawn hca hga
  obtain ⟨N, hN⟩ : ∃ N, N = p.length := ⟨_, rfl⟩
  have hN9 : N ≤ 9 := by rw [hN]; exact hl.1
  have oa' : Row wa w1.heap.size (.slice A2 N c2') N (i64s p) := by rw [hN]; exact oa
  have hpl : p.length = N := hN.symm
  have HSP := hide hl.2
  have HPL := hide hpl
  rw [← hN]
  clear H3 hS0 hca hga oa hl hN hpl
  go_wp2
  go_loopw [5, 6] (fun i _ wr => ∃ (k : Nat) (q : List Int), (k = 0 ∨ k ≤ N - 1) ∧ i = .int .i64 ((k : Int) + 1) ∧ q.length = N ∧ Row wr w1.heap.size (.slice A2 N c2') N (i64s q) ∧ Small q ∧ Side B cb w1 wr) (fun i _ _ => N - (intOf i).toNat)
  case atStart => exact ⟨0, p, .inl rfl, rfl, unhide HPL, oa', unhide HSP, hSa⟩
  case round =>
    obtain ⟨k, q, hk, rfl, hql, o1, hsm, hS⟩ := hrel
    clear oa' hSa HSP HPL
    have HSM := hide hsm
    by_cases hlt : k + 1 < N
    · have H4 := hide (once_any B cb 1 (by omega) wr hS.cur)
      have hbd1 : (k : Int) + 1 < (N : Int) := by omega
      have hsl := hS.lt
      have HS := hide hS
      clear hS hsm
      go_wp2_with fail
      refine (unhide H4).mono ?_
      rintro e w2 ⟨v, rfl, ⟨b1, rfl⟩, hc2, hg2⟩
      obtain ⟨g, hA⟩ : ∃ g, A2 = some ⟨g, 0, none⟩ := by
        rcases o1.2 with ⟨_, h0⟩ | ⟨g, cap, cur, e, hv, _⟩
        · omega
        · injection hv with h1; exact ⟨g, h1⟩
      subst hA
      have hgB := (o1.lt g rfl).1
      have hgc : g ≠ cb := by omega
      have o2 := o1.kept hg2 (own_off.2 hgc)
      have hgl := (o2.lt g rfl).2
      have s2 := (unhide HS).drawn hc2 hg2
      have HS2 := hide s2
      clear H4 HS hc2 hg2 o1 s2
      cases b1 with
      | false =>
        have hb5 := (unhide HS2).under hb1 hcb
        have o5 : Ints w2 w1.heap.size (.slice (some ⟨g, 0, none⟩) N c2') q := by unfold Ints; rw [hql]; exact o2
        have o6 := o5.low hsz
        have HL := hide (show Lite 9 q from ⟨by omega, unhide HSM⟩)
        clear o5 o2 HS2 hgl
        go_wp2
        go_ret
        exact DrewI.mk o6 (unhide HL) hb5
      | true =>
        obtain ⟨x, hx⟩ : ∃ x, q[k + 1]? = some x := ⟨_, List.getElem?_eq_getElem (by omega)⟩
        obtain ⟨y, hy⟩ : ∃ y, q[k]? = some y := ⟨_, List.getElem?_eq_getElem (by omega)⟩
        have hc := (o2.cells (g := g) rfl (k + 1) (by omega)).trans (i64_get hx)
        have hc' := (o2.cells (g := g) rfl k (by omega)).trans (i64_get hy)
        have HXY := hide (⟨hx, hy⟩ : q[k + 1]? = some x ∧ q[k]? = some y)
        have q1 : IntKind.i64.wrap ((k : Int) + 1 - 1) = (k : Int) := by rw [IntKind.wrap_i64]; omega
        have q2 : IntKind.i64.wrap (k : Int) = (k : Int) := by rw [IntKind.wrap_i64]; omega
        have hbd0 : (0 : Int) ≤ (k : Int) + 1 := by omega
        have hbd2 : (k : Int) < (N : Int) := by omega
        clear hx hy
        by_cases hxy : x < y
        · by_cases hp : (k + 1) % 2 = 1
          · skip
            have hm : ((k : Int) + 1).tmod 2 = 1 := by rw [IntWalk.rem_in _ _ (by omega)]; omega
            have hcd : decide (x < y) = true := decide_eq_true hxy
            clear hcd
            go_wp2
            go_quiet (fail)
            go_wp2
            have oD := o2.kept (grown_drewN (World.grownBy.refl w2 (some cb)) nq) (own_off.2 hgc)
            have sD := (unhide HS2).below (Drew.below ⟨nq, rfl⟩ _)
            go_roundw
            case rel => exact ⟨k + 1, q, .inr (by omega), by go_num, hql, oD, unhide HSM, sD⟩
            case measure => simp [intOf]; omega
          · skip
            have hm : ((k : Int) + 1).tmod 2 = 0 := by rw [IntWalk.rem_in _ _ (by omega)]; omega
            have hcd : decide (x < y) = true := decide_eq_true hxy
            have hy0 : w2.grownBy w2.drew (some cb) := ⟨rfl, rfl, rfl, Nat.le_refl _, fun _ _ _ => rfl⟩
            have H6 := hide (once_any B cb 14 (by omega) w2.drew ((unhide HS2).cur.keep ⟨rfl, rfl, rfl, Nat.le_refl _, fun _ _ _ => rfl⟩))
            go_wp2_with fail
            go_region_held3 (fun w' => w'.cell? ⟨g, k + 1, none⟩ = some (.int .i64 x) ∧ w'.cell? ⟨g, k, none⟩ = some (.int .i64 y) ∧ w2.grownBy w' (some cb)) ((refine keep_two hc hc' hgl hgl hgc hgc ?_; assumption))
              ((go_simp; go_at_call 59; refine (unhide H6).mono ?_; rintro e w3 ⟨v, rfl, ⟨b2, rfl⟩, hc3, hg3⟩; have hy1 := grown_then hy0 hg3))
            have o3 := o2.kept hy1 (own_off.2 hgc)
            have s3 := (unhide HS2).drawn hc3 hy1
            have HS3 := hide s3
            clear H6 hc3 hg3 hy0 s3 hc hc' hcd HS2
            cases b2 with
            | true =>
              go_wp2
              go_roundw
              case rel => exact ⟨k + 1, q, .inr (by omega), by go_num, hql, o3, unhide HSM, unhide HS3⟩
              case measure => simp [intOf]; omega
            | false =>
              have c1 := (o3.cells (g := g) rfl (k + 1) (by omega)).trans (i64_get (unhide HXY).1)
              have c2 := (o3.cells (g := g) rfl k (by omega)).trans (i64_get (unhide HXY).2)
              have f1 := o3.frozen (g := g) rfl (k + 1)
              have st := o3.stored (g := g) rfl (k + 1) (.int .i64 y)
              rw [i64_set] at st
              have c3 := (st.1.cells (g := g) rfl k (by omega)).trans (i64_get (show (q.set (k + 1) y)[k]? = some y by rw [List.getElem?_set_ne (by omega)]; exact (unhide HXY).2))
              have f2 := st.1.frozen (g := g) rfl k
              have st2 := st.1.stored (g := g) rfl k (.int .i64 x)
              rw [i64_set] at st2
              have hsm : Small ((q.set (k + 1) y).set k x) := small_set (small_set (unhide HSM) ((unhide HSM) y (List.mem_of_getElem? (unhide HXY).2))) ((unhide HSM) x (List.mem_of_getElem? (unhide HXY).1))
              have s4 := ((unhide HS3).low (((Below.refl w1.heap.size w3).setCell (p := ⟨g, k + 1, none⟩) hgB (.int .i64 y)))).low ((Below.refl w1.heap.size _).setCell (p := ⟨g, k, none⟩) hgB (.int .i64 x))
              have HN := hide (show (((q.set (k + 1) y).set k x).length = N ∧ Row ((w3.setCell ⟨g, k + 1, none⟩ (.int .i64 y)).setCell ⟨g, k, none⟩ (.int .i64 x)) w1.heap.size (.slice (some ⟨g, 0, none⟩) N c2') N (i64s ((q.set (k + 1) y).set k x)) ∧ Small ((q.set (k + 1) y).set k x)) ∧ Side B cb w1 ((w3.setCell ⟨g, k + 1, none⟩ (.int .i64 y)).setCell ⟨g, k, none⟩ (.int .i64 x)) from ⟨⟨by rw [List.length_set, List.length_set]; exact hql, st2.1, hsm⟩, s4⟩)
              clear st st2 hsm s4 o3 HS3
              go_wp2
              go_roundw
              case rel => exact ⟨k + 1, (q.set (k + 1) y).set k x, .inr (by omega), by go_num, (unhide HN).1.1, (unhide HN).1.2.1, (unhide HN).1.2.2, (unhide HN).2⟩
              case measure => simp [intOf]; omega
        · by_cases hp : (k + 1) % 2 = 1
          · skip
            have hm : ((k : Int) + 1).tmod 2 = 1 := by rw [IntWalk.rem_in _ _ (by omega)]; omega
            have hcc : (!decide (x < y)) = true := by rw [decide_eq_false hxy]; rfl
            have hcd : decide (x < y) = false := decide_eq_false hxy
            have hy0 : w2.grownBy w2.drew (some cb) := ⟨rfl, rfl, rfl, Nat.le_refl _, fun _ _ _ => rfl⟩
            have H6 := hide (once_any B cb 14 (by omega) w2.drew ((unhide HS2).cur.keep ⟨rfl, rfl, rfl, Nat.le_refl _, fun _ _ _ => rfl⟩))
            go_wp2_with fail
            go_region_held3 (fun w' => w'.cell? ⟨g, k + 1, none⟩ = some (.int .i64 x) ∧ w'.cell? ⟨g, k, none⟩ = some (.int .i64 y) ∧ w2.grownBy w' (some cb)) ((refine keep_two hc hc' hgl hgl hgc hgc ?_; assumption))
              ((go_simp; go_at_call 59; refine (unhide H6).mono ?_; rintro e w3 ⟨v, rfl, ⟨b2, rfl⟩, hc3, hg3⟩; have hy1 := grown_then hy0 hg3))
            have o3 := o2.kept hy1 (own_off.2 hgc)
            have s3 := (unhide HS2).drawn hc3 hy1
            have HS3 := hide s3
            clear H6 hc3 hg3 hy0 s3 hc hc' hcd HS2
            cases b2 with
            | true =>
              go_wp2
              go_roundw
              case rel => exact ⟨k + 1, q, .inr (by omega), by go_num, hql, o3, unhide HSM, unhide HS3⟩
              case measure => simp [intOf]; omega
            | false =>
              have c1 := (o3.cells (g := g) rfl (k + 1) (by omega)).trans (i64_get (unhide HXY).1)
              have c2 := (o3.cells (g := g) rfl k (by omega)).trans (i64_get (unhide HXY).2)
              have f1 := o3.frozen (g := g) rfl (k + 1)
              have st := o3.stored (g := g) rfl (k + 1) (.int .i64 y)
              rw [i64_set] at st
              have c3 := (st.1.cells (g := g) rfl k (by omega)).trans (i64_get (show (q.set (k + 1) y)[k]? = some y by rw [List.getElem?_set_ne (by omega)]; exact (unhide HXY).2))
              have f2 := st.1.frozen (g := g) rfl k
              have st2 := st.1.stored (g := g) rfl k (.int .i64 x)
              rw [i64_set] at st2
              have hsm : Small ((q.set (k + 1) y).set k x) := small_set (small_set (unhide HSM) ((unhide HSM) y (List.mem_of_getElem? (unhide HXY).2))) ((unhide HSM) x (List.mem_of_getElem? (unhide HXY).1))
              have s4 := ((unhide HS3).low (((Below.refl w1.heap.size w3).setCell (p := ⟨g, k + 1, none⟩) hgB (.int .i64 y)))).low ((Below.refl w1.heap.size _).setCell (p := ⟨g, k, none⟩) hgB (.int .i64 x))
              have HN := hide (show (((q.set (k + 1) y).set k x).length = N ∧ Row ((w3.setCell ⟨g, k + 1, none⟩ (.int .i64 y)).setCell ⟨g, k, none⟩ (.int .i64 x)) w1.heap.size (.slice (some ⟨g, 0, none⟩) N c2') N (i64s ((q.set (k + 1) y).set k x)) ∧ Small ((q.set (k + 1) y).set k x)) ∧ Side B cb w1 ((w3.setCell ⟨g, k + 1, none⟩ (.int .i64 y)).setCell ⟨g, k, none⟩ (.int .i64 x)) from ⟨⟨by rw [List.length_set, List.length_set]; exact hql, st2.1, hsm⟩, s4⟩)
              clear st st2 hsm s4 o3 HS3
              go_wp2
              go_roundw
              case rel => exact ⟨k + 1, (q.set (k + 1) y).set k x, .inr (by omega), by go_num, (unhide HN).1.1, (unhide HN).1.2.1, (unhide HN).1.2.2, (unhide HN).2⟩
              case measure => simp [intOf]; omega
          · skip
            have hm : ((k : Int) + 1).tmod 2 = 0 := by rw [IntWalk.rem_in _ _ (by omega)]; omega
            have hcc : (!decide (x < y)) = true := by rw [decide_eq_false hxy]; rfl
            have hcd : decide (x < y) = false := decide_eq_false hxy
            clear hcd
            go_wp2
            go_quiet (fail)
            go_wp2
            have oD := o2.kept (grown_drewN (World.grownBy.refl w2 (some cb)) nq) (own_off.2 hgc)
            have sD := (unhide HS2).below (Drew.below ⟨nq, rfl⟩ _)
            go_roundw
            case rel => exact ⟨k + 1, q, .inr (by omega), by go_num, hql, oD, unhide HSM, sD⟩
            case measure => simp [intOf]; omega
    · have hge : ¬ ((k : Int) + 1 < (N : Int)) := by omega
      have hb5 := hS.under hb1 hcb
      have o5 : Ints wr w1.heap.size (.slice A2 N c2') q := by unfold Ints; rw [hql]; exact o1
      have o6 := o5.low hsz
      have HL := hide (show Lite 9 q from ⟨by omega, hsm⟩)
      clear o5 o1 hsm hS
      go_wp2
      go_ret
      exact DrewI.mk o6 (unhide HL) hb5
end Go.Proofs.Ytnnpefgbneldiaa


/-
  laws.sameInts, laws.sameLists, at equal lists, by their contracts.
-/

namespace Go.Proofs.Ytnnpefgbneldiaa
set_option maxRecDepth 100000
open Go.RowKit

set_option maxHeartbeats 400000 in
/-- laws.sameInts: equal lists. -/
theorem samei_any (A A' : Option Addr) (n c n' c' B B' : Nat) (zs : List Int) (w : World) (hr : Reads w B A n (i64s zs)) (hr' : Reads w B' A' n' (i64s zs)) (hn : n ≤ 1099511627776) :
    Calls Try.prog 24 #[.slice A n c, .slice A' n' c'] w fun e w' => e = .returned (.bool true) ∧ Drew w w' := by
  have e1 : zs.length = n := by have := hr.1; rwa [i64_length] at this
  have e2 : zs.length = n' := by have := hr'.1; rwa [i64_length] at this
  obtain rfl : n = n' := by omega
  clear e1 e2
  go_enter Try.func24, Try.ntmps24
  go_wp2
  go_loopw [5] (fun i wr => ∃ k : Nat, k ≤ n ∧ i = .int .i64 k ∧ Drew w wr) (fun i _ => n - (intOf i).toNat)
  case atStart => exact ⟨0, Nat.zero_le _, rfl, Drew.refl _⟩
  case round =>
    obtain ⟨k, hk, rfl, hd⟩ := hrel
    by_cases hlt : k < n
    · obtain ⟨ad, u, rfl, _, hx, hc⟩ := (hr.ofDrew hd).at_ hlt
      obtain ⟨ad', u', rfl, _, hx', hc'⟩ := (hr'.ofDrew hd).at_ hlt
      obtain ⟨s, hs, rfl⟩ := i64_at hx
      obtain ⟨s', hs', rfl⟩ := i64_at hx'
      obtain rfl : s = s' := by rw [hs] at hs'; exact Option.some.inj hs'
      clear hx hx' hs hs' hr hr'
      have HD := hide hd
      clear hd
      go_wp2
      go_quiet (fail)
      go_wp2
      go_roundw
      case rel => exact ⟨k + 1, by omega, by go_num, (unhide HD).more _⟩
      case measure => simp [intOf]; omega
    · go_wp2
      go_ret
      exact ⟨rfl, hd⟩

set_option maxHeartbeats 400000 in
/-- laws.sameLists: equal lists of rows. -/
theorem samess_any (A A' : Option Addr) (n c n' c' B B' : Nat) (zss : List (List Int)) (w : World) (hr : IntsS w B (.slice A n c) zss) (hr' : IntsS w B' (.slice A' n' c') zss) (hn : n ≤ 1048576) (ht : tot zss ≤ 1099511627776) :
    Calls Try.prog 86 #[.slice A n c, .slice A' n' c'] w fun e w' => e = .returned (.bool true) ∧ Drew w w' := by
  have e1 := hr.len
  have e2 := hr'.len
  obtain rfl : n = n' := by omega
  have HE := hide e1
  clear e1 e2
  go_enter Try.func86, Try.ntmps86
  go_wp2
  go_loopw [5] (fun i wr => ∃ k : Nat, k ≤ n ∧ i = .int .i64 k ∧ Drew w wr) (fun i _ => n - (intOf i).toNat)
  case atStart => exact ⟨0, Nat.zero_le _, rfl, Drew.refl _⟩
  case round =>
    obtain ⟨k, hk, rfl, hd⟩ := hrel
    by_cases hlt : k < n
    · obtain ⟨ad, A1, c1, zs, rfl, hz, hc, hI⟩ := (hr.below (hd.below _)).at_ hlt
      obtain ⟨ad', A1', c1', zs', rfl, hz', hc', hI'⟩ := (hr'.below (hd.below _)).at_ hlt
      obtain rfl : zs = zs' := by rw [hz] at hz'; exact Option.some.inj hz'
      have hle := tot_at hz
      have HD := hide hd
      have H1 := hide hI.reads
      have H2 := hide hI'.reads
      clear hz hz' hd hI hI' hr hr'
      go_wp2
      go_quiet ((go_at_call 24; exact Calls.quiet_of (samei_any _ _ _ _ _ _ _ _ zs _ ((unhide H1).drewN _) ((unhide H2).drewN _) (by omega))))
      go_wp2
      go_roundw
      case rel => exact ⟨k + 1, by omega, by go_num, (unhide HD).more _⟩
      case measure => simp [intOf]; omega
    · go_wp2
      go_ret
      exact ⟨rfl, hd⟩
end Go.Proofs.Ytnnpefgbneldiaa


/-
  laws.big, by its contract.
-/

namespace Go.Proofs.Ytnnpefgbneldiaa
set_option maxRecDepth 100000
open Go.RowKit
theorem big_any (A : Option Addr) (n c : Nat) (hn : n ≤ 9223372036854775807) (w : World) :
    Calls Try.prog 12 #[.slice A n c] w fun e w' => e = .returned (.bool (decide (1048576 < n))) ∧ w = w' := by
  go_enter Try.func12, Try.ntmps12
  go_wp2
  go_ret
  exact ⟨ret_bool (by simp; omega), rfl⟩
end Go.Proofs.Ytnnpefgbneldiaa
