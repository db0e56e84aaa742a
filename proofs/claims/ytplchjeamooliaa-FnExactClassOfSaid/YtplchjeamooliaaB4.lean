/-
  Words and contracts that the laws lean on, bundled: OccF, ClassS, JoinS, SymG, OccN, Pat, LowS, PatsS, ChM.
-/
import Derived.Test.YtplchjeamooliaaB3
import Derived.Test.YtplchjeamooliaaB2
import Derived.Deep.CutRange
import Derived.Deep.RegionHeld3
import Derived.Test.YtplchjeamooliaaB1
import Derived.IntWalk
import Derived.Laws.BitsLemmas

/-
  spec.l7Find, spec.OccurrencesOf, spec.CountPattern, spec.HasPattern, by their contracts.
-/

namespace Go.Proofs.Ytplchjeamooliaa
set_option maxRecDepth 100000
open Go.RowKit

theorem extK_len {p q : List Int} {m : Nat} {head : List Int} (ih : ∀ x, (extL p q m (head ++ [x])).length ≤ 2 ^ (p.length - x.toNat)) : ∀ j, j ≤ p.length - lastP head → (extK p q m head j).length + 2 ^ (p.length - lastP head - j) ≤ 2 ^ (p.length - lastP head)
  | 0, _ => by rw [extK_zero]; simp
  | j + 1, hj => by
    have h1 := extK_len ih j (by omega)
    have e : p.length - lastP head - j = (p.length - lastP head - (j + 1)) + 1 := by omega
    rw [e, Nat.pow_succ] at h1
    cases hf : fitL p q (head ++ [((lastP head + j + 1 : Nat) : Int)]) with
    | false => rw [extK_no hf]; omega
    | true =>
      have h2 := ih ((lastP head + j + 1 : Nat) : Int)
      rw [show p.length - ((lastP head + j + 1 : Nat) : Int).toNat = p.length - lastP head - (j + 1) by omega] at h2
      rw [extK_yes hf, List.length_append]
      omega
theorem extL_size {p q : List Int} : ∀ (m : Nat) (head : List Int), (extL p q m head).length ≤ 2 ^ (p.length - lastP head)
  | 0, head => by rw [extL, List.length_singleton]; exact Nat.one_le_two_pow
  | m + 1, head => by
    have h := extK_len (p := p) (q := q) (m := m) (head := head) (fun x => by
      have := extL_size (p := p) (q := q) m (head ++ [x])
      rwa [lastP_snoc] at this) (p.length - lastP head) (Nat.le_refl _)
    rw [extK_all] at h
    exact Nat.le_trans (Nat.le_add_right _ _) h
theorem extK_mono {p q : List Int} {m : Nat} {head : List Int} (j : Nat) : (extK p q m head j).length ≤ (extK p q m head (j + 1)).length := by
  cases hf : fitL p q (head ++ [((lastP head + j + 1 : Nat) : Int)]) with
  | false => rw [extK_no hf]; exact Nat.le_refl _
  | true => rw [extK_yes hf, List.length_append]; omega
theorem extK_le {p q : List Int} {m : Nat} {head : List Int} {j : Nat} (k : Nat) : (extK p q m head j).length ≤ (extK p q m head (j + k)).length := by
  induction k with
  | zero => exact Nat.le_refl _
  | succ k ih => exact Nat.le_trans ih (extK_mono _)
theorem occ_size (p q : List Int) (hp : isP p = true) : (occR p q).length ≤ 256 := by
  have h8 := isP_le hp
  unfold occR
  split
  · have := extL_size (p := p) (q := q) q.length []
    rw [lastP_nil] at this
    exact Nat.le_trans this (Nat.pow_le_pow_right (n := 2) (by decide) (show p.length - 0 ≤ 8 by omega))
  · simp

/-- What l7Find leaves: the list with more rows, of which none but head's own is older than the call. -/
def FindEnds (w : World) (B : Nat) (vs : List Value) (zss : List (List Int)) (hv : Value) (L : List (List Int)) (e : Ending) (w' : World) : Prop :=
  ∃ v' us, e = .returned v' ∧ w'.ownsRow B 29 1 v' (zss.length + L.length) (vs ++ us) ∧ Inner w' B (vs ++ us) (zss ++ L) ∧ (∀ x ∈ us, x = hv ∨ Since w.heap.size x) ∧ Below B w w' ∧ KeepI w w'

set_option maxHeartbeats 1600000 in
theorem l7find_any : ∀ (m : Nat) (A A' : Option Addr) (n c Bp n' c' Bq B : Nat) (p q : List Int) (Ah : Option Addr) (nh ch : Nat) (head : List Int) (v : Value) (vs : List Value) (zss : List (List Int)) (w : World)
    (_ : Arg w Bp A n c p) (_ : Arg w Bq A' n' c' q) (_ : Bp ≤ B) (_ : Bq ≤ B) (_ : B ≤ w.heap.size) (_ : isP p = true) (_ : isP q = true) (_ : head.length + m = q.length) (_ : PlOK p.length head) (_ : Ints w B (.slice Ah nh ch) head)
    (_ : w.ownsRow B 29 1 v zss.length vs) (_ : Inner w B vs zss) (_ : ∀ x ∈ vs, Away x (.slice Ah nh ch)) (_ : zss.length + (extL p q m head).length ≤ 1048576),
    Calls Try.prog 67 #[.slice A n c, .slice A' n' c', .slice Ah nh ch, v] w (FindEnds w B vs zss (.slice Ah nh ch) (extL p q m head)) := by
  intro m
  induction m with
  | zero =>
    intro A A' n c Bp n' c' Bq B p q Ah nh ch head v vs zss w h h' hBp hBq hB hp hq hm hP hh hown hin haw hlen
    obtain ⟨i0, hi, hz0, hz1, hz2⟩ := info_parts rowsInfo
    have hl' := h'.len
    have hnh := hh.len
    have heq : (nh : Int) = (n' : Int) := by omega
    obtain ⟨Av, cv, rfl, _⟩ := Reads.of_own hown
    rw [extL, List.length_singleton] at hlen
    rw [extL]
    have HH := hide (And.intro hin (And.intro haw hh))
    have HO := hide hown
    clear h h' hp hq hP hm hl' hin haw hh hnh
    go_enter Try.func67, Try.ntmps67
    go_wp2_with (first
      | (at_builtin; refine wpList_append_one rfl (.tmp 17) (.tmp 19) 22 rfl B 29 i0 (.slice none 0 0) 24 Try.underlying22 hi hz0 hz1 hz2 rfl w w _ _ _ rfl hown (.slice Ah nh ch) rfl rfl rfl (by omega) (by unfold maxLen; omega) (Below.refl _ _) hB ?_))
    intro v2 w2 hown2 hb2 hg2
    obtain ⟨hin, haw, hh⟩ := unhide HH
    have hk := KeepI.of_grown (unhide HO) hg2
    have hin2 := (hin.keepI hk).push (hh.keepI hk) haw
    clear hg2 hin haw hh
    go_wp2
    go_ret
    exact ⟨v2, [.slice Ah nh ch], rfl, hown2, hin2, fun x hx => .inl (List.mem_singleton.1 hx), hb2, hk⟩
  | succ m ih =>
    intro A A' n c Bp n' c' Bq B p q Ah nh ch head v vs zss w h h' hBp hBq hB hp hq hm hP hh hown hin haw hlen
    obtain ⟨i0, hi, hz0, hz1, hz2⟩ := info_parts intInfo
    have hl := h.len
    have hl' := h'.len
    have hnh := hh.len
    have h8 := isP_le hp
    have hq8 := isP_le hq
    have hne : ¬ (nh : Int) = (n' : Int) := by omega
    have hnh8 : nh ≤ 8 := by omega
    have hn8 : n ≤ 8 := by omega
    have hlast := lastP_le hP
    obtain ⟨Av, cv, rfl, _⟩ := Reads.of_own hown
    have hu0 := hh.until_
    have HX := hide (fun (j : Nat) (hj : j < p.length - lastP head) => show zss.length + (extK p q m head (j + 1)).length ≤ 1048576 from by
      have := extK_le (p := p) (q := q) (m := m) (head := head) (j := j + 1) (p.length - lastP head - (j + 1))
      rw [show j + 1 + (p.length - lastP head - (j + 1)) = p.length - lastP head by omega, extK_all] at this
      omega)
    have HC : Hid (Ints w B (.slice Ah nh ch) head ∧ w.ownsRow B 29 1 (.slice Av zss.length cv) (zss.length + (extK p q m head 0).length) (vs ++ []) ∧ Inner w B (vs ++ []) (zss ++ extK p q m head 0) ∧ (∀ x ∈ ([] : List Value), Since w.heap.size x) ∧ Below B w w ∧ KeepI w w) :=
      hide ⟨hh, by rw [extK_zero, List.append_nil]; exact hown, by rw [extK_zero, List.append_nil, List.append_nil]; exact hin, fun x hx => by simp at hx, Below.refl _ _, KeepI.refl _⟩
    have HA := hide (And.intro haw (And.intro hP (And.intro hp hq)))
    obtain ⟨f, hf⟩ : ∃ f, lastP head = f := ⟨_, rfl⟩
    have hf0 : (∀ k, nh = k + 1 → ∃ ad, Ah = some ad ∧ w.cell? (ad.add k) = some (.int .i64 (f : Int))) ∧ (nh = 0 → f = 0) := by
      constructor
      · intro k hk
        obtain ⟨ad, u, rfl, _, hu, hc⟩ := hh.reads.at_ (show k < nh by omega)
        obtain ⟨z, hz, rfl⟩ := i64_at hu
        have hr := hP.rng (i := k) (by omega)
        rw [at0_of hz] at hr
        rw [lastP_at (by omega), show head.length - 1 = k by omega, at0_of hz] at hf
        exact ⟨ad, rfl, by rw [hc, show z = (f : Int) by omega]⟩
      · intro h0
        have : head = [] := List.eq_nil_of_length_eq_zero (by omega)
        subst this
        exact hf.symm
    have HF := hide hf
    have HL := hide hlen
    have HM := hide (And.intro hm hnh)
    rw [hf] at hlast
    clear hh hown hin haw hP hp hq hlen hf hm hnh
    cases nh with
    | zero =>
      have HZ := hide (hf0.2 rfl)
      have e0 : ((0 : Int) == (n' : Int)) = false := by rw [beq_eq_false_iff_ne]; omega
      clear hf0
      go_enter Try.func67, Try.ntmps67
      go_wp2
      go_loopw [3, 10, 11] (fun o i _ wr => ∃ (j : Nat) (us : List Value), j ≤ p.length - f ∧ i = .int .i64 ((f + j + 1 : Nat) : Int) ∧ Hid (Ints wr B (.slice Ah 0 ch) head ∧ wr.ownsRow B 29 1 o (zss.length + (extK p q m head j).length) (vs ++ us) ∧ Inner wr B (vs ++ us) (zss ++ extK p q m head j) ∧ (∀ x ∈ us, Since w.heap.size x) ∧ Below B w wr ∧ KeepI w wr)) (fun _ i _ _ => (p.length + 1 - (intOf i).toNat))
      case atStart => exact ⟨0, [], Nat.zero_le _, by rw [unhide HZ]; rfl, HC⟩
      case round =>
        obtain ⟨j, us, hj, rfl, HCr⟩ := hrel
        clear HC
        obtain ⟨Ao, co, rfl, _⟩ := Reads.of_own (unhide HCr).2.1
        by_cases hlt : j < p.length - f
        · have hst := own0 wr wr.heap.size (Nat.le_refl _)
          have hal := (Below.refl wr.heap.size wr).alloc (Nat.le_refl _) (.cells #[] 3)
          have hArg := ((unhide HCr).1.arg (by omega) (unhide HCr).1.cap (fun z hz => by have := (unhide HA).2.1.1 z hz; omega)).below hal
          have hBw : B ≤ wr.heap.size := Nat.le_trans hB (unhide HCr).2.2.2.2.1.size
          go_wp2_with (first
            | (at_builtin; refine wpList_append_arg rfl (.tmp 38) (.tmp 39) rfl wr.heap.size _ 0 (0) ch _ _ Ah [] head rfl rfl hst hArg (by omega) hal (by simp) ?_))
          intro v5 w5 hown5 hb5 hg5
          have hs5 := hb5.size
          clear hg5 hst hal hArg
          go_wp2_with (first
            | (at_builtin; refine wpList_append_one rfl (.tmp 40) (.tmp 42) 29 rfl wr.heap.size 3 i0 (.int .i64 0) 8 Try.underlying29 hi hz0 hz1 hz2 rfl wr w5 _ _ _ rfl hown5 (.int .i64 ((f + j + 1 : Nat) : Int)) rfl rfl rfl (by omega) (by unfold maxLen; omega) hb5 hs5 ?_))
          intro v6 w6 hown6 hb6 hg6
          rw [i64_snoc] at hown6
          clear hg6 hown5 hb5 hs5
          have hI6 : Ints w6 wr.heap.size v6 (head ++ [((f + j + 1 : Nat) : Int)]) := Ints.of_own hown6
          obtain ⟨A6, c6, rfl, _⟩ := Reads.of_own hown6
          obtain ⟨x1, x2, x3, x4, x5, x6⟩ := unhide HCr
          have y5 : Below B w w6 := x5.trans (hb6.mono hBw)
          have hP6 : PlOK p.length (head ++ [((f + j + 1 : Nat) : Int)]) := PlOK.snoc.2 ⟨(unhide HA).2.1, by rw [unhide HF]; omega, by omega⟩
          have hA6 : Arg w6 w6.heap.size A6 (0 + 1) c6 (head ++ [((f + j + 1 : Nat) : Int)]) := hI6.arg (by omega) hI6.cap (fun z hz => by have := hP6.1 z hz; omega)
          obtain ⟨b, hb⟩ : ∃ b, fitL p q (head ++ [((f + j + 1 : Nat) : Int)]) = b := ⟨_, rfl⟩
          have H1 := hide (l7fits_any A A' A6 n c Bp n' c' Bq _ c6 _ p q _ b hb w6 (h.stay y5 hBp) (h'.stay y5 hBq) hA6 hP6 (by omega) (by have := (unhide HM).1; have := (unhide HM).2; omega))
          have hsn := hI6.since
          have haw6 : ∀ x ∈ vs ++ us, Away x (.slice A6 (0 + 1) c6) := x3.away_new hsn (Nat.le_refl _)
          have hws : w.heap.size ≤ wr.heap.size := x5.size
          have HEX := hide (unhide HX j (by rw [unhide HF]; omega))
          cases b with
          | false =>
            have HE : Hid (extK p q m head (j + 1) = extK p q m head j) := hide (extK_no (by rw [unhide HF]; exact hb))
            have HC6 : Hid (Ints w6 B (.slice Ah 0 ch) head ∧ w6.ownsRow B 29 1 (.slice Ao (zss.length + (extK p q m head j).length) co) (zss.length + (extK p q m head j).length) (vs ++ us) ∧ Inner w6 B (vs ++ us) (zss ++ extK p q m head j) ∧ (∀ x ∈ us, Since w.heap.size x) ∧ Below B w w6 ∧ KeepI w w6) :=
              hide ⟨x1.below hb6, own_below x2 hb6, x3.keepI (KeepI.of_below hb6), x4, y5, x6.trans (KeepI.of_below hb6)⟩
            clear hI6 hown6 hb6 x1 x2 x3 x4 x5 x6 y5 hP6 hA6 hb hsn haw6 HCr HEX
            go_wp2_with fail
            refine (unhide H1).mono ?_
            rintro e w7 ⟨rfl, hd⟩
            have HC7 : Hid (Ints w7 B (.slice Ah 0 ch) head ∧ w7.ownsRow B 29 1 (.slice Ao (zss.length + (extK p q m head j).length) co) (zss.length + (extK p q m head (j + 1)).length) (vs ++ us) ∧ Inner w7 B (vs ++ us) (zss ++ extK p q m head (j + 1)) ∧ (∀ x ∈ us, Since w.heap.size x) ∧ Below B w w7 ∧ KeepI w w7) := hide (by
              obtain ⟨x1, x2, x3, x4, x5, x6⟩ := unhide HC6
              rw [unhide HE]
              exact ⟨x1.below (hd.below _), own_below x2 (hd.below _), x3.keepI hd.keepI, x4, x5.trans (hd.below _), x6.trans hd.keepI⟩)
            clear H1 hd HC6 HE
            go_wp2
            go_roundw
            case rel => exact ⟨j + 1, us, by omega, by go_num, HC7⟩
            case measure => simp [intOf]; omega
          | true =>
            have HE : Hid (extK p q m head (j + 1) = extK p q m head j ++ extL p q m (head ++ [((f + j + 1 : Nat) : Int)])) := hide (by have := extK_yes (p := p) (q := q) (m := m) (head := head) (j := j) (by rw [unhide HF]; exact hb); rwa [unhide HF] at this)
            have H2 := hide (fun (w7 : World) (hd : Below w6.heap.size w6 w7) => ih A A' n c Bp n' c' Bq B p q A6 _ c6 (head ++ [((f + j + 1 : Nat) : Int)]) (.slice Ao (zss.length + (extK p q m head j).length) co) (vs ++ us) (zss ++ extK p q m head j) w7 (h.stay (y5.trans (hd.mono (Nat.le_trans hBw hb6.size))) hBp) (h'.stay (y5.trans (hd.mono (Nat.le_trans hBw hb6.size))) hBq) hBp hBq (Nat.le_trans hBw (Nat.le_trans hb6.size hd.size)) (unhide HA).2.2.1 (unhide HA).2.2.2 (by have := (unhide HM).1; rw [List.length_append, List.length_singleton]; omega) hP6 ((hI6.below hd).low hBw)
              (by rw [List.length_append]; exact own_below (own_below x2 hb6) hd) ((x3.keepI (KeepI.of_below hb6)).keepI (KeepI.of_below hd)) haw6 (by have := unhide HEX; rw [unhide HE, List.length_append] at this; rw [List.length_append]; omega))
            have HC6 := hide (And.intro (x1.below hb6) (And.intro x4 (And.intro y5 (x6.trans (KeepI.of_below hb6)))))
            have hb6s := hb6.size
            clear hI6 hown6 hb6 x1 x2 x3 x4 x5 x6 y5 hP6 hA6 hb haw6 HCr HEX
            go_wp2_with fail
            refine (unhide H1).mono ?_
            rintro e w7 ⟨rfl, hd⟩
            have H3 := hide (unhide H2 w7 (hd.below _))
            clear H1 H2
            go_wp2_with fail
            refine (unhide H3).mono ?_
            rintro e w8 ⟨v8, us2, rfl, o8, i8, hu8, hb8, hk8⟩
            have HC8 : Hid (Ints w8 B (.slice Ah 0 ch) head ∧ w8.ownsRow B 29 1 v8 (zss.length + (extK p q m head (j + 1)).length) (vs ++ (us ++ us2)) ∧ Inner w8 B (vs ++ (us ++ us2)) (zss ++ extK p q m head (j + 1)) ∧ (∀ x ∈ us ++ us2, Since w.heap.size x) ∧ Below B w w8 ∧ KeepI w w8) := hide (by
              obtain ⟨x1, x4, x5, x6⟩ := unhide HC6
              rw [List.append_assoc] at o8 i8
              rw [List.append_assoc, ← unhide HE] at i8
              rw [List.length_append, Nat.add_assoc, ← List.length_append, ← unhide HE] at o8
              refine ⟨(x1.below (hd.below _)).keepI hk8, o8, i8, fun x hx => ?_, (x5.trans (hd.below _)).trans hb8, (x6.trans hd.keepI).trans hk8⟩
              rcases List.mem_append.1 hx with hx | hx
              · exact x4 x hx
              · rcases hu8 x hx with rfl | hx
                · exact hsn.mono hws
                · exact hx.mono (by have := hd.size; omega))
            clear H3 o8 i8 hu8 hb8 hk8 hd HC6 hsn HE
            go_wp2
            go_roundw
            case rel => exact ⟨j + 1, us ++ us2, by omega, by go_num, HC8⟩
            case measure => simp [intOf]; omega
        · obtain rfl : j = p.length - f := by omega
          obtain ⟨x1, x2, x3, x4, x5, x6⟩ := unhide HCr
          have hE : extK p q m head (p.length - f) = extL p q (m + 1) head := by have := extK_all p q m head; rwa [unhide HF] at this
          have HR : Hid (wr.ownsRow B 29 1 (.slice Ao (zss.length + (extK p q m head (p.length - f)).length) co) (zss.length + (extL p q (m + 1) head).length) (vs ++ us) ∧ Inner wr B (vs ++ us) (zss ++ extL p q (m + 1) head) ∧ (∀ x ∈ us, Since w.heap.size x) ∧ Below B w wr ∧ KeepI w wr) :=
            hide ⟨by rw [← hE]; exact x2, by rw [← hE]; exact x3, x4, x5, x6⟩
          clear x1 x2 x3 x4 x5 x6 HCr hE
          go_wp2
          go_ret
          obtain ⟨x2, x3, x4, x5, x6⟩ := unhide HR
          exact ⟨_, us, rfl, x2, x3, fun x hx => .inr (x4 x hx), x5, x6⟩
    | succ nh =>
      obtain ⟨adh, rfl, hcl⟩ := hf0.1 nh rfl
      have hki : ((nh + 1 : Nat) : Int) - 1 = (nh : Int) := by omega
      have e0 : ((nh : Int) + 1 == (n' : Int)) = false := by rw [beq_eq_false_iff_ne]; omega
      clear hf0
      go_enter Try.func67, Try.ntmps67
      go_wp2
      clear hcl hki
      go_loopw [3, 10, 11] (fun o i _ wr => ∃ (j : Nat) (us : List Value), j ≤ p.length - f ∧ i = .int .i64 ((f + j + 1 : Nat) : Int) ∧ Hid (Ints wr B (.slice (some adh) (nh + 1) ch) head ∧ wr.ownsRow B 29 1 o (zss.length + (extK p q m head j).length) (vs ++ us) ∧ Inner wr B (vs ++ us) (zss ++ extK p q m head j) ∧ (∀ x ∈ us, Since w.heap.size x) ∧ Below B w wr ∧ KeepI w wr)) (fun _ i _ _ => (p.length + 1 - (intOf i).toNat))
      case atStart => exact ⟨0, [], Nat.zero_le _, by go_num, HC⟩
      case round =>
        obtain ⟨j, us, hj, rfl, HCr⟩ := hrel
        clear HC
        obtain ⟨Ao, co, rfl, _⟩ := Reads.of_own (unhide HCr).2.1
        by_cases hlt : j < p.length - f
        · have hst := own0 wr wr.heap.size (Nat.le_refl _)
          have hal := (Below.refl wr.heap.size wr).alloc (Nat.le_refl _) (.cells #[] 3)
          have hArg := ((unhide HCr).1.arg (by omega) (unhide HCr).1.cap (fun z hz => by have := (unhide HA).2.1.1 z hz; omega)).below hal
          have hBw : B ≤ wr.heap.size := Nat.le_trans hB (unhide HCr).2.2.2.2.1.size
          go_wp2_with (first
            | (at_builtin; refine wpList_append_arg rfl (.tmp 38) (.tmp 39) rfl wr.heap.size _ 0 ((nh + 1)) ch _ _ (some adh) [] head rfl rfl hst hArg (by omega) hal (by simp) ?_))
          intro v5 w5 hown5 hb5 hg5
          have hs5 := hb5.size
          clear hg5 hst hal hArg
          go_wp2_with (first
            | (at_builtin; refine wpList_append_one rfl (.tmp 40) (.tmp 42) 29 rfl wr.heap.size 3 i0 (.int .i64 0) 8 Try.underlying29 hi hz0 hz1 hz2 rfl wr w5 _ _ _ rfl hown5 (.int .i64 ((f + j + 1 : Nat) : Int)) rfl rfl rfl (by omega) (by unfold maxLen; omega) hb5 hs5 ?_))
          intro v6 w6 hown6 hb6 hg6
          rw [i64_snoc] at hown6
          clear hg6 hown5 hb5 hs5
          have hI6 : Ints w6 wr.heap.size v6 (head ++ [((f + j + 1 : Nat) : Int)]) := Ints.of_own hown6
          obtain ⟨A6, c6, rfl, _⟩ := Reads.of_own hown6
          obtain ⟨x1, x2, x3, x4, x5, x6⟩ := unhide HCr
          have y5 : Below B w w6 := x5.trans (hb6.mono hBw)
          have hP6 : PlOK p.length (head ++ [((f + j + 1 : Nat) : Int)]) := PlOK.snoc.2 ⟨(unhide HA).2.1, by rw [unhide HF]; omega, by omega⟩
          have hA6 : Arg w6 w6.heap.size A6 ((nh + 1) + 1) c6 (head ++ [((f + j + 1 : Nat) : Int)]) := hI6.arg (by omega) hI6.cap (fun z hz => by have := hP6.1 z hz; omega)
          obtain ⟨b, hb⟩ : ∃ b, fitL p q (head ++ [((f + j + 1 : Nat) : Int)]) = b := ⟨_, rfl⟩
          have H1 := hide (l7fits_any A A' A6 n c Bp n' c' Bq _ c6 _ p q _ b hb w6 (h.stay y5 hBp) (h'.stay y5 hBq) hA6 hP6 (by omega) (by have := (unhide HM).1; have := (unhide HM).2; omega))
          have hsn := hI6.since
          have haw6 : ∀ x ∈ vs ++ us, Away x (.slice A6 ((nh + 1) + 1) c6) := x3.away_new hsn (Nat.le_refl _)
          have hws : w.heap.size ≤ wr.heap.size := x5.size
          have HEX := hide (unhide HX j (by rw [unhide HF]; omega))
          cases b with
          | false =>
            have HE : Hid (extK p q m head (j + 1) = extK p q m head j) := hide (extK_no (by rw [unhide HF]; exact hb))
            have HC6 : Hid (Ints w6 B (.slice (some adh) (nh + 1) ch) head ∧ w6.ownsRow B 29 1 (.slice Ao (zss.length + (extK p q m head j).length) co) (zss.length + (extK p q m head j).length) (vs ++ us) ∧ Inner w6 B (vs ++ us) (zss ++ extK p q m head j) ∧ (∀ x ∈ us, Since w.heap.size x) ∧ Below B w w6 ∧ KeepI w w6) :=
              hide ⟨x1.below hb6, own_below x2 hb6, x3.keepI (KeepI.of_below hb6), x4, y5, x6.trans (KeepI.of_below hb6)⟩
            clear hI6 hown6 hb6 x1 x2 x3 x4 x5 x6 y5 hP6 hA6 hb hsn haw6 HCr HEX
            go_wp2_with fail
            refine (unhide H1).mono ?_
            rintro e w7 ⟨rfl, hd⟩
            have HC7 : Hid (Ints w7 B (.slice (some adh) (nh + 1) ch) head ∧ w7.ownsRow B 29 1 (.slice Ao (zss.length + (extK p q m head j).length) co) (zss.length + (extK p q m head (j + 1)).length) (vs ++ us) ∧ Inner w7 B (vs ++ us) (zss ++ extK p q m head (j + 1)) ∧ (∀ x ∈ us, Since w.heap.size x) ∧ Below B w w7 ∧ KeepI w w7) := hide (by
              obtain ⟨x1, x2, x3, x4, x5, x6⟩ := unhide HC6
              rw [unhide HE]
              exact ⟨x1.below (hd.below _), own_below x2 (hd.below _), x3.keepI hd.keepI, x4, x5.trans (hd.below _), x6.trans hd.keepI⟩)
            clear H1 hd HC6 HE
            go_wp2
            go_roundw
            case rel => exact ⟨j + 1, us, by omega, by go_num, HC7⟩
            case measure => simp [intOf]; omega
          | true =>
            have HE : Hid (extK p q m head (j + 1) = extK p q m head j ++ extL p q m (head ++ [((f + j + 1 : Nat) : Int)])) := hide (by have := extK_yes (p := p) (q := q) (m := m) (head := head) (j := j) (by rw [unhide HF]; exact hb); rwa [unhide HF] at this)
            have H2 := hide (fun (w7 : World) (hd : Below w6.heap.size w6 w7) => ih A A' n c Bp n' c' Bq B p q A6 _ c6 (head ++ [((f + j + 1 : Nat) : Int)]) (.slice Ao (zss.length + (extK p q m head j).length) co) (vs ++ us) (zss ++ extK p q m head j) w7 (h.stay (y5.trans (hd.mono (Nat.le_trans hBw hb6.size))) hBp) (h'.stay (y5.trans (hd.mono (Nat.le_trans hBw hb6.size))) hBq) hBp hBq (Nat.le_trans hBw (Nat.le_trans hb6.size hd.size)) (unhide HA).2.2.1 (unhide HA).2.2.2 (by have := (unhide HM).1; rw [List.length_append, List.length_singleton]; omega) hP6 ((hI6.below hd).low hBw)
              (by rw [List.length_append]; exact own_below (own_below x2 hb6) hd) ((x3.keepI (KeepI.of_below hb6)).keepI (KeepI.of_below hd)) haw6 (by have := unhide HEX; rw [unhide HE, List.length_append] at this; rw [List.length_append]; omega))
            have HC6 := hide (And.intro (x1.below hb6) (And.intro x4 (And.intro y5 (x6.trans (KeepI.of_below hb6)))))
            have hb6s := hb6.size
            clear hI6 hown6 hb6 x1 x2 x3 x4 x5 x6 y5 hP6 hA6 hb haw6 HCr HEX
            go_wp2_with fail
            refine (unhide H1).mono ?_
            rintro e w7 ⟨rfl, hd⟩
            have H3 := hide (unhide H2 w7 (hd.below _))
            clear H1 H2
            go_wp2_with fail
            refine (unhide H3).mono ?_
            rintro e w8 ⟨v8, us2, rfl, o8, i8, hu8, hb8, hk8⟩
            have HC8 : Hid (Ints w8 B (.slice (some adh) (nh + 1) ch) head ∧ w8.ownsRow B 29 1 v8 (zss.length + (extK p q m head (j + 1)).length) (vs ++ (us ++ us2)) ∧ Inner w8 B (vs ++ (us ++ us2)) (zss ++ extK p q m head (j + 1)) ∧ (∀ x ∈ us ++ us2, Since w.heap.size x) ∧ Below B w w8 ∧ KeepI w w8) := hide (by
              obtain ⟨x1, x4, x5, x6⟩ := unhide HC6
              rw [List.append_assoc] at o8 i8
              rw [List.append_assoc, ← unhide HE] at i8
              rw [List.length_append, Nat.add_assoc, ← List.length_append, ← unhide HE] at o8
              refine ⟨(x1.below (hd.below _)).keepI hk8, o8, i8, fun x hx => ?_, (x5.trans (hd.below _)).trans hb8, (x6.trans hd.keepI).trans hk8⟩
              rcases List.mem_append.1 hx with hx | hx
              · exact x4 x hx
              · rcases hu8 x hx with rfl | hx
                · exact hsn.mono hws
                · exact hx.mono (by have := hd.size; omega))
            clear H3 o8 i8 hu8 hb8 hk8 hd HC6 hsn HE
            go_wp2
            go_roundw
            case rel => exact ⟨j + 1, us ++ us2, by omega, by go_num, HC8⟩
            case measure => simp [intOf]; omega
        · obtain rfl : j = p.length - f := by omega
          obtain ⟨x1, x2, x3, x4, x5, x6⟩ := unhide HCr
          have hE : extK p q m head (p.length - f) = extL p q (m + 1) head := by have := extK_all p q m head; rwa [unhide HF] at this
          have HR : Hid (wr.ownsRow B 29 1 (.slice Ao (zss.length + (extK p q m head (p.length - f)).length) co) (zss.length + (extL p q (m + 1) head).length) (vs ++ us) ∧ Inner wr B (vs ++ us) (zss ++ extL p q (m + 1) head) ∧ (∀ x ∈ us, Since w.heap.size x) ∧ Below B w wr ∧ KeepI w wr) :=
            hide ⟨by rw [← hE]; exact x2, by rw [← hE]; exact x3, x4, x5, x6⟩
          clear x1 x2 x3 x4 x5 x6 HCr hE
          go_wp2
          go_ret
          obtain ⟨x2, x3, x4, x5, x6⟩ := unhide HR
          exact ⟨_, us, rfl, x2, x3, fun x hx => .inr (x4 x hx), x5, x6⟩
end Go.Proofs.Ytplchjeamooliaa


/-
  spec.l7Has, spec.l12Avoids, spec.IsBasis, spec.InClass, by their contracts.
-/

namespace Go.Proofs.Ytplchjeamooliaa
set_option maxRecDepth 100000
open Go.RowKit

/-- A list of rows with a Boolean. -/
def GivesSSB (w : World) (zss : List (List Int)) (b : Bool) (e : Ending) (w' : World) : Prop := ∃ A c, e = .returned (.tuple #[.slice A zss.length c, .bool b]) ∧ IntsS w' w.heap.size (.slice A zss.length c) zss ∧ Below w.heap.size w w'
theorem GivesSSB.mk {w w' : World} {v : Value} {zss : List (List Int)} (b : Bool) (h : IntsS w' w.heap.size v zss) (hb : Below w.heap.size w w') : GivesSSB w zss b (.returned (.tuple #[v, .bool b])) w' := by
  obtain ⟨A, c, rfl⟩ := h.slice
  exact ⟨A, c, rfl, h, hb⟩
set_option maxHeartbeats 800000 in
theorem l7has_any (A A' : Option Addr) (n c B n' c' B' : Nat) (p q : List Int) (w : World) (h : Arg w B A n c p) (h' : Arg w B' A' n' c' q) (hp : isP p = true) (hq : isP q = true) :
    Calls Try.prog 36 #[.slice A n c, .slice A' n' c'] w (GivesB w (hasO p q)) := by
  have hsz : (extL p q q.length []).length ≤ 256 := by
    have h1 := occ_size p q hp
    rwa [occR_yes hp hq] at h1
  have hbx := (Below.refl w.heap.size w).alloc (Nat.le_refl _) (.cells #[] 3)
  have hby := hbx.alloc (by simp) (.cells #[] 29)
  have H3 := hide (l7find_any q.length A A' n c B n' c' B' w.heap.size p q (some ⟨w.heap.size, 0, none⟩) 0 0 [] (.slice (some ⟨w.heap.size + 1, 0, none⟩) 0 0) [] []
    ((w.alloc (.cells #[] 3)).alloc (.cells #[] 29)) (h.below hby) (h'.below hby) h.under h'.under (by simp; omega) hp hq (by simp) (PlOK.nil _)
    ((Ints.made0 w w.heap.size (Nat.le_refl _)).below ((Below.refl _ _).alloc (Nat.le_refl _) _)) (by have := ownS0 (w.alloc (.cells #[] 3)) w.heap.size (by simp); rw [World.size_alloc] at this; exact this) (Inner.nil _ _) (fun x hx => by cases hx) (by simp only [List.length_nil]; omega))
  unfold hasO
  obtain ⟨N, hN⟩ : ∃ N, N = (extL p q q.length []).length := ⟨_, rfl⟩
  rw [← hN] at hsz ⊢
  have HN := hide hN
  clear h h' hp hq hbx hN
  go_enter Try.func36, Try.ntmps36
  go_wp2_with fail
  refine (unhide H3).mono ?_
  rintro e w5 ⟨v, us, rfl, o5, i5, _, hb5, _⟩
  obtain ⟨A5, c5, rfl, _⟩ := Reads.of_own o5
  simp only [List.length_nil, Nat.zero_add] at o5 ⊢
  rw [← unhide HN]
  have hb6 := hby.trans hb5
  clear H3 o5 i5 hb5 hby
  by_cases h0 : 0 < N
  · have h0' : (0 : Int) < (N : Int) := by omega
    go_wp2
    go_ret
    exact ⟨ret_bool (decide_eq_true h0).symm, hb6⟩
  · have h0' : ¬ (0 : Int) < (N : Int) := by omega
    go_wp2
    go_ret
    exact ⟨ret_bool (by first | rfl | exact (decide_eq_false h0).symm), hb6⟩
set_option maxHeartbeats 800000 in
theorem savo_any (A A' : Option Addr) (n c B n' c' B' : Nat) (zss : List (List Int)) (p : List Int) (w : World) (hS : IntsS w B (.slice A n c) zss) (h' : Arg w B' A' n' c' p) (hp : isP p = true) (hz : ∀ z ∈ zss, isP z = true) (hn : n ≤ 1048576) :
    Calls Try.prog 41 #[.slice A n c, .slice A' n' c'] w (GivesB w (avo zss p)) := by
  have hl := hS.len
  have HA := hide (⟨hS, h', hp, hz⟩ : IntsS w B (.slice A n c) zss ∧ Arg w B' A' n' c' p ∧ isP p = true ∧ ∀ z ∈ zss, isP z = true)
  have HL := hide hl
  have hb0 := Below.refl w.heap.size w
  clear hS h' hp hz hl
  go_enter Try.func41, Try.ntmps41
  go_wp2
  go_loopw [5] (fun i wr => ∃ k : Nat, k ≤ n ∧ i = .int .i64 k ∧ Below w.heap.size w wr ∧ Hid (avo (zss.take k) p = true)) (fun i _ => n - (intOf i).toNat)
  case atStart => exact ⟨0, Nat.zero_le _, rfl, hb0, by exact (rfl : avo (zss.take 0) p = true)⟩
  case round =>
    obtain ⟨k, hk, rfl, hb, ha⟩ := hrel
    clear hb0
    by_cases hlt : k < n
    · obtain ⟨ad, A6, c6, z, rfl, hz, hcell, hI⟩ := ((unhide HA).1.below hb).at_ hlt
      have hzp := (unhide HA).2.2.2 z (List.mem_of_getElem? hz)
      have H4 := hide (l7has_any A' A6 n' c' B' z.length c6 _ p z wr ((unhide HA).2.1.below hb) (hI.argP hzp) (unhide HA).2.2.1 hzp)
      obtain ⟨b, hbb⟩ : ∃ b, hasO p z = b := ⟨_, rfl⟩
      rw [hbb] at H4
      have HB := hide hb
      cases b with
      | true =>
        have HR := hide (avo_no (List.mem_of_getElem? hz) hbb)
        clear hz hzp hI hbb hb ha
        go_wp2_with fail
        refine (unhide H4).mono ?_
        rintro e w2 ⟨rfl, d2⟩
        have hb2 := below_after (unhide HB) d2
        clear H4 HB d2
        go_wp2
        go_ret
        exact ⟨ret_bool (unhide HR).symm, hb2⟩
      | false =>
        have HR := hide (avo_step hz hbb (unhide ha))
        clear hz hzp hI hbb hb ha
        go_wp2_with fail
        refine (unhide H4).mono ?_
        rintro e w2 ⟨rfl, d2⟩
        have hb2 := below_after (unhide HB) d2
        clear H4 HB d2
        go_wp2
        go_roundw
        case rel => exact ⟨k + 1, by omega, by go_num, hb2, HR⟩
        case measure => simp [intOf]; omega
    · obtain rfl : n = k := by omega
      have HR := hide (show avo zss p = true by have h := unhide ha; rwa [List.take_of_length_le (by rw [unhide HL]; exact Nat.le_refl _)] at h)
      clear ha
      go_wp2
      go_ret
      exact ⟨ret_bool (unhide HR).symm, hb⟩
set_option maxHeartbeats 1600000 in
theorem sbas2_any (A : Option Addr) (n c B : Nat) (zss : List (List Int)) (w : World) (hS : IntsS w B (.slice A n c) zss) (hn : n ≤ 2097152) (hsm : ∀ z ∈ zss, z.length ≤ 1048576 ∧ Small z) :
    Calls Try.prog 11 #[.slice A n c] w (GivesB w (basis zss)) := by
  have hl := hS.len
  have HA := hide (⟨hS, hsm⟩ : IntsS w B (.slice A n c) zss ∧ ∀ z ∈ zss, z.length ≤ 1048576 ∧ Small z)
  have HL := hide hl
  have hb0 := Below.refl w.heap.size w
  clear hS hsm hl
  go_enter Try.func11, Try.ntmps11
  go_wp2
  go_loopw [3, 4] (fun i _ wr => ∃ k : Nat, k ≤ n ∧ i = .int .i64 k ∧ Below w.heap.size w wr ∧ Hid (BasTo zss k)) (fun i _ _ => n - (intOf i).toNat)
  case atStart => exact ⟨0, Nat.zero_le _, rfl, hb0, BasTo.zero zss⟩
  case round =>
    obtain ⟨k, hk, rfl, hb, hT⟩ := hrel
    clear hb0
    by_cases hlt : k < n
    · have hS := (unhide HA).1.below hb
      obtain ⟨ad, A6, c6, z, rfl, hz, hcell, hI⟩ := hS.at_ hlt
      obtain ⟨hzl, hzs⟩ := (unhide HA).2 z (List.mem_of_getElem? hz)
      have hA := hI.arg hzl hI.cap hzs
      have hkl : k < zss.length := by rw [unhide HL]; exact hlt
      have hat := basAt_at hz
      have HB := hide hb
      obtain ⟨b1, hb1⟩ : ∃ b, isP z = b := ⟨_, rfl⟩
      have HR1 := hide hA
      cases b1 with
      | false =>
        have HF := hide (basis_no hkl (by rw [hat, hb1]; rfl))
        have hzc := hA.cap
        obtain ⟨lz, hlz⟩ : ∃ l, l = z.length := ⟨_, rfl⟩
        rw [← hlz] at hcell HR1 hzc hzl
        have HP := hide hb1
        clear hz hA hI hat hlz hS hb hzs hb1 hT hkl
        go_wp2
        go_quiet ((go_at_call 34; exact Calls.quiet_of (sisperm_any A6 _ c6 _ z false (unhide HP) _ ((unhide HR1).reads.drewN _) hzl hzc)))
        go_wp2
        go_ret
        exact ⟨ret_bool (unhide HF).symm, (unhide HB).trans ((Drew.refl wr |>.more nq).below _)⟩
      | true =>
        have hz8 := isP_le hb1
        by_cases h0 : z.length = 0
        · have HF := hide (basis_no hkl (by rw [hat, hb1, h0]; rfl))
          have hzc := hA.cap
          rw [h0] at hcell hzc
          have HP := hide hb1
          have HR2 := hide hA.reads
          rw [h0] at HR2
          clear hz hA hI hat hS hb hzs hb1 hT hkl h0 HR1
          go_wp2
          go_quiet ((go_at_call 34; exact Calls.quiet_of (sisperm_any A6 0 c6 _ z true (unhide HP) _ ((unhide HR2).drewN _) (by omega) (by omega))))
          go_wp2
          go_ret
          exact ⟨ret_bool (unhide HF).symm, (unhide HB).trans ((Drew.refl wr |>.more nq).below _)⟩
        · have hz0 : ((z.length : Int) == 0) = false := by rw [beq_eq_false_iff_ne]; omega
          obtain ⟨b2, hb2⟩ : ∃ b, (decide (k = 0) || befL (zss.getD (k - 1) []) z) = b := ⟨_, rfl⟩
          have HP := hide hb1
          have HZ := hide hz
          have hzc := hA.cap
          cases b2 with
          | false =>
            have hk0 : k ≠ 0 := fun e => by rw [e] at hb2; simp at hb2
            obtain ⟨a, rfl⟩ : ∃ a, k = a + 1 := ⟨k - 1, by omega⟩
            obtain ⟨ad2, A7, c7, y, hade, hy, hcell2, hI2⟩ := hS.at_ (show a < n by omega)
            obtain rfl : ad = ad2 := Option.some.inj hade
            obtain ⟨hyl, hys⟩ := (unhide HA).2 y (List.mem_of_getElem? hy)
            have hA2 := hI2.arg hyl hI2.cap hys
            have hbf : befL y z = false := by
              rw [Nat.add_sub_cancel, getD_row hy] at hb2
              simpa using hb2
            have HF := hide (basis_no hkl (by rw [hat, hb1, hb2]; simp))
            have HY := hide hA2
            have HBF := hide hbf
            have q1 : IntKind.i64.wrap ((a : Int) + 1 - 1) = (a : Int) := by rw [IntKind.wrap_i64]; omega
            have q2 : IntKind.i64.wrap (a : Int) = (a : Int) := by rw [IntKind.wrap_i64]; omega
            have hadd : ad.add (a + 1) = ⟨ad.block, ad.off + (a + 1), none⟩ := by unfold Addr.add; rw [if_neg (by omega)]
            rw [hadd] at hcell
            have hbd0 : (0 : Int) ≤ (a : Int) + 1 := by omega
            have hbd1 : (a : Int) + 1 < (n : Int) := by omega
            have hbd2 : (a : Int) < (n : Int) := by omega
            have hpos : decide ((0 : Int) < (a : Int) + 1) = true := decide_eq_true (by omega)
            obtain ⟨lz, hlz⟩ : ∃ l, l = z.length := ⟨_, rfl⟩
            rw [← hlz] at hcell HR1 hzc hzl hz0 h0
            obtain ⟨ly, hly⟩ : ∃ l, l = y.length := ⟨_, rfl⟩
            rw [← hly] at hcell2 HY
            clear hz hA hI hat hlz hly hS hb hzs hb1 hT hkl hade hy hI2 hyl hys hA2 hbf hb2 hadd hk0 hz8
            go_wp2
            go_quiet (first
              | (go_at_call 34; exact Calls.quiet_of (sisperm_any A6 _ c6 _ z true (unhide HP) _ ((unhide HR1).reads.drewN _) hzl hzc))
              | (go_at_call 35; exact Calls.quiet_of (l2bef_any A7 A6 _ c7 _ _ c6 _ y z false (unhide HBF) _ ((unhide HY).below ((Drew.refl _ |>.more _).below _)) ((unhide HR1).below ((Drew.refl _ |>.more _).below _)))))
            go_wp2
            go_ret
            exact ⟨ret_bool (unhide HF).symm, (unhide HB).trans ((Drew.refl wr |>.more nq).below _)⟩
          | true =>
            have HBT := hide hb2
            have HAT := hide hat
            clear hat
            go_upto_region 4 with fail
            go_cut [41] from 5 to 55 (fun b wx => b = .bool false ∧ ∃ m, wx = wr.drewN m)
            case first =>
              by_cases hk0 : k = 0
              · have hpos : decide (0 < k) = false := decide_eq_false (by omega)
                obtain ⟨lz, hlz⟩ : ∃ l, l = z.length := ⟨_, rfl⟩
                rw [← hlz] at hcell HR1 hzc hzl hz0 h0
                clear hz hA hI hlz hS hb hzs hb1 hT hkl hb2 hz8 hk0
                go_quiet ((go_at_call 34; exact Calls.quiet_of (sisperm_any A6 _ c6 _ z true (unhide HP) _ ((unhide HR1).reads.drewN _) hzl hzc)))
                go_wp2_with fail
                go_meet
                exact ⟨rfl, _, rfl⟩
              · obtain ⟨a, rfl⟩ : ∃ a, k = a + 1 := ⟨k - 1, by omega⟩
                obtain ⟨ad2, A7, c7, y, hade, hy, hcell2, hI2⟩ := hS.at_ (show a < n by omega)
                obtain rfl : ad = ad2 := Option.some.inj hade
                obtain ⟨hyl, hys⟩ := (unhide HA).2 y (List.mem_of_getElem? hy)
                have hA2 := hI2.arg hyl hI2.cap hys
                have hbf : befL y z = true := by
                  rw [Nat.add_sub_cancel, getD_row hy] at hb2
                  simpa using hb2
                have HY := hide hA2
                have HBF := hide hbf
                have q1 : IntKind.i64.wrap ((a : Int) + 1 - 1) = (a : Int) := by rw [IntKind.wrap_i64]; omega
                have q2 : IntKind.i64.wrap (a : Int) = (a : Int) := by rw [IntKind.wrap_i64]; omega
                have hadd : ad.add (a + 1) = ⟨ad.block, ad.off + (a + 1), none⟩ := by unfold Addr.add; rw [if_neg (by omega)]
                rw [hadd] at hcell
                have hbd0 : (0 : Int) ≤ (a : Int) + 1 := by omega
                have hbd1 : (a : Int) + 1 < (n : Int) := by omega
                have hbd2 : (a : Int) < (n : Int) := by omega
                have hpos : decide ((0 : Int) < (a : Int) + 1) = true := decide_eq_true (by omega)
                obtain ⟨lz, hlz⟩ : ∃ l, l = z.length := ⟨_, rfl⟩
                rw [← hlz] at hcell HR1 hzc hzl hz0 h0
                obtain ⟨ly, hly⟩ : ∃ l, l = y.length := ⟨_, rfl⟩
                rw [← hly] at hcell2 HY
                clear hz hA hI hlz hly hS hb hzs hb1 hT hkl hade hy hI2 hyl hys hA2 hbf hb2 hadd hk0 hz8
                go_quiet (first
                  | (go_at_call 34; exact Calls.quiet_of (sisperm_any A6 _ c6 _ z true (unhide HP) _ ((unhide HR1).reads.drewN _) hzl hzc))
                  | (go_at_call 35; exact Calls.quiet_of (l2bef_any A7 A6 _ c7 _ _ c6 _ y z true (unhide HBF) _ ((unhide HY).below ((Drew.refl _ |>.more _).below _)) ((unhide HR1).below ((Drew.refl _ |>.more _).below _)))))
                go_wp2_with fail
                go_meet
                exact ⟨rfl, _, rfl⟩
            case rest =>
              obtain ⟨rfl, dm, hwx⟩ := hcut
              have hbc : Below w.heap.size w wc := by rw [hwx]; exact (unhide HB).trans ((Drew.refl wr |>.more dm).below _)
              have HT2 := hide (show avo (zss.take k) z = true → BasTo zss (k + 1) from fun e => (unhide hT).step (by rw [unhide HAT, unhide HP, unhide HBT, e, decide_eq_true h0]; rfl))
              have HF2 := hide (show avo (zss.take k) z = false → basis zss = false from fun e => basis_no hkl (by rw [unhide HAT, e, Bool.and_false]))
              have HPI := hide (fun (i : Nat) (y : List Int) (hi : i < k) (hy : zss[i]? = some y) => (unhide hT).isP hi hy)
              clear hz hA hI hS hb hzs hb1 hT hkl hb2 hz8 hwx HBT HAT HR1 HB hcell hz0
              obtain ⟨wo, rfl⟩ : ∃ wo : World, wo = wc := ⟨_, rfl⟩
              go_wp2
              go_loopw [4] (fun iv wi => ∃ i : Nat, i ≤ k ∧ iv = .int .i64 i ∧ Below w.heap.size w wi ∧ Hid (avo (zss.take i) z = true)) (fun iv _ => k - (intOf iv).toNat)
              case atStart => exact ⟨0, Nat.zero_le _, rfl, hbc, by exact (rfl : avo (zss.take 0) z = true)⟩
              case round =>
                obtain ⟨i, hi, rfl, hbi, hav⟩ := hrel
                clear hbc
                by_cases hik : i < k
                · have hS := (unhide HA).1.below hbi
                  obtain ⟨ad2, A8, c8, z2, hade, hz2, hck, hIk⟩ := hS.at_ hlt
                  obtain rfl : ad = ad2 := Option.some.inj hade
                  obtain rfl : z = z2 := Option.some.inj ((unhide HZ).symm.trans hz2)
                  obtain ⟨ad3, A9, c9, y, hade3, hy, hci, hIi⟩ := hS.at_ (show i < n by omega)
                  obtain rfl : ad = ad3 := Option.some.inj hade3
                  have hyp := unhide HPI i y hik hy
                  have H4 := hide (fun (w' : World) (d : Below wr.heap.size wr w') => l7has_any A8 A9 z.length c8 _ y.length c9 _ z y w' ((hIk.argP (unhide HP)).below d) ((hIi.argP hyp).below d) (unhide HP) hyp)
                  have hlk := World.block_lt_of_cell? wr _ hck
                  have hli := World.block_lt_of_cell? wr _ hci
                  obtain ⟨b, hbb⟩ : ∃ b, hasO z y = b := ⟨_, rfl⟩
                  rw [hbb] at H4
                  obtain ⟨lz, hlz⟩ : ∃ l, l = z.length := ⟨_, rfl⟩
                  obtain ⟨ly, hly⟩ : ∃ l, l = y.length := ⟨_, rfl⟩
                  rw [← hlz] at hck H4
                  rw [← hly] at hci H4
                  have HB := hide hbi
                  have HYM := hide (show y ∈ zss.take k from List.mem_of_getElem? (i := i) (by rw [List.getElem?_take_of_lt hik]; exact hy))
                  have HY := hide hy
                  have hb0 := (Below.refl wr.heap.size wr).drew
                  have hin : (i : Int) < (n : Int) := by omega
                  have hin2 : i < n := by omega
                  clear hS hade hz2 hIk hade3 hy hIi hyp hlz hly hbi
                  go_wp2
                  go_region_held3 (fun w' => w'.cell? (ad.add k) = some (.slice A8 lz c8) ∧ w'.cell? (ad.add i) = some (.slice A9 ly c9))
                    (first | go_keep | exact ⟨(d4.cell hlk).trans hck, (d4.cell hli).trans hci⟩)
                    (first | (go_simp; go_at_call 36; refine (unhide H4 _ hb0).mono ?_; rintro e w4 ⟨rfl, d4⟩))
                  have hb5 := below_after (unhide HB) (hb0.trans d4)
                  clear H4 hck hci hlk hli HB hb0 d4
                  cases b with
                  | true =>
                    have HF := hide (unhide HF2 (avo_no (unhide HYM) hbb))
                    clear hbb hav
                    go_wp2
                    go_ret
                    exact ⟨ret_bool (unhide HF).symm, hb5⟩
                  | false =>
                    have HR := hide (avo_step (unhide HY) hbb (unhide hav))
                    clear hbb hav
                    go_wp2
                    go_roundw
                    case rel => exact ⟨i + 1, by omega, by go_num, hb5, HR⟩
                    case measure => simp [intOf]; omega
                · obtain rfl : k = i := by omega
                  have HT := hide (unhide HT2 (unhide hav))
                  clear hav
                  go_wp2
                  go_roundw
                  case rel => exact ⟨k + 1, by omega, by go_num, hbi, HT⟩
                  case measure => simp [intOf]; omega
    · have hkn : n = k := by omega
      subst hkn
      have hE := hide (show basis zss = decide (n ≤ 8) by have h := (unhide hT); have h2 := BasTo.end_ (L := zss) (by rw [unhide HL]; exact h); rwa [unhide HL] at h2)
      clear hT
      by_cases h8 : n ≤ 8
      · have h8' : (n : Int) ≤ 8 := by omega
        go_wp2
        go_ret
        exact ⟨ret_bool (by rw [unhide hE, decide_eq_true h8]), hb⟩
      · have h8' : ¬ (n : Int) ≤ 8 := by omega
        go_wp2
        go_ret
        exact ⟨ret_bool (by rw [unhide hE, decide_eq_false h8]), hb⟩
theorem sbas_any (A : Option Addr) (n c B : Nat) (zss : List (List Int)) (w : World) (hS : IntsS w B (.slice A n c) zss) (hn : n ≤ 1048576) (hsm : ∀ z ∈ zss, z.length ≤ 1048576 ∧ Small z) :
    Calls Try.prog 11 #[.slice A n c] w (GivesB w (basis zss)) := sbas2_any A n c B zss w hS (by omega) hsm
set_option maxHeartbeats 800000 in
theorem sinc_any (A A' : Option Addr) (n c B n' c' B' : Nat) (zss : List (List Int)) (p : List Int) (w : World) (hS : IntsS w B (.slice A n c) zss) (hn : n ≤ 1048576) (hsm : ∀ z ∈ zss, z.length ≤ 1048576 ∧ Small z) (h' : Arg w B' A' n' c' p) :
    Calls Try.prog 19 #[.slice A n c, .slice A' n' c'] w (GivesB w (inC zss p)) := by
  obtain ⟨b, hb⟩ : ∃ b, basis zss = b := ⟨_, rfl⟩
  have H1 := hide (sbas_any A n c B zss w hS hn hsm)
  rw [hb] at H1
  cases b with
  | false =>
    have HR := hide (show inC zss p = false by unfold inC; rw [hb]; rfl)
    rw [unhide HR]
    clear hb hS h' hsm
    go_enter Try.func19, Try.ntmps19
    go_wp2_with fail
    refine (unhide H1).mono ?_
    rintro e w1 ⟨rfl, hb1⟩
    clear H1
    go_wp2
    go_ret
    exact ⟨rfl, hb1⟩
  | true =>
    obtain ⟨b2, hb2⟩ : ∃ b, isP p = b := ⟨_, rfl⟩
    have H2 := hide (fun (w' : World) (d : Below w.heap.size w w') => sisperm_any A' n' c' B' p b2 hb2 w' (h'.below d).reads h'.le h'.cap)
    cases b2 with
    | false =>
      have HR := hide (show inC zss p = false by unfold inC; rw [hb, hb2]; rfl)
      rw [unhide HR]
      clear hb hb2 hS h' hsm
      go_enter Try.func19, Try.ntmps19
      go_wp2_with fail
      refine (unhide H1).mono ?_
      rintro e w1 ⟨rfl, hb1⟩
      have H3 := hide (unhide H2 w1 hb1)
      clear H1 H2
      go_wp2_with fail
      refine (unhide H3).mono ?_
      rintro e w2 ⟨rfl, d2⟩
      have hb3 := hb1.trans (d2.below _)
      clear H3 d2 hb1
      go_wp2
      go_ret
      exact ⟨rfl, hb3⟩
    | true =>
      have HR := hide (show inC zss p = avo zss p by unfold inC; rw [hb, hb2]; rfl)
      rw [unhide HR]
      have H4 := hide (fun (w' : World) (d : Below w.heap.size w w') => savo_any A A' n c B n' c' B' zss p w' (hS.below d) (h'.below d) hb2 (fun z hz => (basis_isP hb z hz).1) hn)
      obtain ⟨b3, hb3⟩ : ∃ b, avo zss p = b := ⟨_, rfl⟩
      rw [hb3] at H4 ⊢
      clear hb hb2 hS h' hsm hb3
      go_enter Try.func19, Try.ntmps19
      go_wp2_with fail
      refine (unhide H1).mono ?_
      rintro e w1 ⟨rfl, hb1⟩
      have H3 := hide (unhide H2 w1 hb1)
      clear H1 H2
      go_wp2_with fail
      refine (unhide H3).mono ?_
      rintro e w2 ⟨rfl, d2⟩
      have hb3 := hb1.trans (d2.below _)
      have H5 := hide (unhide H4 w2 hb3)
      clear H3 H4 d2 hb1
      go_wp2_with fail
      refine (unhide H5).mono ?_
      rintro e w3 ⟨rfl, d3⟩
      have hb4 := below_after hb3 d3
      clear H5 d3 hb3
      go_wp2
      go_ret
      exact ⟨rfl, hb4⟩
end Go.Proofs.Ytplchjeamooliaa


/-
  WORDS: 'out = append(out, list...)', list a list of rows made since. Nothing here speaks of a function of the program.
-/

namespace Go.Proofs.Ytplchjeamooliaa
set_option maxRecDepth 100000
open Go.RowKit

theorem Inner.join {w : World} {B : Nat} {vs us : List Value} {Z U : List (List Int)} (h : Inner w B vs Z) (k : Inner w B us U) (ha : ∀ x ∈ vs, ∀ y ∈ us, Away x y) : Inner w B (vs ++ us) (Z ++ U) := by
  refine ⟨by simp [h.len, k.len], fun i x ys hx hy => ?_, ?_⟩
  · have hl := h.len
    by_cases hi : i < vs.length
    · rw [List.getElem?_append_left hi] at hx
      rw [List.getElem?_append_left (by omega)] at hy
      exact h.row i x ys hx hy
    · rw [List.getElem?_append_right (by omega)] at hx
      rw [List.getElem?_append_right (by omega), ← hl] at hy
      exact k.row _ x ys hx hy
  · rw [List.pairwise_append]
    exact ⟨h.away, k.away, ha⟩
theorem own_nil {w : World} {B n c : Nat} {A : Option Addr} {e : TypeId} {xs : List Value} (h : w.ownsRow B e 1 (.slice A n c) n xs) : A = none → c = 0 := fun hA => by
  rcases h.2 with ⟨hv, _⟩ | ⟨g, cap, cur, hv, _⟩
  · injection hv
  · injection hv with h1; rw [h1] at hA; cases hA
theorem wpList_append_lists {ops : Array Oper} {rest : List Oper} {o : Oper} {a : Act} {Q : Exit → Act → World → Prop} (hgd : o.guard = none) (s x : Operand)
    (ho : o.op = .call { callee := .builtin .append, args := #[s, x], argTypes := #[22, 22] })
    (B : Nat) (W0 w0 wr : World) (v : Value) (A : Option Addr) (n c : Nat) (U Z : List (List Int)) (hs : a.eval s = v) (hx : a.eval x = .slice A n c)
    (hS : IntsS w0 B v U) (hb0 : Below w0.heap.size w0 wr) (hZ : IntsS wr w0.heap.size (.slice A n c) Z) (hU : U.length ≤ 1048576) (hn : n ≤ 1048576) (hb : Below B W0 wr) (hB : B ≤ w0.heap.size)
    (K : ∀ v' w', IntsS w' B v' (U ++ Z) → Below B W0 w' → wpList Try.prog ops Q rest (a.put o.dst v') w') : wpList Try.prog ops Q (o :: rest) a wr := by
  have hl := hZ.len
  subst hl
  obtain ⟨vs, h1, h2⟩ := hS
  obtain ⟨us, k1, k2⟩ := hZ
  have h3 := own_below h1 hb0
  have h4 := h2.keepI (KeepI.of_below hb0)
  have hr := Reads.of_own_at k1
  refine wpList_append_rows hgd s x ho B wr.heap.size U.length Z.length c W0 v A vs us hs hx h3 hr (own_nil k1) (fun u hu => ?_) (by omega) (by omega) hb (Nat.le_trans hB hb0.size) ?_
  · obtain ⟨z, hz⟩ := k2.mem hu
    obtain ⟨A9, c9, rfl⟩ := hz.slice
    rfl
  · intro v' w' o1 o2 o3 _
    have hk := KeepI.of_grown h3 o3
    refine K v' w' ⟨vs ++ us, by rw [List.length_append]; exact o1, (h4.keepI hk).join ((k2.keepI hk).low hB) fun x hx y hy => ?_⟩ o2
    obtain ⟨z, hz⟩ := k2.mem hy
    exact (h2.away_new hz.since (Nat.le_refl _)) x hx
end Go.Proofs.Ytplchjeamooliaa


/-
  PLAIN: the eight symmetries are a group of eight; classes are the same for their elements; their sizes divide eight.
-/

namespace Go.Proofs.Ytplchjeamooliaa
set_option maxRecDepth 100000

def invL (p : List Int) : List Int := invFill p p.length
theorem invL_length (p : List Int) : (invL p).length = p.length := invFill_length p _
theorem invL_isP {p : List Int} (h : isP p = true) : isP (invL p) = true := isP_inv h
theorem invL_at {p : List Int} (h : isP p = true) {i : Nat} {z : Int} (hi : i < p.length) (hz : p[i]? = some z) : (invL p)[z.toNat - 1]? = some ((i : Int) + 1) :=
  invFill_at (isP_true.1 h).2.1 (isP_true.1 h).2.2 p.length i z hi (Nat.le_refl _) hz
/-- What is at a place of the inverse. -/
theorem invL_get {p : List Int} (h : isP p = true) {j : Nat} (hj : j < p.length) : ∃ i, i < p.length ∧ p[i]? = some ((j : Int) + 1) ∧ (invL p)[j]? = some ((i : Int) + 1) := by
  have hin := (nodup_iff_all (isP_true.1 h).2.1).1 (isP_true.1 h).2.2 j hj
  obtain ⟨i, hi, he⟩ := List.getElem_of_mem hin
  have h1 : p[i]? = some ((j : Int) + 1) := by rw [List.getElem?_eq_getElem hi, he]
  refine ⟨i, hi, h1, ?_⟩
  have := invL_at h hi h1
  rwa [show ((j : Int) + 1).toNat - 1 = j by omega] at this
/-- A list is the inverse if it has the inverse's places. -/
theorem invL_of {p q : List Int} (h : isP p = true) (hl : q.length = p.length) (hq : ∀ (i : Nat) (z : Int), p[i]? = some z → q[z.toNat - 1]? = some ((i : Int) + 1)) : invL p = q := by
  refine List.ext_getElem? fun j => ?_
  by_cases hj : j < p.length
  · obtain ⟨i, hi, h1, h2⟩ := invL_get h hj
    have := hq i _ h1
    rw [show ((j : Int) + 1).toNat - 1 = j by omega] at this
    rw [h2, this]
  · rw [List.getElem?_eq_none (by rw [invL_length]; omega), List.getElem?_eq_none (by omega)]
theorem inv_inv {p : List Int} (h : isP p = true) : invL (invL p) = p := by
  refine invL_of (invL_isP h) (invL_length p).symm fun j z hz => ?_
  have hj : j < p.length := by have := (List.getElem?_eq_some_iff.1 hz).1; rwa [invL_length] at this
  obtain ⟨i, hi, h1, h2⟩ := invL_get h hj
  rw [h2] at hz
  obtain rfl := Option.some.inj hz
  rw [show ((i : Int) + 1).toNat - 1 = i by omega, h1]
theorem inv_rev {p : List Int} (h : isP p = true) : invL p.reverse = cplL (invL p) := by
  refine invL_of (isP_rev h) (by rw [cplL_length, invL_length, List.length_reverse]) fun i z hz => ?_
  have hi : i < p.length := by have := (List.getElem?_eq_some_iff.1 hz).1; rwa [List.length_reverse] at this
  rw [List.getElem?_reverse hi] at hz
  have h1 := invL_at h (by omega) hz
  rw [cplL_at h1, invL_length]
  congr 1
  omega
theorem inv_cpl {p : List Int} (h : isP p = true) : invL (cplL p) = (invL p).reverse := by
  refine invL_of (isP_cpl h) (by rw [cplL_length, List.length_reverse, invL_length]) fun i z hz => ?_
  have hi : i < p.length := by have := (List.getElem?_eq_some_iff.1 hz).1; rwa [cplL_length] at this
  have hp := at0_some hi
  rw [cplL_at hp] at hz
  obtain rfl := Option.some.inj hz
  have hr := isP_range h hp
  have h1 := invL_at h hi hp
  rw [List.getElem?_reverse (by rw [invL_length]; omega), invL_length]
  rw [show p.length - 1 - (((p.length : Int) + 1 - at0 p i).toNat - 1) = (at0 p i).toNat - 1 by omega]
  exact h1
theorem cpl_rev (p : List Int) : cplL p.reverse = (cplL p).reverse := by
  unfold cplL
  rw [List.length_reverse, List.map_reverse]

/-- The steps on the numbers of the symmetries. -/
def sI (k : Nat) : Nat := (if 4 ≤ k then 2 else 0) + (if k / 2 % 2 = 1 then 4 else 0) + (if k % 2 = 1 then 0 else 1)
def sR (k : Nat) : Nat := if k / 2 % 2 = 1 then k - 2 else k + 2
def sC (k : Nat) : Nat := if 4 ≤ k then k - 4 else k + 4
def mulS (k j : Nat) : Nat :=
  let a := if j % 2 = 1 then sI k else k
  let b := if j / 2 % 2 = 1 then sR a else a
  if 4 ≤ j then sC b else b
theorem mulS_lt : ∀ k, k < 8 → ∀ j, j < 8 → mulS k j < 8 := by decide
theorem sym_list (p : List Int) : symL p 0 = p ∧ symL p 1 = invL p ∧ symL p 2 = p.reverse ∧ symL p 3 = (invL p).reverse ∧ symL p 4 = cplL p ∧ symL p 5 = cplL (invL p) ∧ symL p 6 = cplL p.reverse ∧ symL p 7 = cplL (invL p).reverse := by
  refine ⟨?_, ?_, ?_, ?_, ?_, ?_, ?_, ?_⟩ <;> simp [symL, sym2, sym1, invL]
theorem inv_sym {p : List Int} (h : isP p = true) : ∀ k, k < 8 → invL (symL p k) = symL p (sI k) := by
  obtain ⟨e0, e1, e2, e3, e4, e5, e6, e7⟩ := sym_list p
  have hi := invL_isP h
  intro k hk
  rcases (show k = 0 ∨ k = 1 ∨ k = 2 ∨ k = 3 ∨ k = 4 ∨ k = 5 ∨ k = 6 ∨ k = 7 by omega) with rfl | rfl | rfl | rfl | rfl | rfl | rfl | rfl
  · rw [e0, show sI 0 = 1 from rfl, e1]
  · rw [e1, show sI 1 = 0 from rfl, e0, inv_inv h]
  · rw [e2, show sI 2 = 5 from rfl, e5, inv_rev h]
  · rw [e3, show sI 3 = 4 from rfl, e4, inv_rev hi, inv_inv h]
  · rw [e4, show sI 4 = 3 from rfl, e3, inv_cpl h]
  · rw [e5, show sI 5 = 2 from rfl, e2, inv_cpl hi, inv_inv h]
  · rw [e6, show sI 6 = 7 from rfl, e7, inv_cpl (isP_rev h), inv_rev h, cpl_rev]
  · rw [e7, show sI 7 = 6 from rfl, e6, inv_cpl (isP_rev hi), inv_rev hi, inv_inv h, cpl_rev]
theorem rev_sym (p : List Int) : ∀ k, k < 8 → (symL p k).reverse = symL p (sR k) := by
  obtain ⟨e0, e1, e2, e3, e4, e5, e6, e7⟩ := sym_list p
  intro k hk
  rcases (show k = 0 ∨ k = 1 ∨ k = 2 ∨ k = 3 ∨ k = 4 ∨ k = 5 ∨ k = 6 ∨ k = 7 by omega) with rfl | rfl | rfl | rfl | rfl | rfl | rfl | rfl
  · rw [e0, show sR 0 = 2 from rfl, e2]
  · rw [e1, show sR 1 = 3 from rfl, e3]
  · rw [e2, show sR 2 = 0 from rfl, e0, List.reverse_reverse]
  · rw [e3, show sR 3 = 1 from rfl, e1, List.reverse_reverse]
  · rw [e4, show sR 4 = 6 from rfl, e6, cpl_rev]
  · rw [e5, show sR 5 = 7 from rfl, e7, cpl_rev]
  · rw [e6, show sR 6 = 4 from rfl, e4, cpl_rev, List.reverse_reverse]
  · rw [e7, show sR 7 = 5 from rfl, e5, cpl_rev, List.reverse_reverse]
theorem cpl_sym (p : List Int) : ∀ k, k < 8 → cplL (symL p k) = symL p (sC k) := by
  obtain ⟨e0, e1, e2, e3, e4, e5, e6, e7⟩ := sym_list p
  intro k hk
  rcases (show k = 0 ∨ k = 1 ∨ k = 2 ∨ k = 3 ∨ k = 4 ∨ k = 5 ∨ k = 6 ∨ k = 7 by omega) with rfl | rfl | rfl | rfl | rfl | rfl | rfl | rfl
  · rw [e0, show sC 0 = 4 from rfl, e4]
  · rw [e1, show sC 1 = 5 from rfl, e5]
  · rw [e2, show sC 2 = 6 from rfl, e6]
  · rw [e3, show sC 3 = 7 from rfl, e7]
  · rw [e4, show sC 4 = 0 from rfl, e0, cpl_cpl]
  · rw [e5, show sC 5 = 1 from rfl, e1, cpl_cpl]
  · rw [e6, show sC 6 = 2 from rfl, e2, cpl_cpl]
  · rw [e7, show sC 7 = 3 from rfl, e3, cpl_cpl]
theorem sI_lt : ∀ k, k < 8 → sI k < 8 := by decide
theorem sR_lt : ∀ k, k < 8 → sR k < 8 := by decide
/-- A symmetry of a symmetry. -/
theorem sym_sym {p : List Int} (h : isP p = true) {k j : Nat} (hk : k < 8) (_hj : j < 8) : symL (symL p k) j = symL p (mulS k j) := by
  have e1 : sym1 (symL p k) j = symL p (if j % 2 = 1 then sI k else k) := by
    unfold sym1
    split
    · exact inv_sym h k hk
    · rfl
  have l1 : (if j % 2 = 1 then sI k else k) < 8 := by
    split
    · exact sI_lt k hk
    · exact hk
  have e2 : sym2 (symL p k) j = symL p (if j / 2 % 2 = 1 then sR (if j % 2 = 1 then sI k else k) else (if j % 2 = 1 then sI k else k)) := by
    unfold sym2
    rw [e1]
    by_cases hb : j / 2 % 2 = 1
    · rw [if_pos hb, if_pos hb]; exact rev_sym p _ l1
    · rw [if_neg hb, if_neg hb]
  have l2 : (if j / 2 % 2 = 1 then sR (if j % 2 = 1 then sI k else k) else (if j % 2 = 1 then sI k else k)) < 8 := by
    by_cases hb : j / 2 % 2 = 1
    · rw [if_pos hb]; exact sR_lt _ l1
    · rw [if_neg hb]; exact l1
  have e3 : symL (symL p k) j = if 4 ≤ j then cplL (sym2 (symL p k) j) else sym2 (symL p k) j := rfl
  rw [e3, e2]
  by_cases hb : 4 ≤ j
  · rw [if_pos hb, cpl_sym p _ l2]
    congr 1
    simp only [mulS]
    rw [if_pos hb]
  · rw [if_neg hb]
    congr 1
    simp only [mulS]
    rw [if_neg hb]
theorem mulS_onto : ∀ k, k < 8 → ∀ i, i < 8 → ∃ j, j < 8 ∧ mulS k j = i := by decide
theorem mem_imgs {p x : List Int} : x ∈ imgs p 8 ↔ ∃ j, j < 8 ∧ symL p j = x := by
  unfold imgs
  simp [List.mem_map, List.mem_range]
theorem mem_cls {p x : List Int} (h : isP p = true) : x ∈ clsR p ↔ ∃ j, j < 8 ∧ symL p j = x := by
  rw [clsR_yes h, ordR_yes (imgs_all h 8), ordL_mem, List.take_length, mem_imgs]
theorem asc_cls {p : List Int} (h : isP p = true) : Asc (clsR p) := by
  rw [clsR_yes h, ordR_yes (imgs_all h 8)]
  exact ordL_asc _ _
theorem cls_sym {p : List Int} (h : isP p = true) {k : Nat} (hk : k < 8) : clsR (symL p k) = clsR p := by
  refine asc_unique (asc_cls (symL_isP h k)) (asc_cls h) fun x => ?_
  rw [mem_cls (symL_isP h k), mem_cls h]
  constructor
  · rintro ⟨j, hj, rfl⟩
    exact ⟨mulS k j, mulS_lt k hk j hj, (sym_sym h hk hj).symm⟩
  · rintro ⟨i, hi, rfl⟩
    obtain ⟨j, hj, e⟩ := mulS_onto k hk i hi
    exact ⟨j, hj, by rw [sym_sym h hk hj, e]⟩
/-- The number of the inverse symmetry. -/
def invS (k : Nat) : Nat := if k = 3 then 5 else if k = 5 then 3 else k
theorem mulS_inv : ∀ k, k < 8 → mulS k (invS k) = 0 := by decide
theorem invS_lt : ∀ k, k < 8 → invS k < 8 := by decide
theorem mulS_back : ∀ k, k < 8 → ∀ j, j < 8 → mulS (mulS j (invS k)) k = j := by decide
theorem mulS_zero : ∀ k, k < 8 → mulS 0 k = k := by decide
/-- Two images are the same exactly if one symmetry leaves the permutation as it is. -/
theorem sym_eq {p : List Int} (h : isP p = true) {i j : Nat} (hi : i < 8) (hj : j < 8) : symL p i = symL p j ↔ symL p (mulS j (invS i)) = p := by
  have hii := invS_lt i hi
  constructor
  · intro e
    rw [← sym_sym h hj hii, ← e, sym_sym h hi hii, mulS_inv i hi]
    exact (sym_list p).1
  · intro e
    have h2 := mulS_lt j hj _ hii
    have h3 := sym_sym h h2 hi
    rw [e, mulS_back i hi j hj] at h3
    exact h3
/-- The numbers of the first images. -/
def firsts (e : Nat → Bool) : List Nat := (List.range 8).filter fun j => (List.range j).all fun i => !e (mulS j (invS i))
def tab (b0 b1 b2 b3 b4 b5 b6 b7 : Bool) (k : Nat) : Bool := [b0, b1, b2, b3, b4, b5, b6, b7].getD k false
theorem div8 : ∀ b1 b2 b3 b4 b5 b6 b7 : Bool, (∀ i, i < 8 → ∀ j, j < 8 → tab true b1 b2 b3 b4 b5 b6 b7 i = true → tab true b1 b2 b3 b4 b5 b6 b7 j = true → tab true b1 b2 b3 b4 b5 b6 b7 (mulS i j) = true) →
    8 % (firsts (tab true b1 b2 b3 b4 b5 b6 b7)).length = 0 := by decide +kernel
theorem cls_div {p : List Int} (h : isP p = true) : 0 < (clsR p).length ∧ 8 % (clsR p).length = 0 := by
  refine ⟨List.length_pos_iff.2 (clsR_ne h), ?_⟩
  obtain ⟨e, he⟩ : ∃ e : Nat → Bool, e = fun k => decide (symL p k = p) := ⟨_, rfl⟩
  have hE : ∀ k, e k = true ↔ symL p k = p := fun k => by rw [he]; simp
  -- the first images are the class
  have hperm : (clsR p).Perm ((firsts e).map fun j => symL p j) := by
    have hn1 : (clsR p).Nodup := by
      rw [List.nodup_iff_pairwise_ne]
      exact (asc_cls h).imp fun hab e => by subst e; rw [befL_irrefl] at hab; cases hab
    have hn2 : ((firsts e).map fun j => symL p j).Nodup := by
      rw [List.nodup_iff_pairwise_ne, List.pairwise_map]
      unfold firsts
      have hlt : ((List.range 8).filter fun j => (List.range j).all fun i => !e (mulS j (invS i))).Pairwise (· < ·) := List.pairwise_lt_range.sublist List.filter_sublist
      refine hlt.imp_of_mem fun {i j} hi hj hij heq => ?_
      have hi8 := List.mem_range.1 (List.mem_filter.1 hi).1
      have hj8 := List.mem_range.1 (List.mem_filter.1 hj).1
      have hall := (List.mem_filter.1 hj).2
      rw [List.all_eq_true] at hall
      have h2 := hall i (List.mem_range.2 hij)
      have h3 := (hE _).2 ((sym_eq h hi8 hj8).1 heq)
      rw [h3] at h2
      cases h2
    refine (List.perm_ext_iff_of_nodup hn1 hn2).2 fun x => ?_
    rw [mem_cls h, List.mem_map]
    constructor
    · rintro ⟨j, hj, rfl⟩
      -- the least number with this image
      have hleast : ∀ n, ∀ j, j ≤ n → j < 8 → ∃ i, i ∈ firsts e ∧ symL p i = symL p j := fun n => by
        induction n with
        | zero =>
          intro j hj _
          obtain rfl : j = 0 := by omega
          exact ⟨0, by simp [firsts, List.mem_filter], rfl⟩
        | succ n ih =>
          intro j hj hj8
          by_cases hf : j ∈ firsts e
          · exact ⟨j, hf, rfl⟩
          · have : ∃ i, i < j ∧ e (mulS j (invS i)) = true := by
              refine Classical.byContradiction fun hc => hf ?_
              refine List.mem_filter.2 ⟨List.mem_range.2 hj8, ?_⟩
              rw [List.all_eq_true]
              intro i hi
              cases hb : e (mulS j (invS i)) with
              | false => rfl
              | true => exact absurd ⟨i, List.mem_range.1 hi, hb⟩ hc
            obtain ⟨i, hij, hb⟩ := this
            obtain ⟨i', h1, h2⟩ := ih i (by omega) (by omega)
            exact ⟨i', h1, h2.trans ((sym_eq h (by omega) hj8).2 ((hE _).1 hb))⟩
      obtain ⟨i, h1, h2⟩ := hleast j j (Nat.le_refl _) hj
      exact ⟨i, h1, h2⟩
    · rintro ⟨i, hi, rfl⟩
      exact ⟨i, List.mem_range.1 (List.mem_filter.1 hi).1, rfl⟩
  rw [hperm.length_eq, List.length_map]
  -- the numbers that leave p as it is are closed
  have hclosed : ∀ i, i < 8 → ∀ j, j < 8 → e i = true → e j = true → e (mulS i j) = true := fun i hi j hj h1 h2 => by
    rw [hE] at h1 h2 ⊢
    rw [← sym_sym h hi hj, h1, h2]
  have htab : ∀ k, k < 8 → tab true (e 1) (e 2) (e 3) (e 4) (e 5) (e 6) (e 7) k = e k := fun k hk => by
    have e0 : e 0 = true := (hE 0).2 (sym_list p).1
    rcases (show k = 0 ∨ k = 1 ∨ k = 2 ∨ k = 3 ∨ k = 4 ∨ k = 5 ∨ k = 6 ∨ k = 7 by omega) with rfl | rfl | rfl | rfl | rfl | rfl | rfl | rfl
    · exact e0.symm
    all_goals rfl
  have hfe : firsts e = firsts (tab true (e 1) (e 2) (e 3) (e 4) (e 5) (e 6) (e 7)) := by
    unfold firsts
    refine List.filter_congr fun j hj => ?_
    have hj8 := List.mem_range.1 hj
    rw [Bool.eq_iff_iff, List.all_eq_true, List.all_eq_true]
    refine forall_congr' fun i => ?_
    constructor
    · intro h1 hi
      rw [htab _ (mulS_lt j hj8 _ (invS_lt i (by have := List.mem_range.1 hi; omega)))]
      exact h1 hi
    · intro h1 hi
      rw [← htab _ (mulS_lt j hj8 _ (invS_lt i (by have := List.mem_range.1 hi; omega)))]
      exact h1 hi
  rw [hfe]
  refine div8 _ _ _ _ _ _ _ fun i hi j hj h1 h2 => ?_
  rw [htab i hi] at h1
  rw [htab j hj] at h2
  rw [htab _ (mulS_lt i hi j hj)]
  exact hclosed i hi j hj h1 h2
end Go.Proofs.Ytplchjeamooliaa


/-
  PLAIN: the places of a part; occurrences in the reverse and in the inverse are as many.
-/

namespace Go.Proofs.Ytplchjeamooliaa
set_option maxRecDepth 100000

/-! lists of lists without repetition -/
theorem asc_nodup {l : List (List Int)} (h : Asc l) : l.Nodup := by
  rw [List.nodup_iff_pairwise_ne]
  exact h.imp fun {a b} h e => by rw [e, befL_irrefl] at h; exact absurd h Bool.false_ne_true
theorem subL_erase {a : List Int} {l m : List (List Int)} (hnd : (a :: l).Nodup) (h : ∀ x ∈ a :: l, x ∈ m) : ∀ x ∈ l, x ∈ m.erase a := fun x hx => by
  have hne : x ≠ a := fun e => by subst e; exact (List.nodup_cons.1 hnd).1 hx
  exact (List.mem_erase_of_ne hne).2 (h x (by simp [hx]))
theorem pigeonL_le : ∀ {l m : List (List Int)}, l.Nodup → (∀ x ∈ l, x ∈ m) → l.length ≤ m.length
  | [], _, _, _ => Nat.zero_le _
  | a :: l, m, hnd, h => by
    have ha := h a (by simp)
    have h1 := pigeonL_le (List.nodup_cons.1 hnd).2 (subL_erase hnd h)
    have h2 := List.length_pos_of_mem ha
    rw [List.length_erase_of_mem ha] at h1
    rw [List.length_cons]; omega
/-- A list that is told apart into another one is not longer. -/
theorem inject_le {l m : List (List Int)} (f : List Int → List Int) (hl : l.Nodup) (h : ∀ x ∈ l, f x ∈ m) (hf : ∀ x ∈ l, ∀ y ∈ l, f x = f y → x = y) : l.length ≤ m.length := by
  have hn : (l.map f).Nodup := by
    rw [List.nodup_iff_pairwise_ne, List.pairwise_map]
    refine List.Pairwise.imp_of_mem (fun {a b} ha hb hne e => hne (hf a ha b hb e)) (List.nodup_iff_pairwise_ne.1 hl)
  have := pigeonL_le hn (m := m) fun x hx => by
    obtain ⟨y, hy, rfl⟩ := List.mem_map.1 hx
    exact h y hy
  rwa [List.length_map] at this

/-! the reverse -/
theorem cnt_rev (l : List Int) (v : Int) : cnt l.reverse v = cnt l v := by unfold cnt; rw [List.filter_reverse, List.length_reverse]
theorem patL_rev (l : List Int) : patL l.reverse = (patL l).reverse := by
  unfold patL
  rw [List.map_reverse]
  congr 1
  exact List.map_congr_left fun x _ => by rw [cnt_rev]
def plRev (n : Nat) (pl : List Int) : List Int := (pl.map fun x => (n : Int) + 1 - x).reverse
theorem plRev_ok {n : Nat} {pl : List Int} (h : PlOK n pl) : PlOK n (plRev n pl) := by
  refine ⟨fun x hx => ?_, ?_⟩
  · unfold plRev at hx
    rw [List.mem_reverse, List.mem_map] at hx
    obtain ⟨y, hy, rfl⟩ := hx
    have := h.1 y hy; omega
  · unfold plRev
    rw [List.pairwise_reverse, List.pairwise_map]
    exact h.2.imp fun h => by omega
theorem plRev_back (n : Nat) (pl : List Int) : plRev n (plRev n pl) = pl := by
  unfold plRev
  rw [List.map_reverse, List.reverse_reverse, List.map_map]
  rw [show ((fun x => (n : Int) + 1 - x) ∘ fun x => (n : Int) + 1 - x) = id by funext x; simp only [Function.comp, id]; omega]
  exact List.map_id pl
theorem at0_rev {l : List Int} {i : Nat} (h : i < l.length) : at0 l.reverse i = at0 l (l.length - 1 - i) := at0_of (by rw [List.getElem?_reverse h]; exact at0_some (by omega))
theorem nums_rev {p pl : List Int} (h : PlOK p.length pl) : nums p.reverse (plRev p.length pl) = (nums p pl).reverse := by
  unfold nums plRev
  rw [List.map_reverse, List.map_map]
  congr 1
  refine List.map_congr_left fun x hx => ?_
  have := h.1 x hx
  simp only [Function.comp]
  rw [at0_rev (by omega)]
  congr 1; omega
theorem occ_rev {p q pl : List Int} (h : pl ∈ occR p q) : plRev p.length pl ∈ occR p.reverse q.reverse := by
  rw [mem_occ, isOcc_iff] at h ⊢
  obtain ⟨h1, h2, h3, h4, h5⟩ := h
  refine ⟨isP_rev h1, isP_rev h2, by rw [plRev, List.length_reverse, List.length_map, List.length_reverse, h3], by rw [List.length_reverse]; exact plRev_ok h4, ?_⟩
  rw [nums_rev h4, patL_rev, h5]
theorem occ_rev_le (p q : List Int) : (occR p q).length ≤ (occR p.reverse q.reverse).length :=
  inject_le (plRev p.length) (asc_nodup (occ_asc p q)) (fun _ h => occ_rev h) fun x _ y _ e => by rw [← plRev_back p.length x, e, plRev_back]
theorem occ_rev_len (p q : List Int) : (occR p.reverse q.reverse).length = (occR p q).length := by
  have h1 := occ_rev_le p q
  have h2 := occ_rev_le p.reverse q.reverse
  rw [List.reverse_reverse, List.reverse_reverse] at h2
  omega

/-! the inverse -/
/-- The places in the inverse: the numbers at the places, in ascending order. -/
def plInv (p q pl : List Int) : List Int := (List.range q.length).map fun j => at0 (nums p pl) ((at0 (invL q) j).toNat - 1)
theorem plInv_length (p q pl : List Int) : (plInv p q pl).length = q.length := by simp [plInv]
theorem plInv_at {p q pl : List Int} {j : Nat} (h : j < q.length) : at0 (plInv p q pl) j = at0 (nums p pl) ((at0 (invL q) j).toNat - 1) := at0_of (by unfold plInv; rw [List.getElem?_map, List.getElem?_range h]; rfl)
/-- A place of the inverse: where the number stands. -/
theorem inv_at {q : List Int} (hq : isP q = true) {j : Nat} (hj : j < q.length) : ∃ i, i < q.length ∧ at0 q i = (j : Int) + 1 ∧ at0 (invL q) j = (i : Int) + 1 := by
  obtain ⟨i, hi, h1, h2⟩ := invL_get hq hj
  exact ⟨i, hi, at0_of h1, at0_of h2⟩
theorem inv_val {p : List Int} (hp : isP p = true) {i : Nat} (hi : i < p.length) : at0 (invL p) ((at0 p i).toNat - 1) = (i : Int) + 1 := at0_of (invL_at hp hi (at0_some hi))
theorem rng_at {p : List Int} (hp : isP p = true) {i : Nat} (hi : i < p.length) : 1 ≤ at0 p i ∧ at0 p i ≤ (p.length : Int) := isP_range hp (at0_some hi)
theorem plOK_of {n : Nat} {l : List Int} (h1 : ∀ i, i < l.length → 1 ≤ at0 l i ∧ at0 l i ≤ (n : Int)) (h2 : ∀ i j, i < j → j < l.length → at0 l i < at0 l j) : PlOK n l := by
  refine ⟨fun x hx => ?_, List.pairwise_iff_getElem.2 fun i j hi hj hij => ?_⟩
  · obtain ⟨i, hi, rfl⟩ := List.getElem_of_mem hx
    have := h1 i hi
    rwa [at0_of (List.getElem?_eq_getElem hi)] at this
  · have := h2 i j hij hj
    rwa [at0_of (List.getElem?_eq_getElem hi), at0_of (List.getElem?_eq_getElem hj)] at this
theorem occ_inv {p q pl : List Int} (h : pl ∈ occR p q) : plInv p q pl ∈ occR (invL p) (invL q) ∧ ∀ i, i < pl.length → at0 (nums (invL p) (plInv p q pl)) ((at0 q i).toNat - 1) = at0 pl i := by
  rw [mem_occ, isOcc_iff] at h
  obtain ⟨h1, h2, h3, h4, h5⟩ := h
  have ha := (pat_eq_iff h2).1 h5
  have hnl := nums_length p pl
  have hv : ∀ i, i < pl.length → 1 ≤ at0 (nums p pl) i ∧ at0 (nums p pl) i ≤ (p.length : Int) := fun i hi => by
    have := h4.rng hi
    rw [nums_at0 hi]
    exact rng_at h1 (by omega)
  have hok : PlOK (invL p).length (plInv p q pl) := by
    rw [invL_length]
    refine plOK_of (fun i hi => ?_) fun i j hij hj => ?_
    · rw [plInv_length] at hi
      rw [plInv_at hi]
      obtain ⟨k, hk, _, e⟩ := inv_at h2 hi
      rw [e]
      have := hv k (by omega)
      rwa [show ((k : Int) + 1).toNat - 1 = k by omega]
    · rw [plInv_length] at hj
      rw [plInv_at (show i < q.length by omega), plInv_at hj]
      obtain ⟨k, hk, e1, e⟩ := inv_at h2 (show i < q.length by omega)
      obtain ⟨k', hk', e1', e'⟩ := inv_at h2 hj
      rw [e, e', show ((k : Int) + 1).toNat - 1 = k by omega, show ((k' : Int) + 1).toNat - 1 = k' by omega]
      rw [ha.2 k k' (by omega) (by omega), e1, e1']
      omega
  have hback : ∀ j, j < q.length → at0 (nums (invL p) (plInv p q pl)) j = at0 pl ((at0 (invL q) j).toNat - 1) := fun j hj => by
    rw [nums_at0 (by rw [plInv_length]; exact hj), plInv_at hj]
    obtain ⟨k, hk, _, e⟩ := inv_at h2 hj
    rw [e, show ((k : Int) + 1).toNat - 1 = k by omega, nums_at0 (by omega)]
    have := h4.rng (i := k) (by omega)
    rw [inv_val h1 (by omega)]
    omega
  refine ⟨?_, fun i hi => ?_⟩
  · rw [mem_occ, isOcc_iff]
    refine ⟨invL_isP h1, invL_isP h2, by rw [plInv_length, invL_length], hok, ?_⟩
    rw [pat_eq_iff (invL_isP h2)]
    refine ⟨by rw [nums_length, plInv_length, invL_length], fun i j hi hj => ?_⟩
    rw [nums_length, plInv_length] at hi hj
    rw [hback i hi, hback j hj]
    obtain ⟨k, hk, _, e⟩ := inv_at h2 hi
    obtain ⟨k', hk', _, e'⟩ := inv_at h2 hj
    rw [e, e', show ((k : Int) + 1).toNat - 1 = k by omega, show ((k' : Int) + 1).toNat - 1 = k' by omega]
    rcases Nat.lt_trichotomy k k' with hh | hh | hh
    · have := h4.mono hh (by omega); omega
    · subst hh; omega
    · have := h4.mono hh (by omega); omega
  · have hr := rng_at h2 (show i < q.length by omega)
    rw [hback _ (by omega), inv_val h2 (by omega), show ((i : Int) + 1).toNat - 1 = i by omega]
theorem occ_inv_le (p q : List Int) : (occR p q).length ≤ (occR (invL p) (invL q)).length :=
  inject_le (plInv p q) (asc_nodup (occ_asc p q)) (fun _ h => (occ_inv h).1) fun x hx y hy e => by
    have h1 := (isOcc_iff.1 (mem_occ.1 hx)).2.2.1
    have h2 := (isOcc_iff.1 (mem_occ.1 hy)).2.2.1
    refine ext_at0 (by omega) fun i hi => ?_
    rw [← (occ_inv hx).2 i hi, e, (occ_inv hy).2 i (by omega)]
theorem occ_inv_len {p q : List Int} (hp : isP p = true) (hq : isP q = true) : (occR (invL p) (invL q)).length = (occR p q).length := by
  have h1 := occ_inv_le p q
  have h2 := occ_inv_le (invL p) (invL q)
  rw [inv_inv hp, inv_inv hq] at h2
  omega

/-! a part of a permutation -/
theorem nums_up (a : Int) (l pl : List Int) (h : ∀ x ∈ pl, 1 ≤ x) : nums (a :: l) (pl.map fun x => x + 1) = nums l pl := by
  unfold nums
  rw [List.map_map]
  refine List.map_congr_left fun x hx => ?_
  have := h x hx
  simp only [Function.comp]
  rw [show (x + 1).toNat - 1 = x.toNat - 1 + 1 by omega, at0_succ]
theorem plOK_up {n : Nat} {pl : List Int} (h : PlOK n pl) : PlOK (n + 1) (pl.map fun x => x + 1) := by
  refine ⟨fun x hx => ?_, ?_⟩
  · obtain ⟨y, hy, rfl⟩ := List.mem_map.1 hx
    have := h.1 y hy; omega
  · rw [List.pairwise_map]
    exact h.2.imp fun h => by omega
theorem places_of {s l : List Int} (h : s.Sublist l) : ∃ pl, PlOK l.length pl ∧ nums l pl = s := by
  induction h with
  | slnil => exact ⟨[], PlOK.nil _, rfl⟩
  | cons a _ ih =>
    obtain ⟨pl, h1, h2⟩ := ih
    exact ⟨_, by rw [List.length_cons]; exact plOK_up h1, by rw [nums_up a _ pl fun x hx => (h1.1 x hx).1, h2]⟩
  | cons_cons a _ ih =>
    obtain ⟨pl, h1, h2⟩ := ih
    refine ⟨1 :: pl.map fun x => x + 1, ?_, ?_⟩
    · rw [List.length_cons]
      have h3 := plOK_up h1
      refine ⟨fun x hx => ?_, List.pairwise_cons.2 ⟨fun x hx => ?_, h3.2⟩⟩
      · rcases List.mem_cons.1 hx with rfl | hx
        · omega
        · exact h3.1 x hx
      · obtain ⟨y, hy, rfl⟩ := List.mem_map.1 hx
        have := h1.1 y hy; omega
    · have h3 := (nums_up a _ pl fun x hx => (h1.1 x hx).1).trans h2
      unfold nums at h3 ⊢
      rw [List.map_cons, h3]; rfl
theorem occ_sub {p s : List Int} (hp : isP p = true) (h : s.Sublist p) (hs : isP (patL s) = true) : 0 < (occR p (patL s)).length := by
  obtain ⟨pl, h1, h2⟩ := places_of h
  refine List.length_pos_of_mem (a := pl) ?_
  rw [mem_occ, isOcc_iff]
  exact ⟨hp, hs, by rw [patL_length, ← h2, nums_length], h1, by rw [h2]⟩
end Go.Proofs.Ytplchjeamooliaa


/-
  spec.PatternOf and impl.PatternOf, by their contracts.
-/

namespace Go.Proofs.Ytplchjeamooliaa
set_option maxRecDepth 100000
open Go.RowKit

theorem bit_true (w : World) : Calls Try.prog 92 #[.bool true] w fun e w' => e = .returned (.int .i64 1) ∧ w' = w := by
  go_enter Try.func92, Try.ntmps92
  go_wp2
  go_ret
  exact ⟨rfl, rfl⟩
theorem bit_false (w : World) : Calls Try.prog 92 #[.bool false] w fun e w' => e = .returned (.int .i64 0) ∧ w' = w := by
  go_enter Try.func92, Try.ntmps92
  go_wp2
  go_ret
  exact ⟨rfl, rfl⟩
theorem cnt_at {zs : List Int} {k : Nat} {x v : Int} (h : zs[k]? = some x) : cnt (zs.take (k + 1)) v = cnt (zs.take k) v + if x < v then 1 else 0 := by rw [take_snoc_i h, cnt_snoc]

set_option maxHeartbeats 400000 in
theorem less_any (A : Option Addr) (n c B : Nat) (zs : List Int) (v : Int) (w : World) (h : Arg w B A n c zs) :
    Calls Try.prog 127 #[.slice A n c, .int .i64 v] w fun e w' => e = .returned (.int .i64 (cnt zs v : Int)) ∧ w = w' := by
  have hl := h.len
  have hn := h.le
  have hr := h.reads
  have HL := hide hl
  clear h hl
  go_enter Try.func127, Try.ntmps127
  go_wp2
  go_loop [5, 7, 10] (fun m _ i => ∃ k : Nat, k ≤ n ∧ i = .int .i64 k ∧ m = .int .i64 (cnt (zs.take k) v : Int)) (fun _ _ i => n - (intOf i).toNat)
  case atStart => exact ⟨0, Nat.zero_le _, rfl, rfl⟩
  case round =>
    obtain ⟨k, hk, rfl, rfl⟩ := hrel
    have hle := cnt_le (zs.take k) v
    have hle2 : cnt (zs.take k) v ≤ 1048576 := by have := List.length_take_le k zs; omega
    clear hle
    by_cases hlt : k < n
    · obtain ⟨ad, u, rfl, _, hu, hc⟩ := hr.at_ hlt
      obtain ⟨x, hx, rfl⟩ := i64_at hu
      have hstep := hide (cnt_at (v := v) hx)
      clear hu hx hr
      by_cases hxv : x < v
      · go_wp2
        go_round
        case rel => exact ⟨k + 1, by omega, by go_num, by rw [unhide hstep, if_pos hxv]; go_num⟩
        case measure => simp [intOf]; omega
      · go_wp2
        go_round
        case rel => exact ⟨k + 1, by omega, by go_num, by rw [unhide hstep, if_neg hxv]; rfl⟩
        case measure => simp [intOf]; omega
    · obtain rfl : n = k := by omega
      have e : zs.take n = zs := List.take_of_length_le (by rw [unhide HL]; exact Nat.le_refl _)
      rw [e] at hle2 ⊢
      clear e
      go_wp2
      go_ret
      exact ⟨rfl, rfl⟩

set_option maxHeartbeats 800000 in
theorem l2pat_any (A : Option Addr) (n c B : Nat) (zs : List Int) (w : World) (h : Arg w B A n c zs) (hn8 : n ≤ 8) :
    Calls Try.prog 96 #[.slice A n c] w (GivesI w (patL zs)) := by
  obtain ⟨i0, hi, hz0, hz1, hz2⟩ := info_parts intInfo
  have hl := h.len
  have hr := h.reads
  have hB := h.under
  have HL := hide hl
  have hst := own0 w w.heap.size (Nat.le_refl _)
  have hbel := (Below.refl w.heap.size w).alloc (Nat.le_refl _) (.cells #[] 3)
  clear h hl
  go_enter Try.func96, Try.ntmps96
  go_wp2
  go_loopw [3, 4, 5, 6] (fun o i _ _ wr => ∃ k : Nat, k ≤ n ∧ i = .int .i64 k ∧ Below w.heap.size w wr ∧ wr.ownsRow w.heap.size 3 1 o k (i64s ((patL zs).take k))) (fun _ i _ _ _ => n - (intOf i).toNat)
  case atStart => exact ⟨0, Nat.zero_le _, rfl, hbel, hst⟩
  case round =>
    obtain ⟨k, hk, rfl, hbw, hown⟩ := hrel
    clear hst hbel
    by_cases hlt : k < n
    · obtain ⟨ad, u, rfl, _, hu, hc⟩ := ((hr.more hB).below hbw).at_ hlt
      obtain ⟨v, hv, rfl⟩ := i64_at hu
      have HV := hide hv
      clear hu hv
      obtain ⟨wo, rfl⟩ : ∃ wo : World, wo = wr := ⟨_, rfl⟩
      go_wp2
      go_loopw [5, 6] (fun m i wi => ∃ j : Nat, j ≤ n ∧ i = .int .i64 j ∧ m = .int .i64 (1 + (cnt (zs.take j) v : Int)) ∧ Drew wo wi) (fun _ i _ => n - (intOf i).toNat)
      case atStart => exact ⟨0, Nat.zero_le _, rfl, rfl, Drew.refl _⟩
      case round =>
        obtain ⟨j, hj, rfl, rfl, hd⟩ := hrel
        have hle := cnt_le (zs.take j) v
        have hle2 : cnt (zs.take j) v ≤ 8 := by have := List.length_take_le j zs; omega
        clear hle
        by_cases hjt : j < n
        · obtain ⟨ad', u', he', _, hu', hc'⟩ := (((hr.more hB).below hbw).ofDrew hd).at_ hjt
          obtain rfl : ad = ad' := Option.some.inj he'
          clear he'
          obtain ⟨x, hx, rfl⟩ := i64_at hu'
          have hstep := hide (cnt_at (v := v) hx)
          have hcv := (hd.cell _).trans hc
          have HD := hide hd
          have HR := hide hr
          have HO := hide hown
          have HBW := hide hbw
          clear hu' hx hd hr hown hbw hc
          obtain ⟨m, hm⟩ : ∃ m, m = cnt (zs.take j) v := ⟨_, rfl⟩
          rw [← hm] at hle2 hstep ⊢
          clear hm
          have w1 : IntKind.i64.wrap (1 + (m : Int) + 1) = 1 + (m : Int) + 1 := IntWalk.i64_in _ (by omega)
          have w0 : IntKind.i64.wrap (1 + (m : Int)) = 1 + (m : Int) := IntWalk.i64_in _ (by omega)
          by_cases hxv : x < v
          · go_wp2
            go_quiet ((go_at_call 92; exact Calls.quiet_of_same (bit_true _)))
            clear w1 w0
            go_wp2
            go_roundw
            case rel => exact ⟨j + 1, by omega, by go_num, by rw [unhide hstep, if_pos hxv]; go_num, (unhide HD).more _⟩
            case measure => simp [intOf]; omega
          · have hdf : decide (x < v) = false := by simpa using hxv
            go_wp2
            go_quiet ((go_at_call 92; exact Calls.quiet_of_same (bit_false _)))
            clear w1 w0
            go_wp2
            go_roundw
            case rel => exact ⟨j + 1, by omega, by go_num, by rw [unhide hstep, if_neg (by omega)]; rfl, (unhide HD).more _⟩
            case measure => simp [intOf]; omega
        · obtain rfl : n = j := by omega
          have e : zs.take n = zs := List.take_of_length_le (by rw [unhide HL]; exact Nat.le_refl _)
          rw [e] at hle2 ⊢
          clear e
          have hownA := own_below hown (hd.below _)
          have hbwA := hbw.trans (hd.below _)
          have e2 : i64s ((patL zs).take k) ++ [.int .i64 (1 + (cnt zs v : Int))] = i64s ((patL zs).take (k + 1)) := by rw [patL_take (unhide HV)]; unfold i64s; simp
          have HE := hide e2
          clear e2 hd hown hbw hc
          go_wp2_with (first
            | (at_builtin; refine wpList_append_one rfl (.tmp 32) (.tmp 34) 29 rfl w.heap.size 3 i0 (.int .i64 0) 8 Try.underlying29 hi hz0 hz1 hz2 rfl w _ _ _ _ rfl hownA (.int .i64 (1 + (cnt zs v : Int))) rfl rfl rfl (by omega) (by simp only [maxLen]; omega) hbwA hbwA.size ?_; intro v2 w2 hown2 hb2 hg2; clear hg2))
          rw [unhide HE] at hown2
          clear hownA hbwA HE
          go_roundw
          case rel => exact ⟨k + 1, by omega, by go_num, hb2, hown2⟩
          case measure => simp [intOf]; omega
    · obtain rfl : n = k := by omega
      have e : (patL zs).take n = patL zs := List.take_of_length_le (by rw [patL_length, unhide HL]; exact Nat.le_refl _)
      rw [e] at hown
      have hI : Ints wr w.heap.size u3 (patL zs) := Ints.of_own hown
      clear hown e
      go_wp2
      go_ret
      exact GivesI.mk hI hbw

set_option maxHeartbeats 800000 in
theorem ipat_any (A : Option Addr) (n c B : Nat) (zs : List Int) (b : Bool) (hb : patOK zs = b) (w : World) (h : Arg w B A n c zs) :
    Calls Try.prog 122 #[.slice A n c] w (GivesIB w (patR zs) b) := by
  obtain ⟨i0, hi, hz0, hz1, hz2⟩ := info_parts intInfo
  have hl := h.len
  have hr := h.reads
  have hB := h.under
  by_cases h8 : n ≤ 8
  · have h8' : ¬ 8 < n := by omega
    have h8b : decide ((8 : Int) < (n : Int)) = false := by simp; omega
    have H2 := hide (fun v w' (hb' : Below w.heap.size w w') => less_any A n c B zs v w' (h.below hb'))
    have HL := hide hl
    have HB := hide hb
    have HC := hide (fun v => cnt_le zs v)
    clear h hl hb
    go_enter Try.func122, Try.ntmps122
    go_wp2_with (first
      | (at_make; refine wpList_make_full _ rfl (.tmp 11) (.tmp 11) 29 rfl w.heap.size 3 i0 (.int .i64 0) 1 Try.underlying29 hi hz0 hz1 _ _ _ _ n rfl rfl (by first | rfl | omega) (by first | rfl | omega) (by rw [hz2]; omega) (by unfold maxLen; omega) (Nat.le_refl _) ?_; intro w1 hown hg))
    have hb1 := (Below.refl w.heap.size w).grown hg (Nat.le_refl _) (by simp)
    clear hg
    go_loopw [5, 6, 15] (fun _ _ i wr => ∃ (k : Nat) (xs : List Value), k ≤ n ∧ i = .int .i64 k ∧ Below w.heap.size w wr ∧ wr.ownsRow w.heap.size 3 1 (.slice (some ⟨w.heap.size, 0, none⟩) n n) n xs ∧ Hid (xs.take k = (i64s (patL zs)).take k)) (fun _ _ i _ => n - (intOf i).toNat)
    case atStart => exact ⟨0, _, Nat.zero_le _, rfl, hb1, hown, by exact rfl⟩
    case round =>
      obtain ⟨k, xs, hk, rfl, hb, hown', hx⟩ := hrel
      clear hown hb1
      have hlx : xs.length = n := by simpa using hown'.1
      by_cases hlt : k < n
      · obtain ⟨ad, u, rfl, had, hu, hc⟩ := ((hr.more hB).below hb).at_ hlt
        obtain ⟨z, hz, rfl⟩ := i64_at hu
        obtain ⟨old, hold⟩ : ∃ old, wr.cell? ⟨w.heap.size, k, none⟩ = some old := ⟨_, by rw [hown'.cellAt k (by omega)]; exact List.getElem?_eq_getElem (by omega)⟩
        have hfz := hown'.frozenAt k
        have hle : cnt zs z ≤ 8 := by have := unhide HC z; rw [unhide HL] at this; omega
        have hst := hide (take_set_i (unhide hx) (i64_get (patL_at hz)) (by omega))
        have ho2 := (hown'.stored k (.int .i64 (1 + (cnt zs z : Int)))).1
        have hb2 := below_set_i hb hown' k (.int .i64 (1 + (cnt zs z : Int)))
        have H3 := hide (unhide H2 z wr hb)
        clear hx hlx hu hz hown' hb H2
        go_wp2_with fail
        refine (unhide H3).mono ?_
        rintro e w' ⟨rfl, rfl⟩
        clear H3
        go_wp2
        go_roundw
        case rel => exact ⟨k + 1, _, by omega, by go_num, hb2, ho2, hst⟩
        case measure => simp [intOf]; omega
      · obtain rfl : n = k := by omega
        have : xs = i64s (patL zs) := by
          have h := unhide hx
          rwa [List.take_of_length_le (by omega), List.take_of_length_le (by rw [i64_length, patL_length, unhide HL]; exact Nat.le_refl _)] at h
        subst this
        have hI : Ints wr w.heap.size (.slice (some ⟨w.heap.size, 0, none⟩) n n) (patL zs) := Ints.of_own hown'
        have hsm : Small (patL zs) := fun x hx => by
          have := patL_range x hx
          rw [unhide HL] at this
          omega
        have H4 := hide (iisperm_any _ n n _ (patL zs) b ((isP_pat zs).trans (unhide HB)) wr hI.reads (Nat.le_refl _) (by omega) hsm)
        clear hx hlx hown' H2 hsm
        cases b with
        | true =>
          have HR := hide (patR_yes (unhide HB))
          go_wp2_with fail
          refine (unhide H4).mono ?_
          rintro e w2 ⟨rfl, hb2⟩
          have hI2 := hI.below hb2
          rw [← unhide HR] at hI2
          clear H4
          go_wp2
          go_ret2
          exact GivesIB.mk true hI2 (below_after hb hb2)
        | false =>
          have HR := hide (patR_no (unhide HB))
          go_wp2_with fail
          refine (unhide H4).mono ?_
          rintro e w2 ⟨rfl, hb2⟩
          clear H4
          go_wp2
          go_ret2
          exact GivesIB.mk (v := .slice none 0 0) false (by rw [unhide HR]; exact Ints.nil _ _) (below_after hb hb2)
  · have hno := patOK_no8 (l := zs) (by omega)
    obtain rfl : b = false := hb.symm.trans hno
    rw [patR_no hno]
    have hn := h.le
    have h8' : 8 < n := by omega
    have h8b : decide ((8 : Int) < (n : Int)) = true := by simp; omega
    clear hb hno h hl hr
    go_enter Try.func122, Try.ntmps122
    go_wp2
    go_ret2
    exact GivesIB.mk (v := .slice none 0 0) false (Ints.nil _ _) (Below.refl _ _)
end Go.Proofs.Ytplchjeamooliaa


/-
  spec.l7Without, spec.WithoutPlace, spec.LowersOf, by their contracts.
-/

namespace Go.Proofs.Ytplchjeamooliaa
set_option maxRecDepth 100000
open Go.RowKit

theorem place_nat' {n : Nat} {x : Int} (h : 1 ≤ x ∧ x ≤ (n : Int)) : ∃ X : Nat, x = ((X + 1 : Nat) : Int) ∧ X < n := ⟨x.toNat - 1, by omega, by omega⟩
/-- A list without the number at index k. -/
def cutAt (p : List Int) (k : Nat) : List Int := p.take k ++ p.drop (k + 1)
theorem cutAt_len {p : List Int} {k : Nat} (h : k < p.length) : (cutAt p k).length + 1 = p.length := by
  unfold cutAt
  rw [List.length_append, List.length_take, List.length_drop]; omega
theorem cutAt_sub (p : List Int) (k : Nat) : (cutAt p k).Sublist p := by
  have h : (p.take k ++ p.drop (k + 1)).Sublist (p.take k ++ p.drop k) := (List.Sublist.refl _).append (by
    rw [← List.drop_drop]; exact List.drop_sublist _ _)
  rwa [List.take_append_drop] at h
theorem cutAt_isP {p : List Int} (hp : isP p = true) (k : Nat) : isP (patL (cutAt p k)) = true := by
  rw [isP_pat]
  have h := isP_true.1 hp
  exact patOK_yes (Nat.le_trans (cutAt_sub p k).length_le (isP_le hp)) (h.2.2.sublist (cutAt_sub p k))

set_option maxHeartbeats 1600000 in
theorem l7without_any (A : Option Addr) (n c B : Nat) (zs : List Int) (k : Nat) (w : World) (h : Arg w B A n c zs) (hn8 : n ≤ 8) (hk : k < n) :
    Calls Try.prog 82 #[.slice A n c, .int .i64 k] w (GivesI w (patL (cutAt zs k))) := by
  have hl := h.len
  have hcap := h.cap
  obtain ⟨ad, rfl⟩ : ∃ ad, A = some ad := by
    obtain ⟨ad, u, hA, _⟩ := h.reads.at_ hk
    exact ⟨ad, hA⟩
  have hA1 := h.cut (f := 0) (m := k) (by omega)
  rw [show ad.add 0 = ad by unfold Addr.add; split <;> simp_all, Nat.sub_zero, List.drop_zero] at hA1
  have hbd0 : (0 : Int) ≤ (k : Int) + 1 := by omega
  have hbd1 : (k : Int) + 1 ≤ (n : Int) := by omega
  have hbd2 : (k : Int) ≤ (c : Int) := by omega
  have hbd3 : (k : Int) + 1 ≤ (c : Int) := by omega
  have hw1 : IntKind.i64.wrap ((k : Int) + 1) = (k : Int) + 1 := by rw [IntKind.wrap_i64]; omega
  have hbd4 : (n : Int) ≤ (c : Int) := by omega
  have hbd5 : (0 : Int) ≤ (k : Int) := by omega
  have hsm := h.small
  have hst := own0 w w.heap.size (Nat.le_refl _)
  have hbel := (Below.refl w.heap.size w).alloc (Nat.le_refl _) (.cells #[] 3)
  have hs0 := hbel.size
  have HSM := hide (show Small (cutAt zs k) from fun z hz => hsm z ((cutAt_sub zs k).mem hz))
  have HCL := hide (cutAt_len (p := zs) (show k < zs.length by omega))
  have HL := hide hl
  by_cases hc : c = k + 1
  · obtain rfl := hc
    obtain rfl : n = k + 1 := by omega
    have hb6 : (k : Int) ≤ ((k + 1 : Nat) : Int) := by omega
    have hb7 : (k : Int) ≤ (k : Int) + 1 := by omega
    have hb8 : (k : Int) + 1 ≤ ((k + 1 : Nat) : Int) := by omega
    clear hbd1 hbd2 hbd3 hbd4 hcap
    have hd : zs.drop (k + 1) = [] := List.drop_of_length_le (by omega)
    have hA2 : Arg w B (some ad) 0 0 ([] : List Int) := ⟨⟨rfl, fun h => by omega⟩, h.under, by omega, Nat.le_refl _, fun z hz => by simp at hz, fun h => by cases h⟩
    have HDD := hide hd
    clear hd
    have hA1d := (hA1.below hbel).drew
    clear hA1 hl hsm h
    go_enter Try.func82, Try.ntmps82
    go_wp2
    go_region_held3 (fun _ => True) (trivial)
      (first
        | ((refine step_append_arg (by rfl) (.tmp 5) (.tmp 8) (by rfl) w.heap.size B 0 k (k + 1) w _ (some ad) [] (zs.take k) (by rfl) (by rfl) hst hA1d (by omega) hbel.drew hs0 ?_); intro v1 w1 hown1 hb1 hg1; rw [Nat.zero_add, List.nil_append] at hown1; clear hg1 hA1d hst hbel hs0; have hA3 := hA2.below hb1; have hs1 := hb1.size; clear hA2)
        | ((refine step_append_arg (by rfl) (.tmp 9) (.tmp 13) (by rfl) w.heap.size B k 0 0 w _ (some ad) (zs.take k) [] (by rfl) (by rfl) hown1 hA3 (by omega) hb1 hs1 ?_); intro v2 w2 hown2 hb2 hg2; clear hg2 hown1 hb1 hs1 hA3; have hI2 : Ints w2 w.heap.size v2 (cutAt zs k) := (by unfold cutAt; rw [unhide HDD]; exact Ints.of_own hown2); obtain ⟨A2, c2, rfl⟩ := hI2.slice; have hcl := unhide HCL; rw [unhide HL] at hcl; have H3 := hide (l2pat_any A2 _ c2 _ (cutAt zs k) w2 (hI2.arg (by omega) hI2.cap (unhide HSM)) (by omega)); clear hown2 hI2 hcl)
        | (go_simp; go_at_call 96; refine (unhide H3).mono ?_; rintro e w3 ⟨A3, c3, rfl, o3, hb3⟩; clear H3))
    have hI := o3.low hb2.size
    have hb4 := hb2.trans (hb3.mono hb2.size)
    clear o3 hb2 hb3
    go_wp2
    go_ret
    exact GivesI.mk hI hb4
  · have hA2 := h.cut (f := k + 1) (m := n - (k + 1)) (by omega)
    rw [List.take_of_length_le (by rw [List.length_drop]; omega)] at hA2
    rw [show ad.add (k + 1) = ⟨ad.block, ad.off + (k + 1), none⟩ by unfold Addr.add; rw [if_neg (by omega)]] at hA2
    have hA1d := (hA1.below hbel).drew
    clear hA1 hl hsm h
    go_enter Try.func82, Try.ntmps82
    go_wp2
    go_region_held3 (fun _ => True) (trivial)
      (first
        | ((refine step_append_arg (by rfl) (.tmp 5) (.tmp 8) (by rfl) w.heap.size B 0 k c w _ (some ad) [] (zs.take k) (by rfl) (by rfl) hst hA1d (by omega) hbel.drew hs0 ?_); intro v1 w1 hown1 hb1 hg1; rw [Nat.zero_add, List.nil_append] at hown1; clear hg1 hA1d hst hbel hs0; have hA3 := hA2.below hb1; have hs1 := hb1.size; clear hA2)
        | ((refine step_append_arg (by rfl) (.tmp 9) (.tmp 13) (by rfl) w.heap.size B k (n - (k + 1)) (c - (k + 1)) w _ (some ⟨ad.block, ad.off + (k + 1), none⟩) (zs.take k) (zs.drop (k + 1)) (by rfl) (by rfl) hown1 hA3 (by omega) hb1 hs1 ?_); intro v2 w2 hown2 hb2 hg2; clear hg2 hown1 hb1 hs1 hA3; have hI2 : Ints w2 w.heap.size v2 (cutAt zs k) := Ints.of_own hown2; obtain ⟨A2, c2, rfl⟩ := hI2.slice; have hcl := unhide HCL; rw [unhide HL] at hcl; have H3 := hide (l2pat_any A2 _ c2 _ (cutAt zs k) w2 (hI2.arg (by omega) hI2.cap (unhide HSM)) (by omega)); clear hown2 hI2 hcl)
        | (go_simp; go_at_call 96; refine (unhide H3).mono ?_; rintro e w3 ⟨A3, c3, rfl, o3, hb3⟩; clear H3))
    have hI := o3.low hb2.size
    have hb4 := hb2.trans (hb3.mono hb2.size)
    clear o3 hb2 hb3
    go_wp2
    go_ret
    exact GivesI.mk hI hb4
def wplOK (p : List Int) (x : Int) : Bool := isP p && decide (1 ≤ x ∧ x ≤ (p.length : Int))
def wplR (p : List Int) (x : Int) : List Int := if wplOK p x then patL (cutAt p (x.toNat - 1)) else []
theorem wplR_yes {p : List Int} {x : Int} (h : wplOK p x = true) : wplR p x = patL (cutAt p (x.toNat - 1)) := by unfold wplR; rw [if_pos h]
theorem wplR_no {p : List Int} {x : Int} (h : wplOK p x = false) : wplR p x = [] := by unfold wplR; rw [if_neg (by simp [h])]
theorem wplR_le (p : List Int) (x : Int) : (wplR p x).length ≤ 8 := by
  cases h : wplOK p x with
  | false => rw [wplR_no h]; exact Nat.zero_le _
  | true =>
    have hp : isP p = true := by unfold wplOK at h; simp at h; exact h.1
    rw [wplR_yes h]
    exact isP_le (cutAt_isP hp _)
/-- The patterns without one of the first k indices, in order. -/
def lowK (p : List Int) (k : Nat) : List (List Int) := ((List.range k).map fun i => patL (cutAt p i)).foldl putL []
theorem lowK_step (p : List Int) (k : Nat) : lowK p (k + 1) = putL (lowK p k) (patL (cutAt p k)) := by
  unfold lowK
  rw [List.range_succ, List.map_append, List.foldl_append]; rfl
theorem lowK_all {p : List Int} (hp : isP p = true) : ∀ k, ∀ z ∈ lowK p k, isP z = true
  | 0, z, hz => by simp [lowK] at hz
  | k + 1, z, hz => by
    rw [lowK_step, mem_putL] at hz
    rcases hz with hz | rfl
    · exact lowK_all hp k z hz
    · exact cutAt_isP hp k
theorem lowK_len (p : List Int) : ∀ k, (lowK p k).length ≤ k
  | 0 => by simp [lowK]
  | k + 1 => by
    have h1 := lowK_len p k
    have h2 := (putL_len (lowK p k) (patL (cutAt p k))).2
    rw [lowK_step]; omega
def lowR (p : List Int) : List (List Int) := if isP p then lowK p p.length else []
theorem lowR_yes {p : List Int} (h : isP p = true) : lowR p = lowK p p.length := by unfold lowR; rw [if_pos h]
theorem lowR_no {p : List Int} (h : isP p = false) : lowR p = [] := by unfold lowR; rw [if_neg (by simp [h])]
theorem lput_start (w : World) : PutS (w.alloc (.cells #[] 29)) w.heap.size (.slice (some ⟨w.heap.size, 0, none⟩) 0 0) [] := ⟨IntsS.made0 w w.heap.size (Nat.le_refl _), _, _, rfl⟩
theorem lput_below {w w' : World} {B : Nat} {v : Value} {zss : List (List Int)} (h : PutS w B v zss) (hb : Below w.heap.size w w') : PutS w' B v zss := ⟨h.1.below hb, h.2⟩
set_option maxHeartbeats 800000 in
theorem slow_any (A : Option Addr) (n c B : Nat) (zs : List Int) (w : World) (h : Arg w B A n c zs) :
    Calls Try.prog 59 #[.slice A n c] w (GivesSS w (lowR zs)) := by
  have hl := h.len
  obtain ⟨b, hb⟩ : ∃ b, isP zs = b := ⟨_, rfl⟩
  have H0 := hide (fun w' (hb' : Below w.heap.size w w') => sisperm_any A n c B zs b hb w' (h.below hb').reads h.le h.cap)
  have hst := lput_start w
  have hbel := (Below.refl w.heap.size w).alloc (Nat.le_refl _) (.cells #[] 29)
  cases b with
  | false =>
    rw [lowR_no hb]
    by_cases hn : 0 < n
    · have hn0 : (0 : Int) < (n : Int) := by omega
      have H1 := hide (unhide H0 _ hbel)
      clear h hb hl H0
      go_enter Try.func59, Try.ntmps59
      go_wp2
      go_loopw [3, 4] (fun v i wr => v = .slice (some ⟨w.heap.size, 0, none⟩) 0 0 ∧ i = .int .i64 0 ∧ wr = w.alloc (.cells #[] 29)) (fun _ _ _ => 0)
      case atStart => exact ⟨rfl, rfl, rfl⟩
      case round =>
        obtain ⟨rfl, rfl, rfl⟩ := hrel
        go_wp2_with fail
        refine (unhide H1).mono ?_
        rintro e w2 ⟨rfl, hd⟩
        have hst2 := lput_below hst (hd.below _)
        have hb2 := below_after hbel (hd.below _)
        clear H1 hst hbel hd
        go_wp2
        go_ret
        exact GivesSS.mk hst2.1 hb2
    · exfalso
      have : zs = [] := List.eq_nil_of_length_eq_zero (by omega)
      subst this
      cases hb
  | true =>
    have h8 := isP_le hb
    have hn8 : n ≤ 8 := by omega
    rw [lowR_yes hb, hl]
    have HA := hide (fun k => lowK_all hb k)
    have HB := hide (fun k => cutAt_isP hb k)
    have HL := hide hl
    clear hb hl h8
    go_enter Try.func59, Try.ntmps59
    go_wp2
    go_loopw [3, 4] (fun v i wr => ∃ k : Nat, k ≤ n ∧ i = .int .i64 k ∧ Below w.heap.size w wr ∧ PutS wr w.heap.size v (lowK zs k)) (fun _ i _ => n - (intOf i).toNat)
    case atStart => exact ⟨0, Nat.zero_le _, rfl, hbel, hst⟩
    case round =>
      obtain ⟨k, hk, rfl, hbw, hP⟩ := hrel
      clear hst hbel
      obtain ⟨g, cap, rfl⟩ := hP.2
      by_cases hlt : k < n
      · have H1 := hide (unhide H0 wr hbw)
        go_wp2_with fail
        refine (unhide H1).mono ?_
        rintro e w2 ⟨rfl, hd⟩
        have hP2 := lput_below hP (hd.below _)
        have hb2 := hbw.trans (hd.below _)
        have H2 := hide (l7without_any A n c B zs k w2 (h.below hb2) hn8 hlt)
        clear H1 hd hP hbw
        go_wp2_with fail
        refine (unhide H2).mono ?_
        rintro e w3 ⟨A3, c3, rfl, o3, hb3⟩
        have hP3 := lput_below hP2 hb3
        have hb4 := below_after hb2 hb3
        have hlen : (lowK zs k).length ≤ 1048576 := by have := lowK_len zs k; omega
        have H3 := hide (l3put_any w.heap.size (lowK zs k) g (lowK zs k).length cap A3 (patL (cutAt zs k)).length c3 w3.heap.size (patL (cutAt zs k)) w3 hP3.1 (o3.argP (unhide HB k)) hb4.size (unhide HA k) hlen)
        rw [← lowK_step] at H3
        clear H2 hP2 o3 hb3 hP3 hlen hb2
        go_wp2_with fail
        refine (unhide H3).mono ?_
        rintro e w4 ⟨v4, rfl, hS4, hb5, _⟩
        have hb6 := hb4.trans hb5
        clear H3 hb5 hb4
        go_wp2
        go_roundw
        case rel => exact ⟨k + 1, by omega, by go_num, hb6, hS4⟩
        case measure => simp [intOf]; omega
      · obtain rfl : n = k := by omega
        go_wp2
        go_ret
        exact GivesSS.mk hP.1 hbw
end Go.Proofs.Ytplchjeamooliaa


/-
  spec.PatternsIn, by its contract.
-/

namespace Go.Proofs.Ytplchjeamooliaa
set_option maxRecDepth 100000
open Go.RowKit

/-- The numbers at those of the first k indices whose bit is set. -/
def subK (p : List Int) (s : Nat) : Nat → List Int
  | 0 => []
  | k + 1 => if s.testBit k then subK p s k ++ [at0 p k] else subK p s k
theorem subK_len (p : List Int) (s : Nat) : ∀ k, (subK p s k).length ≤ k
  | 0 => Nat.le_refl _
  | k + 1 => by
    have := subK_len p s k
    rw [subK]; split <;> simp <;> omega
/-- The patterns of length k of the first s sets of indices, in order. -/
def patK (p : List Int) (k : Int) : Nat → List (List Int)
  | 0 => []
  | s + 1 => if ((subK p s p.length).length : Int) = k then putL (patK p k s) (patL (subK p s p.length)) else patK p k s
def patsOK (p : List Int) (k : Int) : Bool := isP p && decide (0 ≤ k ∧ k ≤ (p.length : Int))
def patsR (p : List Int) (k : Int) : List (List Int) := if patsOK p k then patK p k (2 ^ p.length) else []

theorem bit_test (s k : Nat) (hs : s ≤ 256) : (bits .and .i64 ((s : Int) / 2 ^ k) 1 == 1) = s.testBit k := by
  have h0 : (s : Int) / 2 ^ k = ((s / 2 ^ k : Nat) : Int) := by push_cast; rfl
  have hle : s / 2 ^ k ≤ s := Nat.div_le_self _ _
  have h1 : bits .and .i64 ((s / 2 ^ k : Nat) : Int) 1 = ((s / 2 ^ k % 2 : Nat) : Int) := by
    have := bits_mask .i64 63 (by decide) (fun n h0 h1 => by rw [IntKind.wrap_i64]; omega) 1 (by decide) ((s / 2 ^ k : Nat) : Int) (Int.natCast_nonneg _) (Int.lt_of_le_of_lt (Int.ofNat_le.2 hle) (by omega))
    simpa using this
  rw [h0, h1, Nat.testBit_eq_decide_div_mod_eq]
  by_cases h : s / 2 ^ k % 2 = 1
  · rw [h]; rfl
  · have h2 : s / 2 ^ k % 2 = 0 := by omega
    rw [h2]; rfl
theorem patK_len (p : List Int) (k : Int) : ∀ s, (patK p k s).length ≤ s
  | 0 => Nat.le_refl _
  | s + 1 => by
    have h1 := patK_len p k s
    have h2 := (putL_len (patK p k s) (patL (subK p s p.length))).2
    rw [patK]; split <;> omega
theorem subK_sub (p : List Int) (s : Nat) : ∀ k, k ≤ p.length → (subK p s k).Sublist (p.take k)
  | 0, _ => by simp [subK]
  | k + 1, hk => by
    have ih := subK_sub p s k (by omega)
    rw [take_snoc_i (at0_some (show k < p.length by omega)), subK]
    split
    · exact ih.append (List.Sublist.refl _)
    · exact ih.trans (List.sublist_append_left _ _)
theorem subK_isP {p : List Int} (hp : isP p = true) (s : Nat) : isP (patL (subK p s p.length)) = true := by
  have h := subK_sub p s p.length (Nat.le_refl _)
  rw [List.take_length] at h
  rw [isP_pat]
  exact patOK_yes (Nat.le_trans h.length_le (isP_le hp)) ((isP_true.1 hp).2.2.sublist h)
theorem patK_all {p : List Int} (hp : isP p = true) (k : Int) : ∀ s, ∀ z ∈ patK p k s, isP z = true
  | 0, z, hz => by simp [patK] at hz
  | s + 1, z, hz => by
    rw [patK] at hz
    split at hz
    · rcases mem_putL.1 hz with hz | rfl
      · exact patK_all hp k s z hz
      · exact subK_isP hp s
    · exact patK_all hp k s z hz
theorem patK_yes {p : List Int} {k : Int} {s : Nat} (h : ((subK p s p.length).length : Int) = k) : patK p k (s + 1) = putL (patK p k s) (patL (subK p s p.length)) := by rw [patK, if_pos h]
theorem patK_no {p : List Int} {k : Int} {s : Nat} (h : ¬ ((subK p s p.length).length : Int) = k) : patK p k (s + 1) = patK p k s := by rw [patK, if_neg h]
theorem patsR_yes {p : List Int} {k : Int} (h : patsOK p k = true) : patsR p k = patK p k (2 ^ p.length) := by unfold patsR; rw [if_pos h]
theorem patsR_no {p : List Int} {k : Int} (h : patsOK p k = false) : patsR p k = [] := by unfold patsR; rw [if_neg (by simp [h])]

end Go.Proofs.Ytplchjeamooliaa


/-
  PLAIN: the choices of places in order; occurrences are those whose pattern is right, patterns are the patterns of the choices. Nothing here speaks of the program.
-/

namespace Go.Proofs.Ytplchjeamooliaa
set_option maxRecDepth 100000

/-- The choices of m more of the places 1 to n that begin with head. -/
def chL (n : Nat) : Nat → List Int → List (List Int)
  | 0, head => [head]
  | m + 1, head => (List.range (n - lastP head)).flatMap fun i => chL n m (head ++ [((lastP head + i + 1 : Nat) : Int)])
/-- .. of the first j of the next places. -/
def chK (n m : Nat) (head : List Int) (j : Nat) : List (List Int) := (List.range j).flatMap fun i => chL n m (head ++ [((lastP head + i + 1 : Nat) : Int)])
theorem chK_all (n m : Nat) (head : List Int) : chK n m head (n - lastP head) = chL n (m + 1) head := rfl
theorem chK_zero (n m : Nat) (head : List Int) : chK n m head 0 = [] := rfl
theorem chK_step (n m : Nat) (head : List Int) (j : Nat) : chK n m head (j + 1) = chK n m head j ++ chL n m (head ++ [((lastP head + j + 1 : Nat) : Int)]) := by
  unfold chK
  rw [List.range_succ, List.flatMap_append, List.flatMap_cons, List.flatMap_nil, List.append_nil]
theorem mem_chL {n : Nat} : ∀ (m : Nat) (head pl : List Int), PlOK n head → (pl ∈ chL n m head ↔ ∃ tl, pl = head ++ tl ∧ tl.length = m ∧ PlOK n pl)
  | 0, head, pl, h => by
    rw [chL, List.mem_singleton]
    constructor
    · rintro rfl
      exact ⟨[], by simp, rfl, h⟩
    · rintro ⟨tl, rfl, h1, _⟩
      rw [List.eq_nil_of_length_eq_zero h1, List.append_nil]
  | m + 1, head, pl, h => by
    have hle := lastP_le h
    rw [chL, List.mem_flatMap]
    constructor
    · rintro ⟨i, hi, hm⟩
      rw [List.mem_range] at hi
      have hh : PlOK n (head ++ [((lastP head + i + 1 : Nat) : Int)]) := PlOK.snoc.2 ⟨h, by omega, by omega⟩
      obtain ⟨tl, rfl, h1, h2⟩ := (mem_chL m _ pl hh).1 hm
      exact ⟨((lastP head + i + 1 : Nat) : Int) :: tl, by rw [List.append_assoc]; rfl, by simp [h1], h2⟩
    · rintro ⟨tl, rfl, h1, h2⟩
      match tl, h1 with
      | x :: tl, h1 =>
        have hx : PlOK n (head ++ [x]) := by
          have := h2.take (head.length + 1)
          rwa [show head ++ x :: tl = head ++ [x] ++ tl by simp, List.take_append_of_le_length (by simp), List.take_of_length_le (by simp)] at this
        obtain ⟨_, hx1, hx2⟩ := PlOK.snoc.1 hx
        have hxe : ((lastP head + (x.toNat - lastP head - 1) + 1 : Nat) : Int) = x := by omega
        refine ⟨x.toNat - lastP head - 1, List.mem_range.2 (by omega), ?_⟩
        rw [hxe, mem_chL m _ _ hx]
        exact ⟨tl, by simp, by simpa using h1, h2⟩
theorem chL_len {n : Nat} : ∀ (m : Nat) (head pl : List Int), pl ∈ chL n m head → pl.length = head.length + m
  | 0, head, pl, h => by rw [chL, List.mem_singleton] at h; subst h; rfl
  | m + 1, head, pl, h => by
    rw [chL, List.mem_flatMap] at h
    obtain ⟨i, _, h⟩ := h
    have := chL_len m _ pl h
    simp at this; omega
theorem chL_pre {n : Nat} : ∀ (m : Nat) (head pl : List Int), pl ∈ chL n m head → ∃ tl, pl = head ++ tl
  | 0, head, pl, h => by rw [chL, List.mem_singleton] at h; subst h; exact ⟨[], by simp⟩
  | m + 1, head, pl, h => by
    rw [chL, List.mem_flatMap] at h
    obtain ⟨i, _, h⟩ := h
    obtain ⟨tl, rfl⟩ := chL_pre m _ pl h
    exact ⟨_ :: tl, by simp; rfl⟩
theorem chL_asc {n : Nat} : ∀ (m : Nat) (head : List Int), Asc (chL n m head)
  | 0, head => by rw [chL]; exact List.pairwise_singleton _ _
  | m + 1, head => by
    rw [chL]
    unfold Asc
    rw [List.pairwise_flatMap]
    constructor
    · intro i _
      exact chL_asc m _
    · refine List.Pairwise.imp ?_ List.pairwise_lt_range
      intro i j hij x hx y hy
      have l1 := chL_len m _ x hx
      have l2 := chL_len m _ y hy
      obtain ⟨t, rfl⟩ := chL_pre m _ x hx
      obtain ⟨s, rfl⟩ := chL_pre m _ y hy
      simp only [List.length_append, List.length_singleton] at l1 l2
      rw [befL_eq (by simp; omega), List.append_assoc, List.append_assoc, lexL_app, List.singleton_append, List.singleton_append, lexL, if_neg (by omega)]
      simp; omega
/-- The choices of k of the places 1 to n. -/
def chR (n k : Nat) : List (List Int) := chL n k []
theorem mem_chR {n k : Nat} {pl : List Int} : pl ∈ chR n k ↔ pl.length = k ∧ PlOK n pl := by
  unfold chR
  rw [mem_chL k [] pl (PlOK.nil n)]
  constructor
  · rintro ⟨tl, rfl, h1, h2⟩; exact ⟨by simpa using h1, h2⟩
  · rintro ⟨h1, h2⟩; exact ⟨pl, rfl, h1, h2⟩
theorem chR_asc (n k : Nat) : Asc (chR n k) := chL_asc k []
/-- The pattern at places. -/
def patA (p pl : List Int) : List Int := patL (nums p pl)
theorem occ_filter {p q : List Int} (hp : isP p = true) (hq : isP q = true) : (chR p.length q.length).filter (fun pl => decide (patA p pl = q)) = occR p q := by
  refine asc_unique ((chR_asc _ _).sublist List.filter_sublist) (occ_asc p q) fun x => ?_
  rw [List.mem_filter, mem_chR, mem_occ, isOcc_iff]
  unfold patA
  simp only [decide_eq_true_eq, hp, hq, true_and]
  constructor
  · rintro ⟨⟨h1, h2⟩, h3⟩; exact ⟨h1, h2, h3⟩
  · rintro ⟨h1, h2, h3⟩; exact ⟨⟨h1, h2⟩, h3⟩

/-! patterns -/
theorem nums_sub {p : List Int} : ∀ {pl : List Int} {m : Nat}, PlOK m pl → m ≤ p.length → (nums p pl).Sublist (p.take m) := by
  intro pl m
  induction m generalizing pl with
  | zero =>
    intro h _
    cases pl with
    | nil => simp [nums]
    | cons a l => have := h.1 a (by simp); omega
  | succ m ih =>
    intro h hm
    by_cases h0 : pl = []
    · subst h0; simp [nums]
    · obtain ⟨l, x, rfl⟩ : ∃ l x, pl = l ++ [x] := ⟨pl.dropLast, pl.getLast h0, (List.dropLast_concat_getLast h0).symm⟩
      obtain ⟨h1, h2, h3⟩ := PlOK.snoc.1 h
      have hsub : ∀ (k : Nat), k ≤ m → (p.take k).Sublist (p.take m) := fun k hk => by
        have := List.take_sublist k (p.take m)
        rwa [List.take_take, Nat.min_eq_left hk] at this
      by_cases hx : x = ((m + 1 : Nat) : Int)
      · subst hx
        have hl : PlOK m l := ⟨fun y hy => ⟨(h1.1 y hy).1, by
          have hh := (List.pairwise_append.1 h.2).2.2 y hy ((m + 1 : Nat) : Int) (by simp)
          omega⟩, h1.2⟩
        rw [nums_snoc, take_snoc_i (at0_some (show m < p.length by omega))]
        exact (ih hl (by omega)).append (by rw [show (((m + 1 : Nat) : Int)).toNat - 1 = m by omega]; exact List.Sublist.refl _)
      · have hl : PlOK m (l ++ [x]) := PlOK.snoc.2 ⟨⟨fun y hy => ⟨(h1.1 y hy).1, by
          have hh := (List.pairwise_append.1 h.2).2.2 y hy x (by simp)
          omega⟩, h1.2⟩, h2, by omega⟩
        have := ih hl (by omega)
        have h5 := List.take_sublist m (p.take (m + 1))
        rw [List.take_take, Nat.min_eq_left (Nat.le_succ m)] at h5
        exact this.trans h5
theorem nums_sub' {p pl : List Int} (h : PlOK p.length pl) : (nums p pl).Sublist p := by
  have := nums_sub (p := p) h (Nat.le_refl _)
  rwa [List.take_length] at this
/-- The patterns of the choices are those of the parts of a length. -/
theorem mem_pats_ch {p x : List Int} {k : Nat} : x ∈ (chR p.length k).map (patA p) ↔ ∃ s, s.Sublist p ∧ s.length = k ∧ x = patL s := by
  rw [List.mem_map]
  constructor
  · rintro ⟨pl, h, rfl⟩
    rw [mem_chR] at h
    exact ⟨nums p pl, nums_sub' h.2, by rw [nums_length]; exact h.1, rfl⟩
  · rintro ⟨s, h1, h2, rfl⟩
    obtain ⟨pl, h3, rfl⟩ := places_of h1
    rw [nums_length] at h2
    exact ⟨pl, mem_chR.2 ⟨h2, h3⟩, rfl⟩
theorem subK_hi (p : List Int) {s t : Nat} : ∀ {k : Nat}, (∀ i, i < k → s.testBit i = t.testBit i) → subK p s k = subK p t k
  | 0, _ => rfl
  | k + 1, h => by
    rw [subK, subK, h k (by omega), subK_hi p (k := k) fun i hi => h i (by omega)]
/-- Every part is one of the parts that the bits tell. -/
theorem sub_bits {p : List Int} : ∀ (k : Nat) (s : List Int), k ≤ p.length → s.Sublist (p.take k) → ∃ t, t < 2 ^ k ∧ subK p t k = s
  | 0, s, _, h => ⟨0, by simp, by rw [List.take_zero] at h; rw [List.sublist_nil.1 h]; rfl⟩
  | k + 1, s, hk, h => by
    rw [take_snoc_i (at0_some (show k < p.length by omega)), List.sublist_append_iff] at h
    obtain ⟨a, b, rfl, h1, h2⟩ := h
    obtain ⟨t, ht, rfl⟩ := sub_bits k a (by omega) h1
    have hpow : 2 ^ (k + 1) = 2 ^ k + 2 ^ k := by rw [Nat.pow_succ]; omega
    cases b with
    | nil =>
      refine ⟨t, by omega, ?_⟩
      rw [subK, Nat.testBit_lt_two_pow ht, List.append_nil]
      rfl
    | cons y b =>
      have hb : y :: b = [at0 p k] := by
        have := h2.length_le
        cases b with
        | nil => have := h2.subset (List.mem_singleton.2 rfl); simp at this; rw [this]
        | cons z b => simp at this
      rw [hb]
      refine ⟨2 ^ k + t, by omega, ?_⟩
      rw [subK, Nat.testBit_two_pow_add_eq, Nat.testBit_lt_two_pow ht]
      rw [subK_hi p (s := 2 ^ k + t) (t := t) fun i hi => Nat.testBit_two_pow_add_gt hi t]
      rfl
theorem mem_patK {p : List Int} {k : Int} : ∀ {s : Nat} {x : List Int}, x ∈ patK p k s ↔ ∃ t, t < s ∧ ((subK p t p.length).length : Int) = k ∧ x = patL (subK p t p.length)
  | 0, x => by simp [patK]
  | s + 1, x => by
    have ih := mem_patK (p := p) (k := k) (s := s) (x := x)
    constructor
    · intro h
      by_cases hk : ((subK p s p.length).length : Int) = k
      · rw [patK_yes hk, mem_putL] at h
        rcases h with h | rfl
        · obtain ⟨t, h1, h2⟩ := ih.1 h; exact ⟨t, by omega, h2⟩
        · exact ⟨s, by omega, hk, rfl⟩
      · rw [patK_no hk] at h
        obtain ⟨t, h1, h2⟩ := ih.1 h; exact ⟨t, by omega, h2⟩
    · rintro ⟨t, h1, h2, h3⟩
      by_cases hk : ((subK p s p.length).length : Int) = k
      · rw [patK_yes hk, mem_putL]
        by_cases hts : t = s
        · subst hts; exact .inr h3
        · exact .inl (ih.2 ⟨t, by omega, h2, h3⟩)
      · rw [patK_no hk]
        have hts : t ≠ s := fun e => hk (by rw [← e]; exact h2)
        exact ih.2 ⟨t, by omega, h2, h3⟩
theorem patK_asc (p : List Int) (k : Int) : ∀ s, Asc (patK p k s)
  | 0 => List.Pairwise.nil
  | s + 1 => by
    rw [patK]
    split
    · exact asc_putL (patK_asc p k s)
    · exact patK_asc p k s
theorem patsOK_nat {p : List Int} {k : Nat} (hp : isP p = true) (hk : k ≤ p.length) : patsOK p (k : Int) = true := by
  unfold patsOK
  rw [hp, Bool.true_and, decide_eq_true_eq]
  omega
theorem mem_patsR {p x : List Int} {k : Nat} (hp : isP p = true) (hk : k ≤ p.length) : x ∈ patsR p (k : Int) ↔ ∃ s, s.Sublist p ∧ s.length = k ∧ x = patL s := by
  rw [patsR_yes (patsOK_nat hp hk), mem_patK]
  constructor
  · rintro ⟨t, _, h2, h3⟩
    have h := subK_sub p t p.length (Nat.le_refl _)
    rw [List.take_length] at h
    exact ⟨_, h, by omega, h3⟩
  · rintro ⟨s, h1, h2, h3⟩
    obtain ⟨t, ht, h4⟩ := sub_bits p.length s (Nat.le_refl _) (by rw [List.take_length]; exact h1)
    exact ⟨t, ht, by rw [h4]; omega, by rw [h4]; exact h3⟩
theorem patsR_asc (p : List Int) (k : Int) : Asc (patsR p k) := by
  unfold patsR
  split
  · exact patK_asc p k _
  · exact List.Pairwise.nil
theorem pats_ordL {p : List Int} {k : Nat} (hp : isP p = true) (hk : k ≤ p.length) : ordL ((chR p.length k).map (patA p)) ((chR p.length k).map (patA p)).length = patsR p (k : Int) := by
  refine asc_unique (ordL_asc _ _) (patsR_asc _ _) fun x => ?_
  rw [ordL_mem, List.take_length, mem_pats_ch, mem_patsR hp hk]
theorem pats_allP {p : List Int} {k : Nat} (hp : isP p = true) : allP ((chR p.length k).map (patA p)) = true := by
  unfold allP
  rw [List.all_eq_true]
  intro x hx
  obtain ⟨s, h1, _, rfl⟩ := mem_pats_ch.1 hx
  rw [isP_pat]
  exact patOK_yes (Nat.le_trans h1.length_le (isP_le hp)) ((isP_true.1 hp).2.2.sublist h1)
theorem pats_ordR {p : List Int} {k : Nat} (hp : isP p = true) (hk : k ≤ p.length) : ordR ((chR p.length k).map (patA p)) = patsR p (k : Int) := by
  rw [ordR_yes (pats_allP hp), pats_ordL hp hk]

/-! leaving one out -/
theorem sub_cut {s p : List Int} (h : s.Sublist p) : s.length + 1 = p.length → ∃ i, i < p.length ∧ s = cutAt p i := by
  induction h with
  | slnil => intro h; simp at h
  | cons a h ih =>
    intro hl
    simp only [List.length_cons, Nat.add_right_cancel_iff] at hl
    exact ⟨0, by simp, by rw [h.eq_of_length hl]; simp [cutAt]⟩
  | cons_cons a h ih =>
    intro hl
    simp only [List.length_cons, Nat.add_right_cancel_iff] at hl
    obtain ⟨i, hi, rfl⟩ := ih hl
    exact ⟨i + 1, by simpa using hi, by simp [cutAt]⟩
theorem lowK_mem {p x : List Int} {k : Nat} : x ∈ lowK p k ↔ ∃ i, i < k ∧ x = patL (cutAt p i) := by
  unfold lowK
  rw [(foldl_put _ [] List.Pairwise.nil).2.1]
  simp only [List.not_mem_nil, false_or, List.mem_map, List.mem_range]
  exact ⟨fun ⟨i, h1, h2⟩ => ⟨i, h1, h2.symm⟩, fun ⟨i, h1, h2⟩ => ⟨i, h1, h2.symm⟩⟩
theorem lowK_asc (p : List Int) (k : Nat) : Asc (lowK p k) := (foldl_put _ [] List.Pairwise.nil).1
theorem pats_low (p : List Int) : patsR p ((p.length : Int) - 1) = lowR p := by
  cases hp : isP p with
  | false => rw [lowR_no hp, patsR_no (by unfold patsOK; rw [hp]; rfl)]
  | true =>
    rw [lowR_yes hp]
    by_cases h0 : p.length = 0
    · rw [h0, patsR_no (by unfold patsOK; rw [hp, h0]; rfl)]; rfl
    · obtain ⟨m, hm⟩ : ∃ m, p.length = m + 1 := ⟨p.length - 1, by omega⟩
      rw [show ((p.length : Int) - 1) = (m : Int) by omega]
      refine asc_unique (patsR_asc _ _) (lowK_asc _ _) fun x => ?_
      rw [mem_patsR hp (by omega), lowK_mem]
      constructor
      · rintro ⟨s, h1, h2, rfl⟩
        obtain ⟨i, hi, rfl⟩ := sub_cut h1 (by omega)
        exact ⟨i, hi, rfl⟩
      · rintro ⟨i, hi, rfl⟩
        exact ⟨_, cutAt_sub p i, by have := cutAt_len hi; omega, rfl⟩
end Go.Proofs.Ytplchjeamooliaa
