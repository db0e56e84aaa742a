/-
  Words and contracts that the laws lean on, bundled: OccS, OccF, OccR, LowS, PatsS, PatF, NearS, NearV, NearX.
-/
import Derived.Test.YtichenjbkclljaaDoorB4
import Derived.Test.YtichenjbkclljaaDoorB2
import Derived.Test.YtichenjbkclljaaDoorB1
import Derived.Test.YtichenjbkclljaaDoorB5
import Derived.Deep.RegionHeld3
import Derived.Laws.BitsLemmas
import Derived.BigQuiet
import Derived.Deep.RegionLaw
import Derived.Test.YtichenjbkclljaaDoorB3

/-
  spec.l7At, spec.l7Fits, spec.l7Find, spec.OccurrencesOf, spec.CountPattern, spec.HasPattern, by their contracts.
-/

namespace Go.Proofs.YtichenjbkclljaaDoor
set_option maxRecDepth 100000
open Go.RowKit

theorem Arg.stay {w w' : World} {B B' n c : Nat} {A : Option Addr} {zs : List Int} (h : Arg w B A n c zs) (hb : Below B' w w') (hB : B ≤ B') : Arg w' B A n c zs :=
  ⟨h.reads.below (hb.mono hB), Nat.le_trans h.under hb.size, h.le, h.cap, h.small, h.nil⟩
theorem Arg.at_ {w : World} {B n c k : Nat} {A : Option Addr} {zs : List Int} (h : Arg w B A n c zs) (hk : k < n) : ∃ ad, A = some ad ∧ ad.block < B ∧ zs[k]? = some (at0 zs k) ∧ w.cell? (ad.add k) = some (.int .i64 (at0 zs k)) := by
  obtain ⟨ad, u, hA, hb, hu, hc⟩ := h.reads.at_ hk
  obtain ⟨z, hz, rfl⟩ := i64_at hu
  have e := at0_of hz
  subst e
  exact ⟨ad, hA, hb, hz, hc⟩
theorem isP_rng {p : List Int} (h : isP p = true) {k : Nat} (hk : k < p.length) : 1 ≤ at0 p k ∧ at0 p k ≤ (p.length : Int) := by
  have := (isP_true.1 h).2.1 _ (at0_mem hk)
  exact this
theorem place_nat {n : Nat} {x : Int} (h : 1 ≤ x ∧ x ≤ (n : Int)) : ∃ X : Nat, x = ((X + 1 : Nat) : Int) ∧ X < n := ⟨x.toNat - 1, by omega, by omega⟩

set_option maxHeartbeats 1600000 in
theorem l7fits_any (A A' A2 : Option Addr) (n c B n' c' B' n2 c2 B2 : Nat) (p q pl : List Int) (b : Bool) (hb : fitL p q pl = b) (w : World) (h : Arg w B A n c p) (h' : Arg w B' A' n' c' q) (h2 : Arg w B2 A2 n2 c2 pl) (hr : PlOK p.length pl) (hlt : 0 < n2) (hle : n2 ≤ n') :
    Calls Tryd.prog 79 #[.slice A n c, .slice A' n' c', .slice A2 n2 c2] w fun e w' => e = .returned (.bool b) ∧ Drew w w' := by
  have hl := h.len
  have hl' := h'.len
  have hl2 := h2.len
  obtain ⟨L, rfl⟩ : ∃ L, n2 = L + 1 := ⟨n2 - 1, by omega⟩
  have hn2 := h2.le
  have hL1 : ((L + 1 : Nat) : Int) - 1 = (L : Int) := by omega
  have HB := hide hb
  have HL := hide hl2
  have HR := hide hr
  clear hb hr
  go_enter Tryd.func79, Tryd.ntmps79
  go_wp2
  go_loopw [8] (fun i wr => ∃ k : Nat, k ≤ L ∧ i = .int .i64 k ∧ Drew w wr ∧ Hid (∀ j, j < k → decide (at0 q j < at0 q L) = decide (at0 (nums p pl) j < at0 (nums p pl) L))) (fun i _ => L - (intOf i).toNat)
  case atStart => exact ⟨0, Nat.zero_le _, rfl, Drew.refl _, fun j hj => by omega⟩
  case round =>
    obtain ⟨k, hk, rfl, hd, hx⟩ := hrel
    by_cases hkl : k < L
    · have hdb := hd.below w.heap.size
      obtain ⟨ad', rfl, _, _, ca⟩ := (h'.below hdb).at_ (show k < n' by omega)
      obtain ⟨_, he, _, _, cb⟩ := (h'.below hdb).at_ (show L < n' by omega)
      obtain rfl := Option.some.inj he
      obtain ⟨ad2, rfl, _, _, cx⟩ := (h2.below hdb).at_ (show k < L + 1 by omega)
      obtain ⟨_, he2, _, _, cy⟩ := (h2.below hdb).at_ (show L < L + 1 by omega)
      obtain rfl := Option.some.inj he2
      obtain ⟨X, hX, hXn⟩ := place_nat ((unhide HR).rng (i := k) (by omega))
      obtain ⟨Y, hY, hYn⟩ := place_nat ((unhide HR).rng (i := L) (by omega))
      obtain ⟨ad, rfl, _, _, cc⟩ := (h.below hdb).at_ (show X < n by omega)
      obtain ⟨_, he3, _, _, cd⟩ := (h.below hdb).at_ (show Y < n by omega)
      obtain rfl := Option.some.inj he3
      have e1 : at0 (nums p pl) k = at0 p X := by rw [nums_at0 (by omega), hX]; simp
      have e2 : at0 (nums p pl) L = at0 p Y := by rw [nums_at0 (by omega), hY]; simp
      rw [hX] at cx
      rw [hY] at cy
      have k1 : ((X + 1 : Nat) : Int) - 1 = (X : Int) := by omega
      have k2 : ((Y + 1 : Nat) : Int) - 1 = (Y : Int) := by omega
      have hnn := h.le
      have w1 : IntKind.i64.wrap (X : Int) = X := by rw [IntKind.wrap_i64]; omega
      have w2 : IntKind.i64.wrap (Y : Int) = Y := by rw [IntKind.wrap_i64]; omega
      have HE := hide (And.intro e1 e2)
      have HD := hide hd
      have HX := hide (And.intro hX hY)
      clear e1 e2 hd hdb hX hY he he2 he3
      obtain ⟨a, ha⟩ : ∃ a, at0 q k = a := ⟨_, rfl⟩
      obtain ⟨b', hb'⟩ : ∃ b', at0 q L = b' := ⟨_, rfl⟩
      obtain ⟨y, hy⟩ : ∃ y, at0 p X = y := ⟨_, rfl⟩
      obtain ⟨z, hz⟩ : ∃ z, at0 p Y = z := ⟨_, rfl⟩
      have HA := hide (And.intro ha (And.intro hb' (And.intro hy hz)))
      rw [ha] at ca
      rw [hb'] at cb
      rw [hy] at cc
      rw [hz] at cd
      clear ha hb' hy hz
      by_cases t1 : a < b'
      · have d1 := decide_eq_true t1
        by_cases t2 : y < z
        · have d2 := decide_eq_true t2
          have hnext : Hid (∀ j, j < k + 1 → decide (at0 q j < at0 q L) = decide (at0 (nums p pl) j < at0 (nums p pl) L)) := hide (fun j hj => by
            by_cases hjk : j < k
            · exact unhide hx j hjk
            · obtain rfl : j = k := by omega
              rw [(unhide HE).1, (unhide HE).2, (unhide HA).1, (unhide HA).2.1, (unhide HA).2.2.1, (unhide HA).2.2.2, decide_eq_true t1, decide_eq_true t2])
          clear hx
          go_wp2
          go_quiet (fail)
          go_wp2
          go_roundw
          case rel => exact ⟨k + 1, by omega, by go_num, (unhide HD).more _, hnext⟩
          case measure => simp [intOf]; omega
        · have d2 := decide_eq_false t2
          obtain rfl : b = false := (unhide HB).symm.trans (fitL_no (k := k) (by rw [unhide HL]; omega) (by rw [unhide HL, Nat.add_sub_cancel, (unhide HE).1, (unhide HE).2, (unhide HA).1, (unhide HA).2.1, (unhide HA).2.2.1, (unhide HA).2.2.2, decide_eq_true t1, decide_eq_false t2]; decide))
          clear hx HB
          go_wp2
          go_quiet (fail)
          go_wp2
          go_ret
          exact ⟨rfl, (unhide HD).more _⟩
      · have d1 := decide_eq_false t1
        by_cases t2 : y < z
        · have d2 := decide_eq_true t2
          obtain rfl : b = false := (unhide HB).symm.trans (fitL_no (k := k) (by rw [unhide HL]; omega) (by rw [unhide HL, Nat.add_sub_cancel, (unhide HE).1, (unhide HE).2, (unhide HA).1, (unhide HA).2.1, (unhide HA).2.2.1, (unhide HA).2.2.2, decide_eq_false t1, decide_eq_true t2]; decide))
          clear hx HB
          go_wp2
          go_quiet (fail)
          go_wp2
          go_ret
          exact ⟨rfl, (unhide HD).more _⟩
        · have d2 := decide_eq_false t2
          have hnext : Hid (∀ j, j < k + 1 → decide (at0 q j < at0 q L) = decide (at0 (nums p pl) j < at0 (nums p pl) L)) := hide (fun j hj => by
            by_cases hjk : j < k
            · exact unhide hx j hjk
            · obtain rfl : j = k := by omega
              rw [(unhide HE).1, (unhide HE).2, (unhide HA).1, (unhide HA).2.1, (unhide HA).2.2.1, (unhide HA).2.2.2, decide_eq_false t1, decide_eq_false t2])
          clear hx
          go_wp2
          go_quiet (fail)
          go_wp2
          go_roundw
          case rel => exact ⟨k + 1, by omega, by go_num, (unhide HD).more _, hnext⟩
          case measure => simp [intOf]; omega
    · obtain rfl : L = k := by omega
      obtain rfl : b = true := (unhide HB).symm.trans (fitL_yes fun k hk => by
        rw [unhide HL, Nat.add_sub_cancel] at hk ⊢
        exact unhide hx k hk)
      clear hx HB
      go_wp2
      go_ret
      exact ⟨rfl, hd⟩
end Go.Proofs.YtichenjbkclljaaDoor


/-
  spec.l7Find, spec.OccurrencesOf, spec.CountPattern, spec.HasPattern, by their contracts.
-/

namespace Go.Proofs.YtichenjbkclljaaDoor
set_option maxRecDepth 100000
open Go.RowKit

theorem extK_len {p q : List Int} {m : Nat} {head : List Int} (ih : ∀ x, (extL p q m (head ++ [x])).length ≤ 2 ^ (p.length - x.toNat)) : ∀ j, j ≤ p.length - lastP head → (extK p q m head j).length + 2 ^ (p.length - lastP head - j) ≤ 2 ^ (p.length - lastP head)
  | 0, _ => by rw [extK_zero]; simp
  | j + 1, hj => by
    have h1 := extK_len ih j (by omega)
    have e : p.length - lastP head - j = (p.length - lastP head - (j + 1)) + 1 := by omega
    rw [e, Nat.pow_succ] at h1
    cases hf : fitL p q (head ++ [((lastP head + j + 1 : Nat) : Int)]) with
    | false => rw [extK_no hf]; omega
    | true =>
      have h2 := ih ((lastP head + j + 1 : Nat) : Int)
      rw [show p.length - ((lastP head + j + 1 : Nat) : Int).toNat = p.length - lastP head - (j + 1) by omega] at h2
      rw [extK_yes hf, List.length_append]
      omega
theorem extL_size {p q : List Int} : ∀ (m : Nat) (head : List Int), (extL p q m head).length ≤ 2 ^ (p.length - lastP head)
  | 0, head => by rw [extL, List.length_singleton]; exact Nat.one_le_two_pow
  | m + 1, head => by
    have h := extK_len (p := p) (q := q) (m := m) (head := head) (fun x => by
      have := extL_size (p := p) (q := q) m (head ++ [x])
      rwa [lastP_snoc] at this) (p.length - lastP head) (Nat.le_refl _)
    rw [extK_all] at h
    exact Nat.le_trans (Nat.le_add_right _ _) h
theorem extK_mono {p q : List Int} {m : Nat} {head : List Int} (j : Nat) : (extK p q m head j).length ≤ (extK p q m head (j + 1)).length := by
  cases hf : fitL p q (head ++ [((lastP head + j + 1 : Nat) : Int)]) with
  | false => rw [extK_no hf]; exact Nat.le_refl _
  | true => rw [extK_yes hf, List.length_append]; omega
theorem extK_le {p q : List Int} {m : Nat} {head : List Int} {j : Nat} (k : Nat) : (extK p q m head j).length ≤ (extK p q m head (j + k)).length := by
  induction k with
  | zero => exact Nat.le_refl _
  | succ k ih => exact Nat.le_trans ih (extK_mono _)
theorem occ_size (p q : List Int) (hp : isP p = true) : (occR p q).length ≤ 256 := by
  have h8 := isP_le hp
  unfold occR
  split
  · have := extL_size (p := p) (q := q) q.length []
    rw [lastP_nil] at this
    exact Nat.le_trans this (Nat.pow_le_pow_right (n := 2) (by decide) (show p.length - 0 ≤ 8 by omega))
  · simp

/-- What l7Find leaves: the list with more rows, of which none but head's own is older than the call. -/
def FindEnds (w : World) (B : Nat) (vs : List Value) (zss : List (List Int)) (hv : Value) (L : List (List Int)) (e : Ending) (w' : World) : Prop :=
  ∃ v' us, e = .returned v' ∧ w'.ownsRow B 24 1 v' (zss.length + L.length) (vs ++ us) ∧ Inner w' B (vs ++ us) (zss ++ L) ∧ (∀ x ∈ us, x = hv ∨ Since w.heap.size x) ∧ Below B w w' ∧ KeepI w w'

set_option maxHeartbeats 1600000 in
theorem l7find_any : ∀ (m : Nat) (A A' : Option Addr) (n c Bp n' c' Bq B : Nat) (p q : List Int) (Ah : Option Addr) (nh ch : Nat) (head : List Int) (v : Value) (vs : List Value) (zss : List (List Int)) (w : World)
    (_ : Arg w Bp A n c p) (_ : Arg w Bq A' n' c' q) (_ : Bp ≤ B) (_ : Bq ≤ B) (_ : B ≤ w.heap.size) (_ : isP p = true) (_ : isP q = true) (_ : head.length + m = q.length) (_ : PlOK p.length head) (_ : Ints w B (.slice Ah nh ch) head)
    (_ : w.ownsRow B 24 1 v zss.length vs) (_ : Inner w B vs zss) (_ : ∀ x ∈ vs, Away x (.slice Ah nh ch)) (_ : zss.length + (extL p q m head).length ≤ 1048576),
    Calls Tryd.prog 70 #[.slice A n c, .slice A' n' c', .slice Ah nh ch, v] w (FindEnds w B vs zss (.slice Ah nh ch) (extL p q m head)) := by
  intro m
  induction m with
  | zero =>
    intro A A' n c Bp n' c' Bq B p q Ah nh ch head v vs zss w h h' hBp hBq hB hp hq hm hP hh hown hin haw hlen
    obtain ⟨i0, hi, hz0, hz1, hz2⟩ := info_parts rowsInfo
    have hl' := h'.len
    have hnh := hh.len
    have heq : (nh : Int) = (n' : Int) := by omega
    obtain ⟨Av, cv, rfl, _⟩ := Reads.of_own hown
    rw [extL, List.length_singleton] at hlen
    rw [extL]
    have HH := hide (And.intro hin (And.intro haw hh))
    have HO := hide hown
    clear h h' hp hq hP hm hl' hin haw hh hnh
    go_enter Tryd.func70, Tryd.ntmps70
    go_wp2_with (first
      | (at_builtin; refine wpList_append_one rfl (.tmp 17) (.tmp 19) 66 rfl B 24 i0 (.slice none 0 0) 24 Tryd.underlying66 hi hz0 hz1 hz2 rfl w w _ _ _ rfl hown (.slice Ah nh ch) rfl rfl rfl (by omega) (by unfold maxLen; omega) (Below.refl _ _) hB ?_))
    intro v2 w2 hown2 hb2 hg2
    obtain ⟨hin, haw, hh⟩ := unhide HH
    have hk := KeepI.of_grown (unhide HO) hg2
    have hin2 := (hin.keepI hk).push (hh.keepI hk) haw
    clear hg2 hin haw hh
    go_wp2
    go_ret
    exact ⟨v2, [.slice Ah nh ch], rfl, hown2, hin2, fun x hx => .inl (List.mem_singleton.1 hx), hb2, hk⟩
  | succ m ih =>
    intro A A' n c Bp n' c' Bq B p q Ah nh ch head v vs zss w h h' hBp hBq hB hp hq hm hP hh hown hin haw hlen
    obtain ⟨i0, hi, hz0, hz1, hz2⟩ := info_parts intInfo
    have hl := h.len
    have hl' := h'.len
    have hnh := hh.len
    have h8 := isP_le hp
    have hq8 := isP_le hq
    have hne : ¬ (nh : Int) = (n' : Int) := by omega
    have hnh8 : nh ≤ 8 := by omega
    have hn8 : n ≤ 8 := by omega
    have hlast := lastP_le hP
    obtain ⟨Av, cv, rfl, _⟩ := Reads.of_own hown
    have hu0 := hh.until_
    have HX := hide (fun (j : Nat) (hj : j < p.length - lastP head) => show zss.length + (extK p q m head (j + 1)).length ≤ 1048576 from by
      have := extK_le (p := p) (q := q) (m := m) (head := head) (j := j + 1) (p.length - lastP head - (j + 1))
      rw [show j + 1 + (p.length - lastP head - (j + 1)) = p.length - lastP head by omega, extK_all] at this
      omega)
    have HC : Hid (Ints w B (.slice Ah nh ch) head ∧ w.ownsRow B 24 1 (.slice Av zss.length cv) (zss.length + (extK p q m head 0).length) (vs ++ []) ∧ Inner w B (vs ++ []) (zss ++ extK p q m head 0) ∧ (∀ x ∈ ([] : List Value), Since w.heap.size x) ∧ Below B w w ∧ KeepI w w) :=
      hide ⟨hh, by rw [extK_zero, List.append_nil]; exact hown, by rw [extK_zero, List.append_nil, List.append_nil]; exact hin, fun x hx => by simp at hx, Below.refl _ _, KeepI.refl _⟩
    have HA := hide (And.intro haw (And.intro hP (And.intro hp hq)))
    obtain ⟨f, hf⟩ : ∃ f, lastP head = f := ⟨_, rfl⟩
    have hf0 : (∀ k, nh = k + 1 → ∃ ad, Ah = some ad ∧ w.cell? (ad.add k) = some (.int .i64 (f : Int))) ∧ (nh = 0 → f = 0) := by
      constructor
      · intro k hk
        obtain ⟨ad, u, rfl, _, hu, hc⟩ := hh.reads.at_ (show k < nh by omega)
        obtain ⟨z, hz, rfl⟩ := i64_at hu
        have hr := hP.rng (i := k) (by omega)
        rw [at0_of hz] at hr
        rw [lastP_at (by omega), show head.length - 1 = k by omega, at0_of hz] at hf
        exact ⟨ad, rfl, by rw [hc, show z = (f : Int) by omega]⟩
      · intro h0
        have : head = [] := List.eq_nil_of_length_eq_zero (by omega)
        subst this
        exact hf.symm
    have HF := hide hf
    have HL := hide hlen
    have HM := hide (And.intro hm hnh)
    rw [hf] at hlast
    clear hh hown hin haw hP hp hq hlen hf hm hnh
    cases nh with
    | zero =>
      have HZ := hide (hf0.2 rfl)
      have e0 : ((0 : Int) == (n' : Int)) = false := by rw [beq_eq_false_iff_ne]; omega
      clear hf0
      go_enter Tryd.func70, Tryd.ntmps70
      go_wp2
      go_loopw [3, 10, 11] (fun o i _ wr => ∃ (j : Nat) (us : List Value), j ≤ p.length - f ∧ i = .int .i64 ((f + j + 1 : Nat) : Int) ∧ Hid (Ints wr B (.slice Ah 0 ch) head ∧ wr.ownsRow B 24 1 o (zss.length + (extK p q m head j).length) (vs ++ us) ∧ Inner wr B (vs ++ us) (zss ++ extK p q m head j) ∧ (∀ x ∈ us, Since w.heap.size x) ∧ Below B w wr ∧ KeepI w wr)) (fun _ i _ _ => (p.length + 1 - (intOf i).toNat))
      case atStart => exact ⟨0, [], Nat.zero_le _, by rw [unhide HZ]; rfl, HC⟩
      case round =>
        obtain ⟨j, us, hj, rfl, HCr⟩ := hrel
        clear HC
        obtain ⟨Ao, co, rfl, _⟩ := Reads.of_own (unhide HCr).2.1
        by_cases hlt : j < p.length - f
        · have hst := own0 wr wr.heap.size (Nat.le_refl _)
          have hal := (Below.refl wr.heap.size wr).alloc (Nat.le_refl _) (.cells #[] 3)
          have hArg := ((unhide HCr).1.arg (by omega) (unhide HCr).1.cap (fun z hz => by have := (unhide HA).2.1.1 z hz; omega)).below hal
          have hBw : B ≤ wr.heap.size := Nat.le_trans hB (unhide HCr).2.2.2.2.1.size
          go_wp2_with (first
            | (at_builtin; refine wpList_append_arg rfl (.tmp 38) (.tmp 39) rfl wr.heap.size _ 0 (0) ch _ _ Ah [] head rfl rfl hst hArg (by omega) hal (by simp) ?_))
          intro v5 w5 hown5 hb5 hg5
          have hs5 := hb5.size
          clear hg5 hst hal hArg
          go_wp2_with (first
            | (at_builtin; refine wpList_append_one rfl (.tmp 40) (.tmp 42) 24 rfl wr.heap.size 3 i0 (.int .i64 0) 8 Tryd.underlying24 hi hz0 hz1 hz2 rfl wr w5 _ _ _ rfl hown5 (.int .i64 ((f + j + 1 : Nat) : Int)) rfl rfl rfl (by omega) (by unfold maxLen; omega) hb5 hs5 ?_))
          intro v6 w6 hown6 hb6 hg6
          rw [i64_snoc] at hown6
          clear hg6 hown5 hb5 hs5
          have hI6 : Ints w6 wr.heap.size v6 (head ++ [((f + j + 1 : Nat) : Int)]) := Ints.of_own hown6
          obtain ⟨A6, c6, rfl, _⟩ := Reads.of_own hown6
          obtain ⟨x1, x2, x3, x4, x5, x6⟩ := unhide HCr
          have y5 : Below B w w6 := x5.trans (hb6.mono hBw)
          have hP6 : PlOK p.length (head ++ [((f + j + 1 : Nat) : Int)]) := PlOK.snoc.2 ⟨(unhide HA).2.1, by rw [unhide HF]; omega, by omega⟩
          have hA6 : Arg w6 w6.heap.size A6 (0 + 1) c6 (head ++ [((f + j + 1 : Nat) : Int)]) := hI6.arg (by omega) hI6.cap (fun z hz => by have := hP6.1 z hz; omega)
          obtain ⟨b, hb⟩ : ∃ b, fitL p q (head ++ [((f + j + 1 : Nat) : Int)]) = b := ⟨_, rfl⟩
          have H1 := hide (l7fits_any A A' A6 n c Bp n' c' Bq _ c6 _ p q _ b hb w6 (h.stay y5 hBp) (h'.stay y5 hBq) hA6 hP6 (by omega) (by have := (unhide HM).1; have := (unhide HM).2; omega))
          have hsn := hI6.since
          have haw6 : ∀ x ∈ vs ++ us, Away x (.slice A6 (0 + 1) c6) := x3.away_new hsn (Nat.le_refl _)
          have hws : w.heap.size ≤ wr.heap.size := x5.size
          have HEX := hide (unhide HX j (by rw [unhide HF]; omega))
          cases b with
          | false =>
            have HE : Hid (extK p q m head (j + 1) = extK p q m head j) := hide (extK_no (by rw [unhide HF]; exact hb))
            have HC6 : Hid (Ints w6 B (.slice Ah 0 ch) head ∧ w6.ownsRow B 24 1 (.slice Ao (zss.length + (extK p q m head j).length) co) (zss.length + (extK p q m head j).length) (vs ++ us) ∧ Inner w6 B (vs ++ us) (zss ++ extK p q m head j) ∧ (∀ x ∈ us, Since w.heap.size x) ∧ Below B w w6 ∧ KeepI w w6) :=
              hide ⟨x1.below hb6, own_below x2 hb6, x3.keepI (KeepI.of_below hb6), x4, y5, x6.trans (KeepI.of_below hb6)⟩
            clear hI6 hown6 hb6 x1 x2 x3 x4 x5 x6 y5 hP6 hA6 hb hsn haw6 HCr HEX
            go_wp2_with fail
            refine (unhide H1).mono ?_
            rintro e w7 ⟨rfl, hd⟩
            have HC7 : Hid (Ints w7 B (.slice Ah 0 ch) head ∧ w7.ownsRow B 24 1 (.slice Ao (zss.length + (extK p q m head j).length) co) (zss.length + (extK p q m head (j + 1)).length) (vs ++ us) ∧ Inner w7 B (vs ++ us) (zss ++ extK p q m head (j + 1)) ∧ (∀ x ∈ us, Since w.heap.size x) ∧ Below B w w7 ∧ KeepI w w7) := hide (by
              obtain ⟨x1, x2, x3, x4, x5, x6⟩ := unhide HC6
              rw [unhide HE]
              exact ⟨x1.below (hd.below _), own_below x2 (hd.below _), x3.keepI hd.keepI, x4, x5.trans (hd.below _), x6.trans hd.keepI⟩)
            clear H1 hd HC6 HE
            go_wp2
            go_roundw
            case rel => exact ⟨j + 1, us, by omega, by go_num, HC7⟩
            case measure => simp [intOf]; omega
          | true =>
            have HE : Hid (extK p q m head (j + 1) = extK p q m head j ++ extL p q m (head ++ [((f + j + 1 : Nat) : Int)])) := hide (by have := extK_yes (p := p) (q := q) (m := m) (head := head) (j := j) (by rw [unhide HF]; exact hb); rwa [unhide HF] at this)
            have H2 := hide (fun (w7 : World) (hd : Below w6.heap.size w6 w7) => ih A A' n c Bp n' c' Bq B p q A6 _ c6 (head ++ [((f + j + 1 : Nat) : Int)]) (.slice Ao (zss.length + (extK p q m head j).length) co) (vs ++ us) (zss ++ extK p q m head j) w7 (h.stay (y5.trans (hd.mono (Nat.le_trans hBw hb6.size))) hBp) (h'.stay (y5.trans (hd.mono (Nat.le_trans hBw hb6.size))) hBq) hBp hBq (Nat.le_trans hBw (Nat.le_trans hb6.size hd.size)) (unhide HA).2.2.1 (unhide HA).2.2.2 (by have := (unhide HM).1; rw [List.length_append, List.length_singleton]; omega) hP6 ((hI6.below hd).low hBw)
              (by rw [List.length_append]; exact own_below (own_below x2 hb6) hd) ((x3.keepI (KeepI.of_below hb6)).keepI (KeepI.of_below hd)) haw6 (by have := unhide HEX; rw [unhide HE, List.length_append] at this; rw [List.length_append]; omega))
            have HC6 := hide (And.intro (x1.below hb6) (And.intro x4 (And.intro y5 (x6.trans (KeepI.of_below hb6)))))
            have hb6s := hb6.size
            clear hI6 hown6 hb6 x1 x2 x3 x4 x5 x6 y5 hP6 hA6 hb haw6 HCr HEX
            go_wp2_with fail
            refine (unhide H1).mono ?_
            rintro e w7 ⟨rfl, hd⟩
            have H3 := hide (unhide H2 w7 (hd.below _))
            clear H1 H2
            go_wp2_with fail
            refine (unhide H3).mono ?_
            rintro e w8 ⟨v8, us2, rfl, o8, i8, hu8, hb8, hk8⟩
            have HC8 : Hid (Ints w8 B (.slice Ah 0 ch) head ∧ w8.ownsRow B 24 1 v8 (zss.length + (extK p q m head (j + 1)).length) (vs ++ (us ++ us2)) ∧ Inner w8 B (vs ++ (us ++ us2)) (zss ++ extK p q m head (j + 1)) ∧ (∀ x ∈ us ++ us2, Since w.heap.size x) ∧ Below B w w8 ∧ KeepI w w8) := hide (by
              obtain ⟨x1, x4, x5, x6⟩ := unhide HC6
              rw [List.append_assoc] at o8 i8
              rw [List.append_assoc, ← unhide HE] at i8
              rw [List.length_append, Nat.add_assoc, ← List.length_append, ← unhide HE] at o8
              refine ⟨(x1.below (hd.below _)).keepI hk8, o8, i8, fun x hx => ?_, (x5.trans (hd.below _)).trans hb8, (x6.trans hd.keepI).trans hk8⟩
              rcases List.mem_append.1 hx with hx | hx
              · exact x4 x hx
              · rcases hu8 x hx with rfl | hx
                · exact hsn.mono hws
                · exact hx.mono (by have := hd.size; omega))
            clear H3 o8 i8 hu8 hb8 hk8 hd HC6 hsn HE
            go_wp2
            go_roundw
            case rel => exact ⟨j + 1, us ++ us2, by omega, by go_num, HC8⟩
            case measure => simp [intOf]; omega
        · obtain rfl : j = p.length - f := by omega
          obtain ⟨x1, x2, x3, x4, x5, x6⟩ := unhide HCr
          have hE : extK p q m head (p.length - f) = extL p q (m + 1) head := by have := extK_all p q m head; rwa [unhide HF] at this
          have HR : Hid (wr.ownsRow B 24 1 (.slice Ao (zss.length + (extK p q m head (p.length - f)).length) co) (zss.length + (extL p q (m + 1) head).length) (vs ++ us) ∧ Inner wr B (vs ++ us) (zss ++ extL p q (m + 1) head) ∧ (∀ x ∈ us, Since w.heap.size x) ∧ Below B w wr ∧ KeepI w wr) :=
            hide ⟨by rw [← hE]; exact x2, by rw [← hE]; exact x3, x4, x5, x6⟩
          clear x1 x2 x3 x4 x5 x6 HCr hE
          go_wp2
          go_ret
          obtain ⟨x2, x3, x4, x5, x6⟩ := unhide HR
          exact ⟨_, us, rfl, x2, x3, fun x hx => .inr (x4 x hx), x5, x6⟩
    | succ nh =>
      obtain ⟨adh, rfl, hcl⟩ := hf0.1 nh rfl
      have hki : ((nh + 1 : Nat) : Int) - 1 = (nh : Int) := by omega
      have e0 : ((nh : Int) + 1 == (n' : Int)) = false := by rw [beq_eq_false_iff_ne]; omega
      clear hf0
      go_enter Tryd.func70, Tryd.ntmps70
      go_wp2
      clear hcl hki
      go_loopw [3, 10, 11] (fun o i _ wr => ∃ (j : Nat) (us : List Value), j ≤ p.length - f ∧ i = .int .i64 ((f + j + 1 : Nat) : Int) ∧ Hid (Ints wr B (.slice (some adh) (nh + 1) ch) head ∧ wr.ownsRow B 24 1 o (zss.length + (extK p q m head j).length) (vs ++ us) ∧ Inner wr B (vs ++ us) (zss ++ extK p q m head j) ∧ (∀ x ∈ us, Since w.heap.size x) ∧ Below B w wr ∧ KeepI w wr)) (fun _ i _ _ => (p.length + 1 - (intOf i).toNat))
      case atStart => exact ⟨0, [], Nat.zero_le _, by go_num, HC⟩
      case round =>
        obtain ⟨j, us, hj, rfl, HCr⟩ := hrel
        clear HC
        obtain ⟨Ao, co, rfl, _⟩ := Reads.of_own (unhide HCr).2.1
        by_cases hlt : j < p.length - f
        · have hst := own0 wr wr.heap.size (Nat.le_refl _)
          have hal := (Below.refl wr.heap.size wr).alloc (Nat.le_refl _) (.cells #[] 3)
          have hArg := ((unhide HCr).1.arg (by omega) (unhide HCr).1.cap (fun z hz => by have := (unhide HA).2.1.1 z hz; omega)).below hal
          have hBw : B ≤ wr.heap.size := Nat.le_trans hB (unhide HCr).2.2.2.2.1.size
          go_wp2_with (first
            | (at_builtin; refine wpList_append_arg rfl (.tmp 38) (.tmp 39) rfl wr.heap.size _ 0 ((nh + 1)) ch _ _ (some adh) [] head rfl rfl hst hArg (by omega) hal (by simp) ?_))
          intro v5 w5 hown5 hb5 hg5
          have hs5 := hb5.size
          clear hg5 hst hal hArg
          go_wp2_with (first
            | (at_builtin; refine wpList_append_one rfl (.tmp 40) (.tmp 42) 24 rfl wr.heap.size 3 i0 (.int .i64 0) 8 Tryd.underlying24 hi hz0 hz1 hz2 rfl wr w5 _ _ _ rfl hown5 (.int .i64 ((f + j + 1 : Nat) : Int)) rfl rfl rfl (by omega) (by unfold maxLen; omega) hb5 hs5 ?_))
          intro v6 w6 hown6 hb6 hg6
          rw [i64_snoc] at hown6
          clear hg6 hown5 hb5 hs5
          have hI6 : Ints w6 wr.heap.size v6 (head ++ [((f + j + 1 : Nat) : Int)]) := Ints.of_own hown6
          obtain ⟨A6, c6, rfl, _⟩ := Reads.of_own hown6
          obtain ⟨x1, x2, x3, x4, x5, x6⟩ := unhide HCr
          have y5 : Below B w w6 := x5.trans (hb6.mono hBw)
          have hP6 : PlOK p.length (head ++ [((f + j + 1 : Nat) : Int)]) := PlOK.snoc.2 ⟨(unhide HA).2.1, by rw [unhide HF]; omega, by omega⟩
          have hA6 : Arg w6 w6.heap.size A6 ((nh + 1) + 1) c6 (head ++ [((f + j + 1 : Nat) : Int)]) := hI6.arg (by omega) hI6.cap (fun z hz => by have := hP6.1 z hz; omega)
          obtain ⟨b, hb⟩ : ∃ b, fitL p q (head ++ [((f + j + 1 : Nat) : Int)]) = b := ⟨_, rfl⟩
          have H1 := hide (l7fits_any A A' A6 n c Bp n' c' Bq _ c6 _ p q _ b hb w6 (h.stay y5 hBp) (h'.stay y5 hBq) hA6 hP6 (by omega) (by have := (unhide HM).1; have := (unhide HM).2; omega))
          have hsn := hI6.since
          have haw6 : ∀ x ∈ vs ++ us, Away x (.slice A6 ((nh + 1) + 1) c6) := x3.away_new hsn (Nat.le_refl _)
          have hws : w.heap.size ≤ wr.heap.size := x5.size
          have HEX := hide (unhide HX j (by rw [unhide HF]; omega))
          cases b with
          | false =>
            have HE : Hid (extK p q m head (j + 1) = extK p q m head j) := hide (extK_no (by rw [unhide HF]; exact hb))
            have HC6 : Hid (Ints w6 B (.slice (some adh) (nh + 1) ch) head ∧ w6.ownsRow B 24 1 (.slice Ao (zss.length + (extK p q m head j).length) co) (zss.length + (extK p q m head j).length) (vs ++ us) ∧ Inner w6 B (vs ++ us) (zss ++ extK p q m head j) ∧ (∀ x ∈ us, Since w.heap.size x) ∧ Below B w w6 ∧ KeepI w w6) :=
              hide ⟨x1.below hb6, own_below x2 hb6, x3.keepI (KeepI.of_below hb6), x4, y5, x6.trans (KeepI.of_below hb6)⟩
            clear hI6 hown6 hb6 x1 x2 x3 x4 x5 x6 y5 hP6 hA6 hb hsn haw6 HCr HEX
            go_wp2_with fail
            refine (unhide H1).mono ?_
            rintro e w7 ⟨rfl, hd⟩
            have HC7 : Hid (Ints w7 B (.slice (some adh) (nh + 1) ch) head ∧ w7.ownsRow B 24 1 (.slice Ao (zss.length + (extK p q m head j).length) co) (zss.length + (extK p q m head (j + 1)).length) (vs ++ us) ∧ Inner w7 B (vs ++ us) (zss ++ extK p q m head (j + 1)) ∧ (∀ x ∈ us, Since w.heap.size x) ∧ Below B w w7 ∧ KeepI w w7) := hide (by
              obtain ⟨x1, x2, x3, x4, x5, x6⟩ := unhide HC6
              rw [unhide HE]
              exact ⟨x1.below (hd.below _), own_below x2 (hd.below _), x3.keepI hd.keepI, x4, x5.trans (hd.below _), x6.trans hd.keepI⟩)
            clear H1 hd HC6 HE
            go_wp2
            go_roundw
            case rel => exact ⟨j + 1, us, by omega, by go_num, HC7⟩
            case measure => simp [intOf]; omega
          | true =>
            have HE : Hid (extK p q m head (j + 1) = extK p q m head j ++ extL p q m (head ++ [((f + j + 1 : Nat) : Int)])) := hide (by have := extK_yes (p := p) (q := q) (m := m) (head := head) (j := j) (by rw [unhide HF]; exact hb); rwa [unhide HF] at this)
            have H2 := hide (fun (w7 : World) (hd : Below w6.heap.size w6 w7) => ih A A' n c Bp n' c' Bq B p q A6 _ c6 (head ++ [((f + j + 1 : Nat) : Int)]) (.slice Ao (zss.length + (extK p q m head j).length) co) (vs ++ us) (zss ++ extK p q m head j) w7 (h.stay (y5.trans (hd.mono (Nat.le_trans hBw hb6.size))) hBp) (h'.stay (y5.trans (hd.mono (Nat.le_trans hBw hb6.size))) hBq) hBp hBq (Nat.le_trans hBw (Nat.le_trans hb6.size hd.size)) (unhide HA).2.2.1 (unhide HA).2.2.2 (by have := (unhide HM).1; rw [List.length_append, List.length_singleton]; omega) hP6 ((hI6.below hd).low hBw)
              (by rw [List.length_append]; exact own_below (own_below x2 hb6) hd) ((x3.keepI (KeepI.of_below hb6)).keepI (KeepI.of_below hd)) haw6 (by have := unhide HEX; rw [unhide HE, List.length_append] at this; rw [List.length_append]; omega))
            have HC6 := hide (And.intro (x1.below hb6) (And.intro x4 (And.intro y5 (x6.trans (KeepI.of_below hb6)))))
            have hb6s := hb6.size
            clear hI6 hown6 hb6 x1 x2 x3 x4 x5 x6 y5 hP6 hA6 hb haw6 HCr HEX
            go_wp2_with fail
            refine (unhide H1).mono ?_
            rintro e w7 ⟨rfl, hd⟩
            have H3 := hide (unhide H2 w7 (hd.below _))
            clear H1 H2
            go_wp2_with fail
            refine (unhide H3).mono ?_
            rintro e w8 ⟨v8, us2, rfl, o8, i8, hu8, hb8, hk8⟩
            have HC8 : Hid (Ints w8 B (.slice (some adh) (nh + 1) ch) head ∧ w8.ownsRow B 24 1 v8 (zss.length + (extK p q m head (j + 1)).length) (vs ++ (us ++ us2)) ∧ Inner w8 B (vs ++ (us ++ us2)) (zss ++ extK p q m head (j + 1)) ∧ (∀ x ∈ us ++ us2, Since w.heap.size x) ∧ Below B w w8 ∧ KeepI w w8) := hide (by
              obtain ⟨x1, x4, x5, x6⟩ := unhide HC6
              rw [List.append_assoc] at o8 i8
              rw [List.append_assoc, ← unhide HE] at i8
              rw [List.length_append, Nat.add_assoc, ← List.length_append, ← unhide HE] at o8
              refine ⟨(x1.below (hd.below _)).keepI hk8, o8, i8, fun x hx => ?_, (x5.trans (hd.below _)).trans hb8, (x6.trans hd.keepI).trans hk8⟩
              rcases List.mem_append.1 hx with hx | hx
              · exact x4 x hx
              · rcases hu8 x hx with rfl | hx
                · exact hsn.mono hws
                · exact hx.mono (by have := hd.size; omega))
            clear H3 o8 i8 hu8 hb8 hk8 hd HC6 hsn HE
            go_wp2
            go_roundw
            case rel => exact ⟨j + 1, us ++ us2, by omega, by go_num, HC8⟩
            case measure => simp [intOf]; omega
        · obtain rfl : j = p.length - f := by omega
          obtain ⟨x1, x2, x3, x4, x5, x6⟩ := unhide HCr
          have hE : extK p q m head (p.length - f) = extL p q (m + 1) head := by have := extK_all p q m head; rwa [unhide HF] at this
          have HR : Hid (wr.ownsRow B 24 1 (.slice Ao (zss.length + (extK p q m head (p.length - f)).length) co) (zss.length + (extL p q (m + 1) head).length) (vs ++ us) ∧ Inner wr B (vs ++ us) (zss ++ extL p q (m + 1) head) ∧ (∀ x ∈ us, Since w.heap.size x) ∧ Below B w wr ∧ KeepI w wr) :=
            hide ⟨by rw [← hE]; exact x2, by rw [← hE]; exact x3, x4, x5, x6⟩
          clear x1 x2 x3 x4 x5 x6 HCr hE
          go_wp2
          go_ret
          obtain ⟨x2, x3, x4, x5, x6⟩ := unhide HR
          exact ⟨_, us, rfl, x2, x3, fun x hx => .inr (x4 x hx), x5, x6⟩
end Go.Proofs.YtichenjbkclljaaDoor


/-
  spec.OccurrencesOf, spec.CountPattern, spec.HasPattern, spec.IsOccurrence, by their contracts.
-/

namespace Go.Proofs.YtichenjbkclljaaDoor
set_option maxRecDepth 100000
open Go.RowKit

set_option maxHeartbeats 800000 in
theorem soccs_any (A A' : Option Addr) (n c B n' c' B' : Nat) (p q : List Int) (w : World) (h : Arg w B A n c p) (h' : Arg w B' A' n' c' q) :
    Calls Tryd.prog 46 #[.slice A n c, .slice A' n' c'] w (GivesSS w (occR p q)) := by
  obtain ⟨b, hb⟩ : ∃ b, isP p = b := ⟨_, rfl⟩
  obtain ⟨b', hb'⟩ : ∃ b, isP q = b := ⟨_, rfl⟩
  have H0 := hide (sisperm_any A n c B p b hb w h.reads h.le h.cap)
  cases b with
  | false =>
    have HR := hide (occR_no (p := p) (q := q) (.inl hb))
    rw [unhide HR]
    clear h h' hb hb'
    go_enter Tryd.func46, Tryd.ntmps46
    go_wp2_with fail
    refine (unhide H0).mono ?_
    rintro e w1 ⟨rfl, hd⟩
    have hb1 := hd.below w.heap.size
    have hm := IntsS.made0 w1 w.heap.size hb1.size
    clear H0 hd
    go_wp2
    go_ret
    exact GivesSS.mk hm (hb1.alloc hb1.size _)
  | true =>
    have H1 := hide (fun w' (hb'' : Below w.heap.size w w') => sisperm_any A' n' c' B' q b' hb' w' (h'.below hb'').reads h'.le h'.cap)
    cases b' with
    | false =>
      have HR := hide (occR_no (p := p) (q := q) (.inr hb'))
      rw [unhide HR]
      clear h h' hb hb'
      go_enter Tryd.func46, Tryd.ntmps46
      go_wp2_with fail
      refine (unhide H0).mono ?_
      rintro e w1 ⟨rfl, hd⟩
      have hb1 := hd.below w.heap.size
      have H2 := hide (unhide H1 w1 hb1)
      clear H0 H1 hd
      go_wp2_with fail
      refine (unhide H2).mono ?_
      rintro e w2 ⟨rfl, hd2⟩
      have hb2 := hb1.trans (hd2.below _)
      have hm := IntsS.made0 w2 w.heap.size hb2.size
      clear H2 hd2 hb1
      go_wp2
      go_ret
      exact GivesSS.mk hm (hb2.alloc hb2.size _)
    | true =>
      have HR := hide (occR_yes hb hb')
      have hsz := occ_size p q hb
      rw [unhide HR] at hsz ⊢
      have H3 := hide (fun (w' : World) (hx : Below w.heap.size w w') => l7find_any q.length A A' n c B n' c' B' w.heap.size p q (some ⟨w'.heap.size, 0, none⟩) 0 0 [] (.slice (some ⟨w'.heap.size + 1, 0, none⟩) 0 0) [] []
        ((w'.alloc (.cells #[] 3)).alloc (.cells #[] 24)) (h.below ((hx.alloc hx.size _).alloc (by have := hx.size; simp; omega) _)) (h'.below ((hx.alloc hx.size _).alloc (by have := hx.size; simp; omega) _)) h.under h'.under (by have := hx.size; simp; omega) hb hb' (by simp) (PlOK.nil _)
        ((Ints.made0 w' w.heap.size hx.size).below ((Below.refl _ _).alloc (Nat.le_refl _) _)) (by have := ownS0 (w'.alloc (.cells #[] 3)) w.heap.size (by have := hx.size; simp; omega); rw [World.size_alloc] at this; exact this) (Inner.nil _ _) (fun x hx => by cases hx) (by simp only [List.length_nil]; omega))
      clear h h' hb hb' hsz
      go_enter Tryd.func46, Tryd.ntmps46
      go_wp2_with fail
      refine (unhide H0).mono ?_
      rintro e w1 ⟨rfl, hd⟩
      have hb1 := hd.below w.heap.size
      have H2 := hide (unhide H1 w1 hb1)
      clear H0 H1 hd
      go_wp2_with fail
      refine (unhide H2).mono ?_
      rintro e w2 ⟨rfl, hd2⟩
      have hb2 := hb1.trans (hd2.below _)
      have H4 := hide (unhide H3 w2 hb2)
      clear H2 H3 hd2 hb1
      go_wp2_with fail
      refine (unhide H4).mono ?_
      rintro e w5 ⟨v, us, rfl, o5, i5, _, hb5, _⟩
      have hS : IntsS w5 w.heap.size v (extL p q q.length []) := ⟨us, by simpa using o5, by simpa using i5⟩
      have hb6 := ((hb2.alloc hb2.size (.cells #[] 3)).alloc (by have := hb2.size; simp; omega) (.cells #[] 24)).trans hb5
      clear H4 o5 i5 hb5
      go_wp2
      go_ret
      exact GivesSS.mk hS hb6
/-- How often q occurs in p. -/
def numOcc (p q : List Int) : Int := if isP p && isP q then ((occR p q).length : Int) else -1
set_option maxHeartbeats 800000 in
theorem scnt_any (A A' : Option Addr) (n c B n' c' B' : Nat) (p q : List Int) (w : World) (h : Arg w B A n c p) (h' : Arg w B' A' n' c' q) :
    Calls Tryd.prog 22 #[.slice A n c, .slice A' n' c'] w fun e w' => e = .returned (.int .i64 (numOcc p q)) ∧ Below w.heap.size w w' := by
  obtain ⟨b, hb⟩ : ∃ b, isP p = b := ⟨_, rfl⟩
  obtain ⟨b', hb'⟩ : ∃ b, isP q = b := ⟨_, rfl⟩
  have H0 := hide (sisperm_any A n c B p b hb w h.reads h.le h.cap)
  have H1 := hide (fun w' (hx : Below w.heap.size w w') => sisperm_any A' n' c' B' q b' hb' w' (h'.below hx).reads h'.le h'.cap)
  cases b with
  | false =>
    have e : numOcc p q = -1 := by unfold numOcc; rw [hb]; rfl
    rw [e]
    clear h h' hb hb' e H1
    go_enter Tryd.func22, Tryd.ntmps22
    go_wp2_with fail
    refine (unhide H0).mono ?_
    rintro e w1 ⟨rfl, hd⟩
    have hb1 := hd.below w.heap.size
    clear H0 hd
    go_wp2
    go_ret
    exact ⟨rfl, hb1⟩
  | true =>
    cases b' with
    | false =>
      have e : numOcc p q = -1 := by unfold numOcc; rw [hb, hb']; rfl
      rw [e]
      clear h h' hb hb' e
      go_enter Tryd.func22, Tryd.ntmps22
      go_wp2_with fail
      refine (unhide H0).mono ?_
      rintro e w1 ⟨rfl, hd⟩
      have hb1 := hd.below w.heap.size
      have H2 := hide (unhide H1 w1 hb1)
      clear H0 H1 hd
      go_wp2_with fail
      refine (unhide H2).mono ?_
      rintro e w2 ⟨rfl, hd2⟩
      have hb2 := hb1.trans (hd2.below _)
      clear H2 hd2 hb1
      go_wp2
      go_ret
      exact ⟨rfl, hb2⟩
    | true =>
      have e : numOcc p q = ((occR p q).length : Int) := by unfold numOcc; rw [hb, hb']; rfl
      rw [e]
      have H3 := hide (fun w' (hx : Below w.heap.size w w') => soccs_any A A' n c B n' c' B' p q w' (h.below hx) (h'.below hx))
      have hsz := occ_size p q hb
      obtain ⟨R, hR⟩ : ∃ R, occR p q = R := ⟨_, rfl⟩
      rw [hR] at H3 hsz ⊢
      clear h h' hb hb' e hR
      go_enter Tryd.func22, Tryd.ntmps22
      go_wp2_with fail
      refine (unhide H0).mono ?_
      rintro e w1 ⟨rfl, hd⟩
      have hb1 := hd.below w.heap.size
      have H2 := hide (unhide H1 w1 hb1)
      clear H0 H1 hd
      go_wp2_with fail
      refine (unhide H2).mono ?_
      rintro e w2 ⟨rfl, hd2⟩
      have hb2 := hb1.trans (hd2.below _)
      have H4 := hide (unhide H3 w2 hb2)
      clear H2 H3 hd2 hb1
      go_wp2_with fail
      refine (unhide H4).mono ?_
      rintro e w3 ⟨A3, c3, rfl, hS, hb3⟩
      have hb4 := below_after hb2 hb3
      clear H4 hS hb3
      go_wp2
      go_ret
      exact ⟨rfl, hb4⟩
def hasR (p q : List Int) : Bool := decide (1 ≤ numOcc p q)
theorem numOcc_rng (p q : List Int) : -1 ≤ numOcc p q ∧ numOcc p q ≤ 256 := by
  unfold numOcc
  by_cases h : (isP p && isP q) = true
  · rw [if_pos h]
    have := occ_size p q (by simp at h; exact h.1)
    omega
  · rw [if_neg h]; omega
end Go.Proofs.YtichenjbkclljaaDoor


/-
  spec.l7Without, spec.WithoutPlace, spec.LowersOf, by their contracts.
-/

namespace Go.Proofs.YtichenjbkclljaaDoor
set_option maxRecDepth 100000
open Go.RowKit

theorem place_nat' {n : Nat} {x : Int} (h : 1 ≤ x ∧ x ≤ (n : Int)) : ∃ X : Nat, x = ((X + 1 : Nat) : Int) ∧ X < n := ⟨x.toNat - 1, by omega, by omega⟩
/-- A list without the number at index k. -/
def cutAt (p : List Int) (k : Nat) : List Int := p.take k ++ p.drop (k + 1)
theorem cutAt_len {p : List Int} {k : Nat} (h : k < p.length) : (cutAt p k).length + 1 = p.length := by
  unfold cutAt
  rw [List.length_append, List.length_take, List.length_drop]; omega
theorem cutAt_sub (p : List Int) (k : Nat) : (cutAt p k).Sublist p := by
  have h : (p.take k ++ p.drop (k + 1)).Sublist (p.take k ++ p.drop k) := (List.Sublist.refl _).append (by
    rw [← List.drop_drop]; exact List.drop_sublist _ _)
  rwa [List.take_append_drop] at h
theorem cutAt_isP {p : List Int} (hp : isP p = true) (k : Nat) : isP (patL (cutAt p k)) = true := by
  rw [isP_pat]
  have h := isP_true.1 hp
  exact patOK_yes (Nat.le_trans (cutAt_sub p k).length_le (isP_le hp)) (h.2.2.sublist (cutAt_sub p k))

def wplOK (p : List Int) (x : Int) : Bool := isP p && decide (1 ≤ x ∧ x ≤ (p.length : Int))
def wplR (p : List Int) (x : Int) : List Int := if wplOK p x then patL (cutAt p (x.toNat - 1)) else []
theorem wplR_yes {p : List Int} {x : Int} (h : wplOK p x = true) : wplR p x = patL (cutAt p (x.toNat - 1)) := by unfold wplR; rw [if_pos h]
theorem wplR_no {p : List Int} {x : Int} (h : wplOK p x = false) : wplR p x = [] := by unfold wplR; rw [if_neg (by simp [h])]
theorem wplR_le (p : List Int) (x : Int) : (wplR p x).length ≤ 8 := by
  cases h : wplOK p x with
  | false => rw [wplR_no h]; exact Nat.zero_le _
  | true =>
    have hp : isP p = true := by unfold wplOK at h; simp at h; exact h.1
    rw [wplR_yes h]
    exact isP_le (cutAt_isP hp _)
/-- The patterns without one of the first k indices, in order. -/
def lowK (p : List Int) (k : Nat) : List (List Int) := ((List.range k).map fun i => patL (cutAt p i)).foldl putL []
theorem lowK_step (p : List Int) (k : Nat) : lowK p (k + 1) = putL (lowK p k) (patL (cutAt p k)) := by
  unfold lowK
  rw [List.range_succ, List.map_append, List.foldl_append]; rfl
theorem lowK_all {p : List Int} (hp : isP p = true) : ∀ k, ∀ z ∈ lowK p k, isP z = true
  | 0, z, hz => by simp [lowK] at hz
  | k + 1, z, hz => by
    rw [lowK_step, mem_putL] at hz
    rcases hz with hz | rfl
    · exact lowK_all hp k z hz
    · exact cutAt_isP hp k
theorem lowK_len (p : List Int) : ∀ k, (lowK p k).length ≤ k
  | 0 => by simp [lowK]
  | k + 1 => by
    have h1 := lowK_len p k
    have h2 := (putL_len (lowK p k) (patL (cutAt p k))).2
    rw [lowK_step]; omega
def lowR (p : List Int) : List (List Int) := if isP p then lowK p p.length else []
theorem lowR_yes {p : List Int} (h : isP p = true) : lowR p = lowK p p.length := by unfold lowR; rw [if_pos h]
theorem lowR_no {p : List Int} (h : isP p = false) : lowR p = [] := by unfold lowR; rw [if_neg (by simp [h])]
end Go.Proofs.YtichenjbkclljaaDoor


/-
  spec.PatternsIn, by its contract.
-/

namespace Go.Proofs.YtichenjbkclljaaDoor
set_option maxRecDepth 100000
open Go.RowKit

/-- The numbers at those of the first k indices whose bit is set. -/
def subK (p : List Int) (s : Nat) : Nat → List Int
  | 0 => []
  | k + 1 => if s.testBit k then subK p s k ++ [at0 p k] else subK p s k
theorem subK_len (p : List Int) (s : Nat) : ∀ k, (subK p s k).length ≤ k
  | 0 => Nat.le_refl _
  | k + 1 => by
    have := subK_len p s k
    rw [subK]; split <;> simp <;> omega
/-- The patterns of length k of the first s sets of indices, in order. -/
def patK (p : List Int) (k : Int) : Nat → List (List Int)
  | 0 => []
  | s + 1 => if ((subK p s p.length).length : Int) = k then putL (patK p k s) (patL (subK p s p.length)) else patK p k s
def patsOK (p : List Int) (k : Int) : Bool := isP p && decide (0 ≤ k ∧ k ≤ (p.length : Int))
def patsR (p : List Int) (k : Int) : List (List Int) := if patsOK p k then patK p k (2 ^ p.length) else []

theorem bit_test (s k : Nat) (hs : s ≤ 256) : (bits .and .i64 ((s : Int) / 2 ^ k) 1 == 1) = s.testBit k := by
  have h0 : (s : Int) / 2 ^ k = ((s / 2 ^ k : Nat) : Int) := by push_cast; rfl
  have hle : s / 2 ^ k ≤ s := Nat.div_le_self _ _
  have h1 : bits .and .i64 ((s / 2 ^ k : Nat) : Int) 1 = ((s / 2 ^ k % 2 : Nat) : Int) := by
    have := bits_mask .i64 63 (by decide) (fun n h0 h1 => by rw [IntKind.wrap_i64]; omega) 1 (by decide) ((s / 2 ^ k : Nat) : Int) (Int.natCast_nonneg _) (Int.lt_of_le_of_lt (Int.ofNat_le.2 hle) (by omega))
    simpa using this
  rw [h0, h1, Nat.testBit_eq_decide_div_mod_eq]
  by_cases h : s / 2 ^ k % 2 = 1
  · rw [h]; rfl
  · have h2 : s / 2 ^ k % 2 = 0 := by omega
    rw [h2]; rfl
theorem patK_len (p : List Int) (k : Int) : ∀ s, (patK p k s).length ≤ s
  | 0 => Nat.le_refl _
  | s + 1 => by
    have h1 := patK_len p k s
    have h2 := (putL_len (patK p k s) (patL (subK p s p.length))).2
    rw [patK]; split <;> omega
theorem subK_sub (p : List Int) (s : Nat) : ∀ k, k ≤ p.length → (subK p s k).Sublist (p.take k)
  | 0, _ => by simp [subK]
  | k + 1, hk => by
    have ih := subK_sub p s k (by omega)
    rw [take_snoc_i (at0_some (show k < p.length by omega)), subK]
    split
    · exact ih.append (List.Sublist.refl _)
    · exact ih.trans (List.sublist_append_left _ _)
theorem subK_isP {p : List Int} (hp : isP p = true) (s : Nat) : isP (patL (subK p s p.length)) = true := by
  have h := subK_sub p s p.length (Nat.le_refl _)
  rw [List.take_length] at h
  rw [isP_pat]
  exact patOK_yes (Nat.le_trans h.length_le (isP_le hp)) ((isP_true.1 hp).2.2.sublist h)
theorem patK_all {p : List Int} (hp : isP p = true) (k : Int) : ∀ s, ∀ z ∈ patK p k s, isP z = true
  | 0, z, hz => by simp [patK] at hz
  | s + 1, z, hz => by
    rw [patK] at hz
    split at hz
    · rcases mem_putL.1 hz with hz | rfl
      · exact patK_all hp k s z hz
      · exact subK_isP hp s
    · exact patK_all hp k s z hz
theorem patK_yes {p : List Int} {k : Int} {s : Nat} (h : ((subK p s p.length).length : Int) = k) : patK p k (s + 1) = putL (patK p k s) (patL (subK p s p.length)) := by rw [patK, if_pos h]
theorem patK_no {p : List Int} {k : Int} {s : Nat} (h : ¬ ((subK p s p.length).length : Int) = k) : patK p k (s + 1) = patK p k s := by rw [patK, if_neg h]
theorem patsR_yes {p : List Int} {k : Int} (h : patsOK p k = true) : patsR p k = patK p k (2 ^ p.length) := by unfold patsR; rw [if_pos h]
theorem patsR_no {p : List Int} {k : Int} (h : patsOK p k = false) : patsR p k = [] := by unfold patsR; rw [if_neg (by simp [h])]

end Go.Proofs.YtichenjbkclljaaDoor


/-
  PLAIN: patterns of patterns are patterns; what FnPatterns needs of them.
-/

namespace Go.Proofs.YtichenjbkclljaaDoor
set_option maxRecDepth 100000

theorem hasR_yes {p q : List Int} (hp : isP p = true) (hq : isP q = true) (h : 0 < (occR p q).length) : hasR p q = true := by
  unfold hasR numOcc
  rw [if_pos (by simp [hp, hq])]
  exact decide_eq_true (by omega)
theorem hasR_iff {p q : List Int} (hp : isP p = true) (hq : isP q = true) : hasR p q = true ↔ ∃ pl, PlOK p.length pl ∧ pl.length = q.length ∧ Alike (nums p pl) q := by
  constructor
  · intro h
    unfold hasR numOcc at h
    rw [if_pos (by simp [hp, hq])] at h
    have := of_decide_eq_true h
    obtain ⟨pl, hpl⟩ := List.exists_mem_of_length_pos (show 0 < (occR p q).length by omega)
    obtain ⟨_, _, h3, h4, h5⟩ := isOcc_iff.1 (mem_occ.1 hpl)
    exact ⟨pl, h4, h3, (pat_eq_iff hq).1 h5⟩
  · rintro ⟨pl, h1, h2, h3⟩
    exact hasR_yes hp hq (List.length_pos_of_mem (a := pl) (mem_occ.2 (isOcc_iff.2 ⟨hp, hq, h2, h1, (pat_eq_iff hq).2 h3⟩)))
theorem hasR_sub {p s : List Int} (hp : isP p = true) (h : s.Sublist p) (hs : isP (patL s) = true) : hasR p (patL s) = true := hasR_yes hp hs (occ_sub hp h hs)
theorem numOcc_yes {p q : List Int} (hp : isP p = true) (hq : isP q = true) : numOcc p q = ((occR p q).length : Int) := by unfold numOcc; rw [if_pos (by simp [hp, hq])]
theorem num_inv {p q : List Int} (hp : isP p = true) (hq : isP q = true) : numOcc (invR p) (invR q) = ((occR p q).length : Int) := by
  rw [invR_yes hp, invR_yes hq]
  have := occ_inv_len hp hq
  unfold invL at this
  rw [numOcc_yes (isP_inv hp) (isP_inv hq), this]
theorem num_rev {p q : List Int} (hp : isP p = true) (hq : isP q = true) : numOcc (revR p) (revR q) = ((occR p q).length : Int) := by
  rw [revR_yes hp, revR_yes hq, numOcc_yes (isP_rev hp) (isP_rev hq), occ_rev_len]
/-- Each pattern is one. -/
theorem patK_mem {p : List Int} {k : Int} : ∀ {s : Nat} {x : List Int}, x ∈ patK p k s → ∃ t, x = patL (subK p t p.length)
  | 0, x, h => by rw [show patK p k 0 = [] from rfl] at h; cases h
  | s + 1, x, h => by
    by_cases hk : ((subK p s p.length).length : Int) = k
    · rw [patK_yes hk, mem_putL] at h
      rcases h with h | h
      · exact patK_mem h
      · exact ⟨s, h⟩
    · rw [patK_no hk] at h
      exact patK_mem h
theorem pats_has {p x : List Int} {k : Int} (h : x ∈ patsR p k) : hasR p x = true := by
  cases hk : patsOK p k with
  | false => rw [patsR_no hk] at h; cases h
  | true =>
    have hp : isP p = true := by unfold patsOK at hk; rw [Bool.and_eq_true] at hk; exact hk.1
    rw [patsR_yes hk] at h
    obtain ⟨t, rfl⟩ := patK_mem h
    refine hasR_sub hp ?_ (subK_isP hp t)
    have := subK_sub p t p.length (Nat.le_refl _)
    rwa [List.take_length] at this
theorem wpl_has {p : List Int} {x : Int} (h : wplOK p x = true) : hasR p (wplR p x) = true := by
  have hp : isP p = true := by unfold wplOK at h; rw [Bool.and_eq_true] at h; exact h.1
  rw [wplR_yes h]
  exact hasR_sub hp (cutAt_sub p _) (cutAt_isP hp _)
theorem wpl_low {p : List Int} {x : Int} (h : wplOK p x = true) : wplR p x ∈ lowR p := by
  have hp : isP p = true := by unfold wplOK at h; rw [Bool.and_eq_true] at h; exact h.1
  have hx : 1 ≤ x ∧ x ≤ (p.length : Int) := by unfold wplOK at h; rw [Bool.and_eq_true] at h; exact of_decide_eq_true h.2
  rw [wplR_yes h, lowR_yes hp]
  unfold lowK
  rw [(foldl_put _ [] List.Pairwise.nil).2.1]
  refine .inr (List.mem_map.2 ⟨x.toNat - 1, List.mem_range.2 (by omega), rfl⟩)
/-! how much it is -/
theorem tot_room (m : Nat) : ∀ l : List (List Int), (∀ z ∈ l, z.length ≤ m) → tot l ≤ m * l.length
  | [], _ => by simp [tot]
  | z :: l, h => by
    have h1 := h z (by simp)
    have h2 := tot_room m l fun y hy => h y (by simp [hy])
    simp only [tot, List.length_cons, List.map_cons, List.sum_cons, Nat.mul_add, Nat.mul_one] at h2 ⊢
    omega
theorem occ_room (p q : List Int) : (occR p q).length ≤ 256 ∧ tot (occR p q) ≤ 2048 := by
  have ht := tot_room 8 (occR p q) fun z hz => by
    obtain ⟨_, h2, h3, _⟩ := isOcc_iff.1 (mem_occ.1 hz)
    have := isP_le h2
    omega
  have hnum := numOcc_rng p q
  have h8 : (occR p q).length ≤ 256 := by
    cases hpp : isP p with
    | false => rw [occR_no (.inl hpp)]; simp
    | true =>
      cases hqq : isP q with
      | false => rw [occR_no (.inr hqq)]; simp
      | true => rw [numOcc_yes hpp hqq] at hnum; omega
  exact ⟨h8, by omega⟩
theorem pats_all {p z : List Int} {k : Int} (h : z ∈ patsR p k) : isP z = true := by
  cases hk : patsOK p k with
  | false => rw [patsR_no hk] at h; cases h
  | true =>
    have hp : isP p = true := by unfold patsOK at hk; rw [Bool.and_eq_true] at hk; exact hk.1
    rw [patsR_yes hk] at h
    exact patK_all hp k _ z h
theorem pats_size (p : List Int) (k : Int) : (patsR p k).length ≤ 256 ∧ tot (patsR p k) ≤ 2048 := by
  have ht := tot_room 8 (patsR p k) fun z hz => isP_le (pats_all hz)
  have h8 : (patsR p k).length ≤ 256 := by
    cases hk : patsOK p k with
    | false => rw [patsR_no hk]; simp
    | true =>
      have hp : isP p = true := by unfold patsOK at hk; rw [Bool.and_eq_true] at hk; exact hk.1
      rw [patsR_yes hk]
      have h1 := patK_len p k (2 ^ p.length)
      have h2 : 2 ^ p.length ≤ 2 ^ 8 := Nat.pow_le_pow_right (by omega) (isP_le hp)
      omega
  exact ⟨h8, by omega⟩
theorem low_all {p z : List Int} (h : z ∈ lowR p) : isP z = true := by
  cases hp : isP p with
  | false => rw [lowR_no hp] at h; cases h
  | true => rw [lowR_yes hp] at h; exact lowK_all hp _ z h
theorem low_size (p : List Int) : (lowR p).length ≤ 8 ∧ tot (lowR p) ≤ 64 := by
  have ht := tot_room 8 (lowR p) fun z hz => isP_le (low_all hz)
  have h8 : (lowR p).length ≤ 8 := by
    cases hp : isP p with
    | false => rw [lowR_no hp]; simp
    | true =>
      rw [lowR_yes hp]
      have h1 := lowK_len p p.length
      have := isP_le hp
      omega
  exact ⟨h8, by omega⟩
theorem occ_is {p q pl : List Int} (h : pl ∈ occR p q) : isOcc p q pl = true := mem_occ.1 h
end Go.Proofs.YtichenjbkclljaaDoor


/-
  spec.l8Fits, spec.IsNear, spec.CountNear, by their contracts.
-/

namespace Go.Proofs.YtichenjbkclljaaDoor
set_option maxRecDepth 100000
open Go.RowKit

theorem fitJ_step {J pl : List Int} {k : Nat} {x : Int} (hx : J[k]? = some x) (h : fitJ (J.take k) pl = true) (hf : at0 pl x.toNat = at0 pl (x.toNat - 1) + 1) : fitJ (J.take (k + 1)) pl = true := by
  rw [fitJ_iff] at h ⊢
  intro j hj
  rw [take_snoc_i hx, List.mem_append, List.mem_singleton] at hj
  rcases hj with hj | rfl
  · exact h j hj
  · exact hf
theorem fitJ_no {J pl : List Int} {k : Nat} {x : Int} (hx : J[k]? = some x) (hf : ¬ at0 pl x.toNat = at0 pl (x.toNat - 1) + 1) : fitJ J pl = false := by
  cases h : fitJ J pl with
  | false => rfl
  | true => exact absurd (fitJ_iff.1 h x (List.mem_of_getElem? hx)) hf
set_option maxHeartbeats 800000 in
theorem l8fits_any (A P : Option Addr) (n c B m d B' : Nat) (pl J : List Int) (w : World) (h : Arg w B A n c pl) (h' : Arg w B' P m d J) (hJ : PlOK (n - 1) J) (hpl : ∀ x ∈ pl, 1 ≤ x ∧ x ≤ 8) (hn : n ≤ 8) :
    Calls Tryd.prog 48 #[.slice A n c, .slice P m d] w fun e w' => e = .returned (.bool (fitJ J pl)) ∧ Drew w w' := by
  have hl := h.len
  have hl' := h'.len
  have hr := h.reads
  have hr' := h'.reads
  have hm := h'.le
  obtain ⟨b, hb⟩ : ∃ b, fitJ J pl = b := ⟨_, rfl⟩
  rw [hb]
  have HB := hide hb
  have HJ := hide (fun k x (hx : J[k]? = some x) => hJ.1 x (List.mem_of_getElem? hx))
  have HPL := hide (fun k x (hx : pl[k]? = some x) => hpl x (List.mem_of_getElem? hx))
  have HL := hide (⟨hl, hl'⟩ : pl.length = n ∧ J.length = m)
  clear h h' hJ hpl hl hl' hb
  go_enter Tryd.func48, Tryd.ntmps48
  go_wp2
  go_loopw [5] (fun i wr => ∃ k : Nat, k ≤ m ∧ i = .int .i64 k ∧ Drew w wr ∧ Hid (fitJ (J.take k) pl = true)) (fun i _ => m - (intOf i).toNat)
  case atStart => exact ⟨0, Nat.zero_le _, rfl, Drew.refl _, by exact (rfl : fitJ (J.take 0) pl = true)⟩
  case round =>
    obtain ⟨k, hk, rfl, hd, hs⟩ := hrel
    by_cases hlt : k < m
    · obtain ⟨ad, u, rfl, _, hu, hc⟩ := (hr'.ofDrew hd).at_ hlt
      obtain ⟨x, hx, rfl⟩ := i64_at hu
      have hxr := unhide HJ k x hx
      obtain ⟨ad1, u1, rfl, _, hu1, hc1⟩ := (hr.ofDrew hd).at_ (show x.toNat < n by omega)
      obtain ⟨ad2, u2, hA2, _, hu2, hc2⟩ := (hr.ofDrew hd).at_ (show x.toNat - 1 < n by omega)
      obtain rfl : ad1 = ad2 := by injection hA2
      obtain ⟨y, hy, rfl⟩ := i64_at hu1
      obtain ⟨z, hz, rfl⟩ := i64_at hu2
      have hzr := unhide HPL _ z hz
      have hyr := unhide HPL _ y hy
      have ey : at0 pl x.toNat = y := at0_of hy
      have ez : at0 pl (x.toNat - 1) = z := at0_of hz
      have hw1 : IntKind.i64.wrap (x - 1) = x - 1 := by rw [IntKind.wrap_i64]; omega
      have hw2 : IntKind.i64.wrap (z + 1) = z + 1 := by rw [IntKind.wrap_i64]; omega
      have hi2 : (x - 1).toNat = x.toNat - 1 := by omega
      have hb0 : 0 ≤ x := by omega
      have hb1 : x < (n : Int) := by omega
      have hb2 : 0 ≤ x - 1 := by omega
      have hb3 : x - 1 < (n : Int) := by omega
      have HD := hide hd
      by_cases hyz : y = z + 1
      · have hnext := hide (fitJ_step hx (unhide hs) (by rw [ey, ez]; exact hyz))
        subst hyz
        clear hx hy hz hu hu1 hu2 hs ey ez hr hr' hd hyr
        go_wp2
        go_quiet (fail)
        go_wp2
        go_roundw
        case rel => exact ⟨k + 1, by omega, by go_num, (unhide HD).more _, hnext⟩
        case measure => simp [intOf]; omega
      · obtain rfl : b = false := (unhide HB).symm.trans (fitJ_no hx (by rw [ey, ez]; exact hyz))
        have hne : (y == z + 1) = false := by simpa using hyz
        clear hx hy hz hu hu1 hu2 hs ey ez hr hr' hd hyr HB hyz
        go_wp2
        go_quiet (fail)
        go_wp2
        go_ret
        exact ⟨rfl, (unhide HD).more _⟩
    · obtain rfl : m = k := by omega
      obtain rfl : b = true := (unhide HB).symm.trans (by have h := unhide hs; rwa [List.take_of_length_le (by rw [(unhide HL).2]; exact Nat.le_refl _)] at h)
      clear HB hs
      go_wp2
      go_ret
      exact ⟨rfl, hd⟩
theorem take_last {J : List Int} {k : Nat} {y : Int} (hy : J[k]? = some y) : lastP (J.take (k + 1)) = y.toNat := by rw [take_snoc_i hy, lastP_snoc]
theorem plok_step {n : Nat} {J : List Int} {k : Nat} {x : Int} (hx : J[k]? = some x) : PlOK n (J.take (k + 1)) ↔ PlOK n (J.take k) ∧ (lastP (J.take k) : Int) < x ∧ x ≤ (n : Int) := by rw [take_snoc_i hx, PlOK.snoc]
theorem plok_no {n : Nat} {J : List Int} {k : Nat} (h : ¬ PlOK n (J.take k)) : ¬ PlOK n J := fun h2 => h (h2.take k)
theorem near_false {q J : List Int} (h : ¬ PlOK (q.length - 1) J) : nearOK q J = false := by unfold nearOK; rw [decide_eq_false h, Bool.and_false]
theorem near_true {q J : List Int} {b : Bool} (hq : isP q = b) (h : PlOK (q.length - 1) J) : nearOK q J = b := by unfold nearOK; rw [decide_eq_true h, Bool.and_true, hq]
set_option maxHeartbeats 1600000 in
theorem snear_any (A P : Option Addr) (n c B m d B' : Nat) (q J : List Int) (w : World) (h : Arg w B A n c q) (h' : Arg w B' P m d J) :
    Calls Tryd.prog 18 #[.agg #[.slice A n c, .slice P m d]] w (GivesB w (nearOK q J)) := by
  have hl := h.len
  have hl' := h'.len
  have hm := h'.le
  have hn := h.le
  obtain ⟨w0, hw0⟩ : ∃ w0, w0 = w.alloc (.cells #[.slice A n c, .slice P m d] 26) := ⟨_, rfl⟩
  have b0 : Below w.heap.size w w0 := by rw [hw0]; exact (Below.refl _ w).alloc (Nat.le_refl _) _
  have g0 : Whole w0 w.heap.size 26 #[.slice A n c, .slice P m d] := by rw [hw0]; exact Whole.new _ _ _
  have q0 := g0.cell 0
  have q1 := g0.cell 1
  simp only [List.getElem?_toArray, List.getElem?_cons_zero, List.getElem?_cons_succ] at q0 q1
  have hr' := (h'.below b0).reads
  obtain ⟨b, hb⟩ : ∃ b, nearOK q J = b := ⟨_, rfl⟩
  obtain ⟨bp, hbp⟩ : ∃ b, isP q = b := ⟨_, rfl⟩
  rw [hb]
  have HB := hide hb
  have HBP := hide hbp
  have HA := hide (fun wr (hd : Drew w0 wr) => sisperm_any A n c B q bp hbp wr (h.below (below_after b0 (hd.below _))).reads h.le h.cap)
  have HL := hide (⟨hl, hl'⟩ : q.length = n ∧ J.length = m)
  have HJS := hide (fun k x (hx : J[k]? = some x) => h'.small x (List.mem_of_getElem? hx))
  have hwn : IntKind.i64.wrap ((n : Int) - 1) = (n : Int) - 1 := by rw [IntKind.wrap_i64]; omega
  have HW := hide hw0
  clear h h' hl hl' hb hbp g0 hw0
  go_enter Tryd.func18, Tryd.ntmps18
  go_wp2
  rw [← unhide HW]
  clear HW
  go_loopw [3] (fun i wr => ∃ k : Nat, k ≤ m ∧ i = .int .i64 k ∧ Drew w0 wr ∧ Hid (PlOK (q.length - 1) (J.take k))) (fun i _ => m - (intOf i).toNat)
  case atStart => exact ⟨0, Nat.zero_le _, rfl, Drew.refl _, hide (PlOK.nil _)⟩
  case round =>
    obtain ⟨k, hk, rfl, hd, hs⟩ := hrel
    have c0 := (hd.cell ⟨w.heap.size, 0, none⟩).trans q0
    have c1 := (hd.cell ⟨w.heap.size, 1, none⟩).trans q1
    by_cases hlt : k < m
    · obtain ⟨ad, u, rfl, _, hu, hc⟩ := (hr'.ofDrew hd).at_ hlt
      obtain ⟨x, hx, rfl⟩ := i64_at hu
      obtain ⟨bi, hbi⟩ : ∃ bi, decide ((1 : Int) ≤ x ∧ x ≤ (n : Int) - 1) = bi := ⟨_, rfl⟩
      have HI := hide (fun w' => l1in_any x 1 ((n : Int) - 1) bi hbi w')
      have HD := hide hd
      have hstep := plok_step (n := q.length - 1) hx
      have hlq := (unhide HL).1
      cases bi with
      | false =>
        have hno : ¬ (1 ≤ x ∧ x ≤ (n : Int) - 1) := of_decide_eq_false hbi
        obtain rfl : b = false := (unhide HB).symm.trans (near_false (plok_no (k := k + 1) fun h2 => by
          have h3 := h2.1 x (by rw [take_snoc_i hx]; simp)
          omega))
        clear hx hu hs hbi hr' hd HB hstep hno q0 q1 hlq
        go_wp2
        go_quiet ((go_at_call 50; exact Calls.quiet_of_same (unhide HI _)))
        go_wp2
        go_ret
        exact ⟨rfl, below_after b0 (((unhide HD).more _).below _)⟩
      | true =>
        have hyes : 1 ≤ x ∧ x ≤ (n : Int) - 1 := of_decide_eq_true hbi
        by_cases h0 : k = 0
        · subst h0
          have hc0 : wr.cell? ad = some (.int .i64 x) := by rw [show ad = ad.add 0 by unfold Addr.add; split <;> simp_all]; exact hc
          have hnext := hide (hstep.2 ⟨unhide hs, by rw [List.take_zero, lastP_nil]; omega, by omega⟩)
          clear hx hu hs hbi hr' hd hstep hyes q0 q1 hlq
          go_wp2
          go_quiet ((go_at_call 50; exact Calls.quiet_of_same (unhide HI _)))
          go_wp2
          go_roundw
          case rel => exact ⟨1, by omega, by go_num, (unhide HD).more _, hnext⟩
          case measure => simp [intOf]; omega
        · obtain ⟨k2, rfl⟩ : ∃ k2, k = k2 + 1 := ⟨k - 1, by omega⟩
          obtain ⟨ad2, u2, hA2, _, hu2, hc2⟩ := (hr'.ofDrew hd).at_ (show k2 < m by omega)
          obtain rfl : ad = ad2 := by injection hA2
          obtain ⟨y, hy, rfl⟩ := i64_at hu2
          have hy1 : 1 ≤ y := ((unhide hs).1 y (by rw [take_snoc_i hy]; simp)).1
          have hlast := take_last hy
          have hgt : (0 : Int) < (k2 : Int) + 1 := by omega
          have hc3 : wr.cell? ⟨ad.block, ad.off + (k2 + 1), none⟩ = some (.int .i64 x) := by rw [← show ad.add (k2 + 1) = ⟨ad.block, ad.off + (k2 + 1), none⟩ by unfold Addr.add; rw [if_neg (by omega)]]; exact hc
          have hwk : IntKind.i64.wrap ((k2 : Int) + 1 - 1) = (k2 : Int) := by rw [IntKind.wrap_i64]; omega
          have hwk' : IntKind.i64.wrap (k2 : Int) = (k2 : Int) := by rw [IntKind.wrap_i64]; omega
          have hb2 : (k2 : Int) < (m : Int) := by omega
          have hb3 : (k2 : Int) + 1 < (m : Int) := by omega
          have hb4 : (0 : Int) ≤ (k2 : Int) := by omega
          by_cases hxy : x ≤ y
          · obtain rfl : b = false := (unhide HB).symm.trans (near_false (plok_no (k := k2 + 1 + 1) fun h2 => by
              have h3 := hstep.1 h2
              rw [hlast] at h3
              omega))
            clear hx hu hu2 hy hs hbi hr' hd HB hstep hyes q0 q1 hlq hlast h0
            go_wp2
            go_quiet ((go_at_call 50; exact Calls.quiet_of_same (unhide HI _)))
            go_wp2
            go_ret
            exact ⟨rfl, below_after b0 (((unhide HD).more _).below _)⟩
          · have hnext := hide (hstep.2 ⟨unhide hs, by rw [hlast]; omega, by omega⟩)
            clear hx hu hu2 hy hs hbi hr' hd hstep hyes q0 q1 hlq hlast h0
            go_wp2
            go_quiet ((go_at_call 50; exact Calls.quiet_of_same (unhide HI _)))
            go_wp2
            go_roundw
            case rel => exact ⟨k2 + 1 + 1, by omega, by go_num, (unhide HD).more _, hnext⟩
            case measure => simp [intOf]; omega
    · obtain rfl : m = k := by omega
      obtain rfl : bp = b := (near_true (unhide HBP) (by have h := unhide hs; rwa [List.take_of_length_le (by rw [(unhide HL).2]; exact Nat.le_refl _)] at h)).symm.trans (unhide HB)
      have H1 := hide (unhide HA wr hd)
      clear HB hs HA HBP
      go_wp2_with fail
      refine (unhide H1).mono ?_
      rintro e w2 ⟨rfl, d2⟩
      have d := below_after b0 ((hd.trans d2).below _)
      clear H1 d2 hd
      go_wp2
      go_ret
      exact ⟨rfl, d⟩
theorem near_take {p q J : List Int} {k : Nat} {z : List Int} (hz : (occR p q)[k]? = some z) : (((((occR p q).take (k + 1)).filter (fitJ J)).length : Nat) : Int) = ((((occR p q).take k).filter (fitJ J)).length : Int) + bitI (fitJ J z) := by
  rw [List.take_add_one, hz, Option.toList_some, List.filter_append, List.length_append]
  cases h : fitJ J z with
  | true => rw [List.filter_cons_of_pos h]; simp [bitI]
  | false => rw [List.filter_cons_of_neg (by simp [h])]; simp [bitI]
set_option maxHeartbeats 1600000 in
theorem scntn_any (A A' P : Option Addr) (n c B n' c' B' m d B2 : Nat) (p q J : List Int) (w : World) (h : Arg w B A n c p) (h' : Arg w B' A' n' c' q) (h2 : Arg w B2 P m d J) :
    Calls Tryd.prog 15 #[.slice A n c, .agg #[.slice A' n' c', .slice P m d]] w (GivesN w (numNear p q J)) := by
  obtain ⟨w0, hw0⟩ : ∃ w0, w0 = w.alloc (.cells #[.slice A' n' c', .slice P m d] 26) := ⟨_, rfl⟩
  have b0 : Below w.heap.size w w0 := by rw [hw0]; exact (Below.refl _ w).alloc (Nat.le_refl _) _
  have g0 : Whole w0 w.heap.size 26 #[.slice A' n' c', .slice P m d] := by rw [hw0]; exact Whole.new _ _ _
  obtain ⟨bp, hbp⟩ : ∃ b, isP p = b := ⟨_, rfl⟩
  have H1 := hide (show Calls Tryd.prog 45 #[.slice A n c] (w.alloc (.cells #[.slice A' n' c', .slice P m d] 26)) (fun e w' => e = .returned (.bool bp) ∧ Drew w0 w') from by
    rw [← hw0]; exact sisperm_any A n c B p bp hbp w0 (h.below b0).reads h.le h.cap)
  cases bp with
  | false =>
    rw [numNear_no (.inl hbp)]
    clear h h' h2 hbp hw0 g0
    go_enter Tryd.func15, Tryd.ntmps15
    go_wp2_with fail
    refine (unhide H1).mono ?_
    rintro e w1 ⟨rfl, hd⟩
    have hb1 := below_after b0 (hd.below _)
    clear H1 hd b0
    go_wp2
    go_ret
    exact ⟨rfl, hb1⟩
  | true =>
    obtain ⟨bn, hbn⟩ : ∃ b, nearOK q J = b := ⟨_, rfl⟩
    have H2 := hide (show ∀ w1, Drew w0 w1 → Calls Tryd.prog 18 #[.agg #[.slice A' n' c', .slice P m d]] w1 (GivesB w1 bn) from fun w1 hd => by
      rw [← hbn]; exact snear_any A' P n' c' B' m d B2 q J w1 (h'.below (below_after b0 (hd.below _))) (h2.below (below_after b0 (hd.below _))))
    cases bn with
    | false =>
      rw [numNear_no (.inr hbn)]
      clear h h' h2 hbp hw0 hbn
      go_enter Tryd.func15, Tryd.ntmps15
      go_wp2_with fail
      refine (unhide H1).mono ?_
      rintro e w1 ⟨rfl, hd⟩
      have g1 := g0.below (hd.below (w.heap.size + 1)) (by omega)
      have q0 := g1.cell 0
      have q1 := g1.cell 1
      have q2 := g1.lt
      simp only [List.getElem?_toArray, List.getElem?_cons_zero, List.getElem?_cons_succ] at q0 q1
      have H3 := hide (unhide H2 w1 hd)
      have hb1 := below_after b0 (hd.below _)
      clear H1 H2 hd b0 g0 g1
      go_wp2_with fail
      refine (unhide H3).mono ?_
      rintro e w2 ⟨rfl, d2⟩
      have hb2 := below_after hb1 d2
      clear H3 d2 hb1 q0 q1 q2
      go_wp2
      go_ret
      exact ⟨rfl, hb2⟩
    | true =>
      obtain ⟨hq, hJ⟩ := nearOK_iff.1 hbn
      rw [numNear_yes hbp hbn]
      unfold nearR
      have hl := h.len
      have hl' := h'.len
      have hn8 : n ≤ 8 := by have := isP_le hbp; omega
      have hn8' : n' ≤ 8 := by have := isP_le hq; omega
      have HO := hide (fun w2 (d2 : Below w.heap.size w w2) => soccs_any A A' n c B n' c' B' p q w2 (h.below d2) (h'.below d2))
      have HF := hide (show ∀ (w4 : World) (A4 : Option Addr) (c4 B4 : Nat) (z : List Int), z ∈ occR p q → Below w.heap.size w w4 → Ints w4 B4 (.slice A4 z.length c4) z → Calls Tryd.prog 48 #[.slice A4 z.length c4, .slice P m d] w4 (fun e w' => e = .returned (.bool (fitJ J z)) ∧ Drew w4 w') from fun w4 A4 c4 B4 z hz hb4 hI => by
        have ho := isOcc_iff.1 (mem_occ.1 hz)
        have hzl : z.length = n' := by omega
        exact l8fits_any A4 P z.length c4 _ m d B2 z J w4 (hI.arg (by omega) hI.cap (fun x hx => by have := ho.2.2.2.1.1 x hx; omega)) (h2.below hb4) (by rw [ho.2.2.1]; exact hJ) (fun x hx => by have := ho.2.2.2.1.1 x hx; omega) (by omega))
      have HR := hide (show (occR p q).length ≤ 1048576 from by have := (occ_room p q).1; omega)
      obtain ⟨L, hL⟩ : ∃ L, L = occR p q := ⟨_, rfl⟩
      have HT := hide (fun (k : Nat) (z : List Int) (hz : L[k]? = some z) => near_take (J := J) (hL ▸ hz))
      rw [← hL] at HO HF HR HT ⊢
      clear h h' h2 hbp hw0 hbn hq hJ hL hl hl'
      go_enter Tryd.func15, Tryd.ntmps15
      go_wp2_with fail
      refine (unhide H1).mono ?_
      rintro e w1 ⟨rfl, hd⟩
      have g1 := g0.below (hd.below (w.heap.size + 1)) (by omega)
      have q0 := g1.cell 0
      have q1 := g1.cell 1
      have q2 := g1.lt
      simp only [List.getElem?_toArray, List.getElem?_cons_zero, List.getElem?_cons_succ] at q0 q1
      have H3 := hide (unhide H2 w1 hd)
      have hb1 := below_after b0 (hd.below _)
      clear H1 H2 hd b0 g0
      go_wp2_with fail
      refine (unhide H3).mono ?_
      rintro e w2 ⟨rfl, d2⟩
      have g2 := g1.below d2 q2
      have hb2 := below_after hb1 d2
      clear H3 d2 hb1 q0 q1 q2 g1
      have q0 := g2.cell 0
      have q2 := g2.lt
      simp only [List.getElem?_toArray, List.getElem?_cons_zero] at q0
      have H4 := hide (unhide HO w2 hb2)
      clear HO
      go_wp2_with fail
      refine (unhide H4).mono ?_
      rintro e w3 ⟨A3, c3, rfl, o3, d3⟩
      have g3 := g2.below d3 q2
      have hb3 := below_after hb2 d3
      have q1 := g3.cell 1
      simp only [List.getElem?_toArray, List.getElem?_cons_zero, List.getElem?_cons_succ] at q1
      have hLn := unhide HR
      clear H4 d3 hb2 q0 q2 g2 g3
      go_wp2
      go_loopw [5, 7] (fun s i wr => ∃ k : Nat, k ≤ L.length ∧ i = .int .i64 k ∧ s = .int .i64 ((((L.take k).filter (fitJ J)).length : Nat) : Int) ∧ Drew w3 wr) (fun _ i _ => L.length - (intOf i).toNat)
      case atStart => exact ⟨0, Nat.zero_le _, rfl, rfl, Drew.refl _⟩
      case round =>
        obtain ⟨k, hk, rfl, rfl, hd⟩ := hrel
        by_cases hlt : k < L.length
        · have hb4 := below_after hb3 (hd.below _)
          obtain ⟨ad, A4, c4, z, rfl, hz, hcell, hI⟩ := (o3.below (hd.below _)).at_ hlt
          have hstep := unhide HT k z hz
          have q1' := (hd.cell ⟨w.heap.size, 1, none⟩).trans q1
          have HFZ := hide (show ∀ w', Drew wr w' → _ from fun w' d' => unhide HF w' A4 c4 _ z (List.mem_of_getElem? hz) (below_after hb4 (d'.below _)) (hI.below (d'.below _)))
          obtain ⟨bz, hbz⟩ : ∃ b, fitJ J z = b := ⟨_, rfl⟩
          rw [hbz] at HFZ hstep
          have hle : ((L.take k).filter (fitJ J)).length ≤ k := by
            have h1 := List.length_filter_le (fitJ J) (L.take k)
            rw [List.length_take] at h1; omega
          obtain ⟨s0, hs0⟩ : ∃ s0, s0 = ((L.take k).filter (fitJ J)).length := ⟨_, rfl⟩
          rw [← hs0] at hstep hle ⊢
          have hwr : IntKind.i64.wrap ((s0 : Int) + bitI bz) = (s0 : Int) + bitI bz := by rw [IntKind.wrap_i64]; cases bz <;> simp [bitI] <;> omega
          have HD := hide hd
          have HST := hide hstep
          clear hz hb4 hI hd hbz hstep hs0
          go_wp2
          go_quiet (first
            | (go_at_call 48; exact Calls.quiet_of (unhide HFZ _ ⟨_, rfl⟩))
            | (go_at_call 47; exact Calls.quiet_of_same (bit_any bz _)))
          go_wp2
          go_roundw
          case rel => exact ⟨k + 1, by omega, by go_num, by rw [unhide HST], (unhide HD).more _⟩
          case measure => simp [intOf]; omega
        · obtain rfl : L.length = k := by omega
          have hb4 := below_after hb3 (hd.below _)
          rw [List.take_length]
          clear hd hb3
          go_wp2
          go_ret
          exact ⟨rfl, hb4⟩
end Go.Proofs.YtichenjbkclljaaDoor


/-
  spec.ReverseNear, by its contract.
-/

namespace Go.Proofs.YtichenjbkclljaaDoor
set_option maxRecDepth 100000
open Go.RowKit

theorem plOK_len {n : Nat} {pl : List Int} (h : PlOK n pl) : pl.length ≤ n := by
  by_cases h0 : pl.length = 0
  · omega
  · have key : ∀ i, i < pl.length → (i : Int) + 1 ≤ at0 pl i := by
      intro i
      induction i with
      | zero => intro hi; have := (h.rng hi).1; simpa using this
      | succ i ih => intro hi; have h1 := ih (by omega); have h2 := h.mono (show i < i + 1 by omega) hi; omega
    have h1 := key (pl.length - 1) (by omega)
    have h2 := (h.rng (i := pl.length - 1) (by omega)).2
    omega
theorem ints_under {w w' : World} {B g : Nat} {v : Value} {zs : List Int} (h : Ints w B v zs) (hu : Until g v) (hb : Below (g + 1) w w') : Ints w' B v zs := by
  refine ⟨h.1, ?_⟩
  rcases h.2 with h0 | ⟨k, cap, cur, e, hv, hk, hc, rest⟩
  · exact .inl h0
  · have hlt : k < g := hu k (by rw [hv]; rfl)
    exact .inr ⟨k, cap, cur, e, hv, hk, (hb.block k (by omega)).trans hc, rest⟩
def revQ (q J : List Int) : List Int := if nearOK q J then q.reverse else []
def revJJ (q J : List Int) : List Int := if nearOK q J then plRev (q.length - 1) J else []
/-- The first j of the joined places of the reverse. -/
def revP (n : Nat) (J : List Int) (j : Nat) : List Int := (J.reverse.take j).map fun x => (n : Int) - x
theorem revP_step {n i : Nat} {J : List Int} {x : Int} (hx : J[i]? = some x) (j : Nat) (hj : j = J.length - (i + 1)) : revP n J (j + 1) = revP n J j ++ [(n : Int) - x] := by
  have hi : i < J.length := (List.getElem?_eq_some_iff.1 hx).1
  unfold revP
  rw [List.take_add_one, List.getElem?_reverse (by omega), show J.length - 1 - j = i by omega, hx, List.map_append]
  rfl
theorem revP_all {q J : List Int} (h : nearOK q J = true) : revP q.length J J.length = plRev (q.length - 1) J := by
  have hJ := (nearOK_iff.1 h).2
  unfold revP plRev
  rw [List.take_of_length_le (by rw [List.length_reverse]; exact Nat.le_refl _), List.map_reverse]
  congr 1
  refine List.map_congr_left fun x hx => ?_
  have := hJ.1 x hx
  omega
theorem rev_own {w : World} {B j n : Nat} {v : Value} {J xs : List Int} {y : Int} (h : w.ownsRow B 3 1 v (j + 1) (i64s (revP n J j ++ [y]))) (hx : revP n J j ++ [y] = xs) : ∃ A c, v = .slice A (j + 1) c ∧ w.ownsRow B 3 1 (.slice A (j + 1) c) (j + 1) (i64s xs) := by
  rw [hx] at h
  rcases h.2 with ⟨_, h0⟩ | ⟨g, cap, cur, rfl, hr⟩
  · omega
  · exact ⟨_, _, rfl, h⟩
set_option maxHeartbeats 6400000 in
theorem srevn_any (A P : Option Addr) (n c B m d B' : Nat) (q J : List Int) (w : World) (h : Arg w B A n c q) (h' : Arg w B' P m d J) :
    Calls Tryd.prog 11 #[.agg #[.slice A n c, .slice P m d]] w (GivesNB w (revQ q J) (revJJ q J) (nearOK q J)) := by
  have hl := h.len
  have hl' := h'.len
  have hle' := h'.le
  obtain ⟨b, hb⟩ : ∃ b, nearOK q J = b := ⟨_, rfl⟩
  obtain ⟨w0, hw0⟩ : ∃ w0, w0 = (w.alloc (.cells #[.slice A n c, .slice P m d] 26)).alloc (.cells #[.slice none 0 0, .slice none 0 0] 26) := ⟨_, rfl⟩
  have b0 : Below w.heap.size w w0 := by rw [hw0]; exact ((Below.refl _ w).alloc (Nat.le_refl _) _).alloc (by simp) _
  have hs0 : w0.heap.size = w.heap.size + 2 := by rw [hw0]; simp
  have gx : Whole w0 w.heap.size 26 #[.slice A n c, .slice P m d] := by rw [hw0]; exact (Whole.new _ _ _).alloc _
  have gr : Whole w0 (w.heap.size + 1) 26 #[.slice none 0 0, .slice none 0 0] := by
    rw [hw0]
    have := Whole.new (w.alloc (.cells #[.slice A n c, .slice P m d] 26)) 26 #[.slice none 0 0, .slice none 0 0]
    rwa [World.size_alloc] at this
  have x0 := gx.cell 0
  have x1 := gx.cell 1
  have x2 := gx.lt
  simp only [List.getElem?_toArray, List.getElem?_cons_zero, List.getElem?_cons_succ] at x0 x1
  have H1 := hide (show Calls Tryd.prog 18 #[.agg #[.slice A n c, .slice P m d]] w0 (GivesB w0 b) from by
    rw [← hb]; exact snear_any A P n c B m d B' q J w0 (h.below b0) (h'.below b0))
  rw [hw0] at H1 x0 x1 x2
  have HS := hide hs0
  have HW := hide (⟨hw0, gx, gr, b0⟩ : w0 = (w.alloc (.cells #[.slice A n c, .slice P m d] 26)).alloc (.cells #[.slice none 0 0, .slice none 0 0] 26) ∧ Whole w0 w.heap.size 26 #[.slice A n c, .slice P m d] ∧ Whole w0 (w.heap.size + 1) 26 #[.slice none 0 0, .slice none 0 0] ∧ Below w.heap.size w w0)
  clear hs0 hw0 gx gr b0
  cases b with
  | false =>
    rw [show revQ q J = [] by unfold revQ; rw [hb]; rfl, show revJJ q J = [] by unfold revJJ; rw [hb]; rfl, hb]
    clear h h' hl hl' hb hle'
    go_enter Tryd.func11, Tryd.ntmps11
    go_wp2_with fail
    refine (unhide H1).mono ?_
    rintro e w1 ⟨rfl, d1⟩
    obtain ⟨hw0, gx, gr, b0⟩ := unhide HW
    rw [← hw0] at d1
    have hs0 := unhide HS
    have hR := gr.below d1 (by omega)
    have hb1 := below_after b0 d1
    have r0 := hR.cell 0
    have r1 := hR.cell 1
    have f0 := hR.frozen 0
    have f1 := hR.frozen 1
    have hltr := hR.lt
    simp only [List.getElem?_toArray, List.getElem?_cons_zero, List.getElem?_cons_succ] at r0 r1
    clear H1 HW d1 hw0 gx gr b0 hs0 HS x0 x1 x2
    go_wp2_with fail
    have hWe := (hR.put 0 (.slice none 0 0)).put 1 (.slice none 0 0)
    refine bodyPost_ret (v := .tuple #[.agg #[.slice none 0 0, .slice none 0 0], .bool false]) (results_near Tryd.results11 _ _ (w.heap.size + 1) 26 _ (0, 0) _ rfl hWe Tryd.underlying26 rfl nearInfo) rfl ?_
    exact GivesNB.mk false (NearAt.none_ _ _) ((hb1.setCell (by simp) _).setCell (by simp) _)
  | true =>
    obtain ⟨hq, hJ⟩ := nearOK_iff.1 hb
    have hn8 : n ≤ 8 := by have := isP_le hq; omega
    have hm8 : m ≤ 8 := by have := plOK_len hJ; omega
    have HQ := hide (show revQ q J = q.reverse ∧ revJJ q J = revP n J m from ⟨by unfold revQ; rw [hb]; rfl, by unfold revJJ; rw [hb, ← hl, ← hl', revP_all hb]; rfl⟩)
    have HJ := hide (fun k x (hx : J[k]? = some x) => hJ.1 x (List.mem_of_getElem? hx))
    have HA := hide (⟨h, h'⟩ : Arg w B A n c q ∧ Arg w B' P m d J)
    have HL := hide (⟨hl, hl'⟩ : q.length = n ∧ J.length = m)
    rw [(unhide HQ).1, (unhide HQ).2, hb]
    clear h h' hl hl' hb hle' hq hJ
    go_enter Tryd.func11, Tryd.ntmps11
    go_wp2_with fail
    refine (unhide H1).mono ?_
    rintro e w1 ⟨rfl, d1⟩
    obtain ⟨hw0, gx, gr, b0⟩ := unhide HW
    rw [← hw0] at d1
    have hs0 := unhide HS
    have hX := gx.below d1 (by omega)
    have hR := gr.below d1 (by omega)
    have hb1 := below_after b0 d1
    have hs1 := d1.size
    clear x0 x1 x2
    have x0 := hX.cell 0
    have x2 := hX.lt
    simp only [List.getElem?_toArray, List.getElem?_cons_zero] at x0
    have H2 := hide (l3rev_any A n c B q w1 ((unhide HA).1.below hb1))
    have HF1 := hide (⟨hX, hR, hb1, hs0, hs1⟩ : Whole w1 w.heap.size 26 #[.slice A n c, .slice P m d] ∧ Whole w1 (w.heap.size + 1) 26 #[.slice none 0 0, .slice none 0 0] ∧ Below w.heap.size w w1 ∧ w0.heap.size = w.heap.size + 2 ∧ w0.heap.size ≤ w1.heap.size)
    clear H1 HW HS d1 hw0 gx gr b0 hs0 hs1 hX hR hb1
    go_wp2_with fail
    refine (unhide H2).mono ?_
    rintro e w2 ⟨A2, c2, rfl, o2, d2⟩
    obtain ⟨hX, hR, hb1, hs0, hs1⟩ := unhide HF1
    have hrl : q.reverse.length = n := by rw [List.length_reverse]; exact (unhide HL).1
    rw [hrl] at o2 ⊢
    obtain ⟨g, hg⟩ : ∃ g, g = w2.heap.size := ⟨_, rfl⟩
    obtain ⟨w5, hw5⟩ : ∃ w5, w5 = w2.alloc (.cells #[.slice A2 n c2, .slice none 0 0] 26) := ⟨_, rfl⟩
    have hb25 : Below w2.heap.size w2 w5 := by rw [hw5]; exact (Below.refl _ w2).alloc (Nat.le_refl _) _
    have hs2 := d2.size
    have d5 := below_after d2 hb25
    have hG5 : Whole w5 g 26 #[.slice A2 n c2, .slice none 0 0] := by rw [hw5, hg]; exact Whole.new _ _ _
    have hX5 := hX.below d5 (by omega)
    have hR5 := hR.below d5 (by omega)
    have hU5 : Until g (.slice A2 n c2) := by rw [hg]; exact o2.until_
    have hP5 : Ints w5 (w.heap.size + 2) (.slice A2 n c2) q.reverse := (o2.below hb25).low (by omega)
    have hB5 := below_after hb1 d5
    have hg1 : w.heap.size + 2 ≤ g := by omega
    have y1 := hX5.cell 1
    have y2 := hX5.lt
    simp only [List.getElem?_toArray, List.getElem?_cons_zero, List.getElem?_cons_succ] at y1
    rw [hw5] at y1 y2
    have hwm : IntKind.i64.wrap ((m : Int) - 1) = (m : Int) - 1 := by rw [IntKind.wrap_i64]; omega
    have HW5 := hide (⟨hw5, hg⟩ : w5 = w2.alloc (.cells #[.slice A2 n c2, .slice none 0 0] 26) ∧ g = w2.heap.size)
    have HF5 := hide (⟨hG5, hX5, hR5, hP5, hB5⟩ : Whole w5 g 26 #[.slice A2 n c2, .slice none 0 0] ∧ Whole w5 w.heap.size 26 #[.slice A n c, .slice P m d] ∧ Whole w5 (w.heap.size + 1) 26 #[.slice none 0 0, .slice none 0 0] ∧ Ints w5 (w.heap.size + 2) (.slice A2 n c2) q.reverse ∧ Below w.heap.size w w5)
    clear H2 HF1 hX hR hb1 hs0 hs1 x0 x2 o2 d2 hrl hb25 d5 hs2 hw5 hg hG5 hX5 hR5 hP5 hB5
    go_wp2
    obtain ⟨hw5, hg⟩ := unhide HW5
    rw [← hw5, ← hg]
    clear hw5 hg HW5 y1 y2
    go_loopw [5] (fun kv wr => ∃ (r j : Nat) (Aj : Option Addr) (cj : Nat), r + j = m ∧ kv = .int .i64 ((r : Int) - 1) ∧ Whole wr g 26 #[.slice A2 n c2, .slice Aj j cj] ∧ wr.ownsRow (g + 1) 3 1 (.slice Aj j cj) j (i64s (revP n J j)) ∧
        Whole wr w.heap.size 26 #[.slice A n c, .slice P m d] ∧ Whole wr (w.heap.size + 1) 26 #[.slice none 0 0, .slice none 0 0] ∧ Ints wr (w.heap.size + 2) (.slice A2 n c2) q.reverse ∧ Below w.heap.size w wr) (fun kv _ => (intOf kv + 1).toNat)
    case atStart =>
      obtain ⟨hG5, hX5, hR5, hP5, hB5⟩ := unhide HF5
      exact ⟨m, 0, none, 0, rfl, rfl, hG5, World.ownsRow_nil _ _ _ _, hX5, hR5, hP5, hB5⟩
    case round =>
      obtain ⟨r, j, Aj, cj, hrj, rfl, hG, hO, hX, hR, hP, hB⟩ := hrel
      clear HF5
      have r0 := hG.cell 0
      have r1 := hG.cell 1
      have f1 := hG.frozen 1
      have hltg := hG.lt
      have x0 := hX.cell 0
      have x1 := hX.cell 1
      simp only [List.getElem?_toArray, List.getElem?_cons_zero, List.getElem?_cons_succ] at r0 r1 x0 x1
      cases r with
      | succ i =>
        have ei : (((i + 1 : Nat) : Int) - 1) = (i : Int) := by omega
        rw [ei]
        have hge : (0 : Int) ≤ (i : Int) := by omega
        have him : (i : Int) < (m : Int) := by omega
        obtain ⟨ad, u, rfl, _, hu, hc⟩ := ((unhide HA).2.below hB).reads.at_ (show i < m by omega)
        obtain ⟨x, hx, rfl⟩ := i64_at hu
        have hxr := unhide HJ i x hx
        have hxq := (unhide HL).1
        have hwi : IntKind.i64.wrap ((i : Int) - 1) = (i : Int) - 1 := by rw [IntKind.wrap_i64]; omega
        have hwx : IntKind.i64.wrap ((n : Int) - x) = (n : Int) - x := by rw [IntKind.wrap_i64]; omega
        have hstep := revP_step (n := n) hx j (by have := (unhide HL).2; omega)
        have HST := hide hstep
        have HF := hide (⟨hG, hX, hR, hP, hB, hO, hrj⟩ : Whole wr g 26 #[.slice A2 n c2, .slice Aj j cj] ∧ Whole wr w.heap.size 26 #[.slice A n c, .slice (some ad) m d] ∧ Whole wr (w.heap.size + 1) 26 #[.slice none 0 0, .slice none 0 0] ∧ Ints wr (w.heap.size + 2) (.slice A2 n c2) q.reverse ∧ Below w.heap.size w wr ∧ wr.ownsRow (g + 1) 3 1 (.slice Aj j cj) j (i64s (revP n J j)) ∧ i + 1 + j = m)
        have hjm : j ≤ 8 := by omega
        have hxs : -9223372036854775808 ≤ (n : Int) - x ∧ (n : Int) - x ≤ 9223372036854775807 := by omega
        have r1d : ∀ o, (wr.drew.alloc o).cell? ⟨g, 1, none⟩ = some (.slice Aj j cj) := fun o => (((Below.refl wr.heap.size wr).drew.alloc (Nat.le_refl _) o).cell (p := ⟨g, 1, none⟩) hltg).trans r1
        have r1e : wr.drew.cell? ⟨g, 1, none⟩ = some (.slice Aj j cj) := r1
        clear hG hX hR hP hB hu hx hxr hstep hxq ei hrj
        go_wp2
        go_region_law
          (first
            | (refine step_append_one (by rfl) (.tmp 23) (.tmp 33) (by rfl) (g + 1) j wr wr _ (revP n J j) ((n : Int) - x) (by rfl) (by rfl) (by rfl) hO hxs (by omega) (Below.refl _ _) hltg ?_; intro v' w' hO' hb'; obtain ⟨A', c', rfl, hO2⟩ := rev_own hO' (unhide HST).symm; have r1' := ((unhide HF).1.below hb' (Nat.lt_succ_self g)).cell 1; have f1' := ((unhide HF).1.below hb' (Nat.lt_succ_self g)).frozen 1; have l1' := ((unhide HF).1.below hb' (Nat.lt_succ_self g)).lt; simp only [List.getElem?_toArray, List.getElem?_cons_zero, List.getElem?_cons_succ] at r1'; clear hO'))
        all_goals
          obtain ⟨hG, hX, hR, hP, hB, hO, hrj⟩ := unhide HF
          have hG' := (hG.below hb' (Nat.lt_succ_self g)).put 1 (.slice A' (j + 1) c')
          have hO3 := own_past hO2 (p := ⟨g, 1, none⟩) (Nat.lt_succ_self g) (.slice A' (j + 1) c')
          have hX' := (hX.below hb' (show w.heap.size < g + 1 by omega)).far (p := ⟨g, 1, none⟩) (by simp; omega) (.slice A' (j + 1) c')
          have hR' := (hR.below hb' (show w.heap.size + 1 < g + 1 by omega)).far (p := ⟨g, 1, none⟩) (by simp; omega) (.slice A' (j + 1) c')
          have hP' := (ints_under hP hU5 hb').kept (grownBy_setCellA w' ⟨g, 1, none⟩ (.slice A' (j + 1) c')) (away_block hU5)
          have hB' := (hB.trans (hb'.mono (show w.heap.size ≤ g + 1 by omega))).setCell (p := ⟨g, 1, none⟩) (by show w.heap.size ≤ g; omega) (.slice A' (j + 1) c')
          clear hG hX hR hP hB hO HF r0 r1 f1 hltg x0 x1 hc r1d r1e r1' f1' l1' hO2 HST
          go_wp2
          go_roundw
          case rel => exact ⟨i, j + 1, A', c', by omega, rfl, hG', hO3, hX', hR', hP', hB'⟩
          case measure => simp [intOf]
      | zero =>
        have hjm : j = m := by omega
        subst hjm
        have s0 := hR.cell 0
        have s1 := hR.cell 1
        have e0 := hR.frozen 0
        have e1 := hR.frozen 1
        have hltr := hR.lt
        simp only [List.getElem?_toArray, List.getElem?_cons_zero, List.getElem?_cons_succ] at s0 s1
        have hN : NearAt wr (w.heap.size + 2) (.slice A2 n c2) (.slice Aj j cj) q.reverse (revP n J j) := ⟨hP, (Ints.of_own hO).low (show w.heap.size + 2 ≤ g + 1 by omega), apart hU5 (fun k hk => (hO.lt k hk).1) (Nat.le_succ g)⟩
        have HN := hide (⟨hR, hN, hB⟩ : Whole wr (w.heap.size + 1) 26 #[.slice none 0 0, .slice none 0 0] ∧ NearAt wr (w.heap.size + 2) (.slice A2 n c2) (.slice Aj j cj) q.reverse (revP n J j) ∧ Below w.heap.size w wr)
        clear hG hX hR hP hB hO hN
        go_wp2_with fail
        obtain ⟨hR, hN, hB⟩ := unhide HN
        have hWe := (hR.put 0 (.slice A2 n c2)).put 1 (.slice Aj j cj)
        refine bodyPost_ret (v := .tuple #[.agg #[.slice A2 n c2, .slice Aj j cj], .bool true]) (results_near Tryd.results11 _ _ (w.heap.size + 1) 26 _ (0, 0) _ rfl hWe Tryd.underlying26 rfl nearInfo) rfl ?_
        exact GivesNB.mk true (((hN.past (p := ⟨w.heap.size + 1, 0, none⟩) (Nat.lt_succ_self _) _).past (p := ⟨w.heap.size + 1, 1, none⟩) (Nat.lt_succ_self _) _).low (by omega)) ((hB.setCell (p := ⟨w.heap.size + 1, 0, none⟩) (Nat.le_succ _) _).setCell (p := ⟨w.heap.size + 1, 1, none⟩) (Nat.le_succ _) _)
end Go.Proofs.YtichenjbkclljaaDoor


/-
  PLAIN: the text of neighboring places, and back. Nothing here speaks of the program.
-/

namespace Go.Proofs.YtichenjbkclljaaDoor
set_option maxRecDepth 100000

theorem ints_unique : ∀ {a b : List Int}, a.Pairwise (· < ·) → b.Pairwise (· < ·) → (∀ x, x ∈ a ↔ x ∈ b) → a = b
  | [], [], _, _, _ => rfl
  | [], y :: b, _, _, h => by have := (h y).2 (by simp); simp at this
  | x :: a, [], _, _, h => by have := (h x).1 (by simp); simp at this
  | x :: a, y :: b, ha, hb, h => by
    have h1 := List.pairwise_cons.1 ha
    have h2 := List.pairwise_cons.1 hb
    have hxy : x = y := by
      rcases List.mem_cons.1 ((h x).1 (by simp)) with e | e
      · exact e
      · rcases List.mem_cons.1 ((h y).2 (by simp)) with e' | e'
        · exact e'.symm
        · have := h2.1 x e; have := h1.1 y e'; omega
    subst hxy
    rw [ints_unique h1.2 h2.2 fun z => by
      constructor
      · intro hz
        rcases List.mem_cons.1 ((h z).1 (by simp [hz])) with e | e
        · have := h1.1 z hz; omega
        · exact e
      · intro hz
        rcases List.mem_cons.1 ((h z).2 (by simp [hz])) with e | e
        · have := h2.1 z hz; omega
        · exact e]

/-- The text of the first k numbers. -/
def nearB (q J : List Int) : Nat → List UInt8
  | 0 => []
  | k + 1 => nearB q J k ++ ((if 0 < k ∧ ¬ (k : Int) ∈ J then [95] else []) ++ [dgt (at0 q k)])
def ntext (q J : List Int) : ByteArray := if nearOK q J then (if q = [] then ⟨#[45]⟩ else ⟨(nearB q J q.length).toArray⟩) else ByteArray.empty
theorem ntext_no {q J : List Int} (h : nearOK q J = false) : ntext q J = ByteArray.empty := by unfold ntext; rw [if_neg (by simp [h])]
theorem ntext_nil {q J : List Int} (h : nearOK q J = true) (h0 : q.length = 0) : ntext q J = ⟨#[45]⟩ := by unfold ntext; rw [if_pos h, if_pos (List.eq_nil_of_length_eq_zero h0)]
theorem ntext_yes {q J : List Int} (h : nearOK q J = true) (h0 : q.length ≠ 0) : ntext q J = ⟨(nearB q J q.length).toArray⟩ := by unfold ntext; rw [if_pos h, if_neg (fun e => h0 (by rw [e]; rfl))]
theorem nearB_len (q J : List Int) : ∀ k, (nearB q J k).length ≤ 2 * k
  | 0 => Nat.le_refl _
  | k + 1 => by
    have := nearB_len q J k
    rw [nearB]; split <;> simp <;> omega

/-- A text without what stands between. -/
def scanD (s : List UInt8) : List UInt8 := s.filter fun b => decide (b ≠ 95)
/-- The joined places that the first k bytes tell. -/
def scanJ (s : List UInt8) : Nat → List Int
  | 0 => []
  | k + 1 => if s[k]?.getD 0 = 95 then scanJ s k else if 0 < k ∧ s[k - 1]?.getD 0 ≠ 95 then scanJ s k ++ [((scanD (s.take k)).length : Int)] else scanJ s k
theorem scanJ_app (s t : List UInt8) : ∀ k, k ≤ s.length → scanJ (s ++ t) k = scanJ s k
  | 0, _ => rfl
  | k + 1, h => by
    rw [scanJ, scanJ, scanJ_app s t k (by omega), List.getElem?_append_left (by omega), List.getElem?_append_left (show k - 1 < s.length by omega), List.take_append_of_le_length (by omega)]
theorem dgt_ne {z : Int} (h0 : 1 ≤ z) (h1 : z ≤ 8) : dgt z ≠ 95 := by
  obtain ⟨n, rfl⟩ : ∃ n : Nat, z = (n : Int) := ⟨z.toNat, by omega⟩
  have h2 : n ≤ 8 := by omega
  have : ∀ m, m ≤ 8 → dgt ((m : Nat) : Int) ≠ 95 := by decide
  exact this n h2
theorem scan_near {q J : List Int} (hq : isP q = true) : ∀ k, k ≤ q.length → scanD (nearB q J k) = textL (q.take k) ∧ scanJ (nearB q J k) (nearB q J k).length = (((List.range k).filter fun (i : Nat) => decide (0 < i ∧ (i : Int) ∈ J)) : List Nat).map (fun (i : Nat) => (i : Int)) ∧ (0 < k → (nearB q J k)[(nearB q J k).length - 1]?.getD 0 ≠ 95)
  | 0, _ => ⟨rfl, rfl, fun h => by omega⟩
  | k + 1, h => by
    obtain ⟨h1, h2, h3⟩ := scan_near (J := J) hq k (by omega)
    have hr := isP_range hq (at0_some (show k < q.length by omega))
    have h8 := isP_le hq
    have hd := dgt_ne hr.1 (by omega)
    have hD : scanD [dgt (at0 q k)] = [dgt (at0 q k)] := by unfold scanD; rw [List.filter_cons_of_pos (by simpa using hd)]; rfl
    have ht : textL (q.take (k + 1)) = textL (q.take k) ++ [dgt (at0 q k)] := textL_step (at0_some (by omega))
    have hlen : (scanD (nearB q J k)).length = k := by rw [h1, textL_length, List.length_take]; omega
    rw [List.range_succ, List.filter_append, List.map_append]
    by_cases hs : 0 < k ∧ ¬ (k : Int) ∈ J
    · have e : nearB q J (k + 1) = (nearB q J k ++ [95]) ++ [dgt (at0 q k)] := by rw [nearB, if_pos hs, List.append_assoc]
      rw [e]
      refine ⟨?_, ?_, fun _ => ?_⟩
      · unfold scanD at h1 hD ⊢
        rw [List.filter_append, List.filter_append, h1, hD, ht]
        simp
      · rw [List.length_append, List.length_append, List.length_singleton, List.length_singleton, scanJ, if_neg (by simpa using hd), if_neg (by simp), scanJ_app _ _ _ (by simp), scanJ, if_pos (by simp), scanJ_app _ _ _ (Nat.le_refl _), h2]
        rw [List.filter_cons_of_neg (by simp [hs])]
        simp
      · simpa using hd
    · have e : nearB q J (k + 1) = nearB q J k ++ [dgt (at0 q k)] := by rw [nearB, if_neg hs, List.nil_append]
      rw [e]
      refine ⟨?_, ?_, fun _ => ?_⟩
      · unfold scanD at h1 hD ⊢
        rw [List.filter_append, h1, hD, ht]
      · rw [List.length_append, List.length_singleton, scanJ, if_neg (by simpa using hd), scanJ_app _ _ _ (Nat.le_refl _), h2]
        by_cases h0 : k = 0
        · subst h0
          rw [if_neg (by simp [nearB])]
          simp
        · have hp : 0 < (nearB q J k).length := by
            have h4 : (scanD (nearB q J k)).length ≤ (nearB q J k).length := List.length_filter_le _ _
            omega
          have hj : (k : Int) ∈ J := by
            by_cases hj : (k : Int) ∈ J
            · exact hj
            · exact absurd ⟨by omega, hj⟩ hs
          rw [if_pos ⟨hp, by rw [List.getElem?_append_left (by omega)]; exact h3 (by omega)⟩, List.take_append_of_le_length (Nat.le_refl _), List.take_length, hlen, List.filter_cons_of_pos (by simp [hj]; omega)]
          rfl
      · simpa using hd
theorem scan_back {q J : List Int} (h : nearOK q J = true) : scanD (nearB q J q.length) = textL q ∧ scanJ (nearB q J q.length) (nearB q J q.length).length = J := by
  obtain ⟨hq, hJ⟩ := nearOK_iff.1 h
  obtain ⟨h1, h2, _⟩ := scan_near (J := J) hq q.length (Nat.le_refl _)
  refine ⟨by rw [h1, List.take_length], ?_⟩
  rw [h2]
  refine ints_unique ?_ hJ.2 fun x => ?_
  · rw [List.pairwise_map]
    exact ((List.pairwise_lt_range (n := q.length)).sublist List.filter_sublist).imp fun h => by omega
  · rw [List.mem_map]
    constructor
    · rintro ⟨i, hi, rfl⟩
      rw [List.mem_filter, decide_eq_true_eq] at hi
      exact hi.2.2
    · intro hx
      have hr := hJ.1 x hx
      exact ⟨x.toNat, by rw [List.mem_filter, List.mem_range, decide_eq_true_eq]; exact ⟨by omega, by omega, by rw [show ((x.toNat : Nat) : Int) = x by omega]; exact hx⟩, by omega⟩
end Go.Proofs.YtichenjbkclljaaDoor
