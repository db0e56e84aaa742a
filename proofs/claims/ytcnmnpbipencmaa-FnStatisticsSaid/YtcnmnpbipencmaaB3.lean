/-
  Words and contracts that the laws lean on, bundled: Join, NumS, PlI, NumI, End, CycM, CycS, CycI, RowM.
-/
import Derived.Test.YtcnmnpbipencmaaB2
import Derived.Test.YtcnmnpbipencmaaB1
import Derived.Deep.RegionHeld3
import Derived.IntWalk
import Derived.Test.YtcnmnpbipencmaaRows
import Derived.ProofKit
import Derived.OpenShut
import Derived.Carry
import Derived.SliceStrings

/-
  spec.l4Fit, spec.l4Join, spec.SumOf, spec.SkewSumOf, by their contracts.
-/

namespace Go.Proofs.Ytcnmnpbipencmaa
set_option maxRecDepth 100000
open Go.RowKit

def bitI (b : Bool) : Int := if b then 1 else 0
theorem bit_any (b : Bool) (w : World) : Calls Try.prog 52 #[.bool b] w fun e w' => e = .returned (.int .i64 (bitI b)) ∧ w' = w := by
  cases b with
  | true => exact bit_true w
  | false => exact bit_false w
theorem joinL_at1 {s : Bool} {p q : List Int} {k : Nat} {z : Int} (h : p[k]? = some z) : (joinL s p q)[k]? = some (z + bitI s * (q.length : Int)) := by
  have hk : k < p.length := (List.getElem?_eq_some_iff.1 h).1
  cases s with
  | true =>
    simp only [joinL, if_true, bitI]
    rw [List.getElem?_append_left (by simpa using hk), List.getElem?_map, h, Int.one_mul]; rfl
  | false =>
    simp only [joinL, bitI, Bool.false_eq_true, if_false]
    rw [List.getElem?_append_left hk, h, Int.zero_mul, Int.add_zero]
theorem joinL_at2 {s : Bool} {p q : List Int} {k : Nat} {z : Int} (h : q[k]? = some z) : (joinL s p q)[p.length + k]? = some (z + bitI (!s) * (p.length : Int)) := by
  cases s with
  | true =>
    simp only [joinL, if_true, bitI, Bool.not_true, Bool.false_eq_true, if_false]
    rw [List.getElem?_append_right (by simp), List.length_map, Nat.add_sub_cancel_left, h, Int.zero_mul, Int.add_zero]
  | false =>
    simp only [joinL, bitI, Bool.not_false, if_true, Bool.false_eq_true, if_false]
    rw [List.getElem?_append_right (by omega), Nat.add_sub_cancel_left, List.getElem?_map, h, Int.one_mul]; rfl
theorem bit_le (s : Bool) (n : Nat) : 0 ≤ bitI s * (n : Int) ∧ bitI s * (n : Int) ≤ n := by
  cases s
  · simp [bitI]
  · simp [bitI]

theorem keep_low {B : Nat} {wr w : World} {p : Addr} {v : Value} (h : wr.cell? p = some v) (hp : p.block < B) (hb : Below B wr w) : w.cell? p = some v ∧ Below B wr w := ⟨(hb.cell hp).trans h, hb⟩
end Go.Proofs.Ytcnmnpbipencmaa


/-
  The given side of chapter 11 (descents, records, lows, fixed places, rises, inversions, major index), by its contracts. (Written by wip/tools/mknums.py.)
-/

namespace Go.Proofs.Ytcnmnpbipencmaa
set_option maxRecDepth 100000
open Go.RowKit

theorem i64_snoc_e {xs ys : List Int} {z : Int} (h : ys = xs ++ [z]) : i64s xs ++ [Value.int .i64 z] = i64s ys ∧ xs.length + 1 = ys.length := by rw [h]; unfold i64s; simp
set_option maxHeartbeats 800000 in
theorem sdesc_any (A : Option Addr) (n c B : Nat) (p : List Int) (w : World) (h : Arg w B A n c p) :
    Calls Try.prog 26 #[.slice A n c] w (GivesI w (plR (gD p) p)) := by
  obtain ⟨i0, hi, hz0, hz1, hz2⟩ := info_parts intInfo
  have hl := h.len
  have hn9 := h.le
  obtain ⟨b, hb⟩ : ∃ b, isP p = b := ⟨_, rfl⟩
  have HS := hide (show ∀ w', Below w.heap.size w w' → _ from fun w' d => sisperm_any A n c B p b hb w' (h.below d).reads h.le h.cap)
  have hst := own0 w w.heap.size (Nat.le_refl _)
  have hbel := (Below.refl w.heap.size w).alloc (Nat.le_refl _) (.cells #[] 3)
  have HF := hide (show ∀ k, (k = 0 ∧ b = false) ∨ (b = true ∧ k + 1 = n) ∨ (k = 0 ∧ n = 0) → plK (gD p) k = plR (gD p) p from fun k hk => by
    cases b with
    | false =>
      rw [plR_no hb]
      rcases hk with ⟨rfl, _⟩ | ⟨h1, _⟩ | ⟨rfl, _⟩
      · rfl
      · cases h1
      · rfl
    | true =>
      rw [plR_yes hb, hl]
      rcases hk with ⟨_, h1⟩ | ⟨_, h1⟩ | ⟨rfl, h1⟩
      · cases h1
      · rw [← h1, gD_last (hl.trans h1.symm)]
      · rw [h1])
  have HA := hide h
  have H8 := hide (show b = true → n ≤ 8 from fun e => by have := isP_le (hb.trans e); omega)
  clear hb h hl
  go_enter Try.func26, Try.ntmps26
  go_wp2
  go_loopw [3, 4] (fun o i wr => ∃ k : Nat, (k = 0 ∨ (k + 1 ≤ n ∧ b = true)) ∧ i = .int .i64 (k : Int) ∧ Below w.heap.size w wr ∧ wr.ownsRow w.heap.size 3 1 o (plK (gD p) k).length (i64s (plK (gD p) k))) (fun _ i _ => n - (intOf i).toNat)
  case atStart => exact ⟨0, .inl rfl, rfl, hbel, hst⟩
  case round =>
    obtain ⟨k, hk, rfl, hb, hown⟩ := hrel
    clear hst hbel
    by_cases hlt : k + 1 < n
    · have H1 := hide (unhide HS wr hb)
      have hlt' : ((k : Int) + 1) < (n : Int) := by omega
      cases b with
      | false =>
        obtain rfl : k = 0 := by rcases hk with h | h; exact h; exact absurd h.2 (by decide)
        have HF0 := hide (unhide HF 0 (.inl ⟨rfl, rfl⟩))
        have hlt0 : (1 : Int) < (n : Int) := by omega
        clear HS HF
        go_wp2_with fail
        refine (unhide H1).mono ?_
        rintro e w2 ⟨rfl, d2⟩
        have hown2 := own_below hown (d2.below _)
        have hb2 := hb.trans (d2.below _)
        have hI : Ints w2 w.heap.size u3 (plK (gD p) 0) := Ints.of_own hown2
        rw [unhide HF0] at hI
        have HI := hide hI
        clear hI hown hown2 d2 H1 hb
        go_wp2
        go_ret
        exact GivesI.mk (unhide HI) hb2
      | true =>
        have hn8 := unhide H8 rfl
        have hle := plK_le (gD p) k
        have HO := hide hown
        have HB := hide hb
        clear HS HF hown hb
        go_wp2_with fail
        refine (unhide H1).mono ?_
        rintro e w2 ⟨rfl, d2⟩
        have hown := own_below (unhide HO) (d2.below _)
        have hb := (unhide HB).trans (d2.below _)
        clear H1 HO HB d2
        have hA := (unhide HA).below hb
        obtain ⟨ad, u, rfl, _, hu, hc⟩ := hA.reads.at_ (show k < n by omega)
        obtain ⟨ad', u', he', _, hu', hc'⟩ := hA.reads.at_ hlt
        obtain rfl : ad = ad' := Option.some.inj he'
        clear he'
        obtain ⟨x, hx, rfl⟩ := i64_at hu
        obtain ⟨y, hy, rfl⟩ := i64_at hu'
        have hat := gD_at hx hy
        have hadd : ad.add (k + 1) = ⟨ad.block, ad.off + (k + 1), none⟩ := by unfold Addr.add; rw [if_neg (by omega)]
        rw [hadd] at hc'
        have hbd0 : (0 : Int) ≤ (k : Int) + 1 := by omega
        have hbd2 : (k : Int) < (n : Int) := by omega
        have HO := hide hown
        have HB := hide hb
        clear hA hadd hu hu' hx hy hown hb
        by_cases hyx : y < x
        · have HE := hide (i64_snoc_e (plK_yes (hat.trans (decide_eq_true hyx))))
          have hd : decide (y < x) = true := decide_eq_true hyx
          clear hat
          go_wp2
          go_quiet (fail)
          have hown := own_below (unhide HO) ((Drew.refl w2 |>.more nq).below _)
          have hb := (unhide HB).trans ((Drew.refl w2 |>.more nq).below _)
          clear HO HB hd
          go_wp2_with (first
            | (at_builtin; refine wpList_append_one rfl (.tmp 27) (.tmp 30) 24 rfl w.heap.size 3 i0 (.int .i64 0) 8 Try.underlying24 hi hz0 hz1 hz2 rfl w _ _ _ _ rfl hown (.int .i64 ((k : Int) + 1)) rfl rfl rfl (by omega) (by simp only [maxLen]; omega) hb hb.size ?_; intro v2 w3 hown4 hb4 hg4; clear hg4))
          rw [(unhide HE).1, (unhide HE).2] at hown4
          clear hown hb HE
          go_roundw
          case rel => exact ⟨k + 1, .inr ⟨by omega, trivial⟩, by go_num, hb4, hown4⟩
          case measure => simp [intOf]; omega
        · have HE := hide (plK_no (hat.trans (decide_eq_false hyx)))
          have hd : decide (y < x) = false := decide_eq_false hyx
          clear hat
          go_wp2
          go_quiet (fail)
          have hown := own_below (unhide HO) ((Drew.refl w2 |>.more nq).below _)
          have hb := (unhide HB).trans ((Drew.refl w2 |>.more nq).below _)
          clear HO HB hd
          go_wp2
          go_roundw
          case rel => exact ⟨k + 1, .inr ⟨by omega, trivial⟩, by go_num, hb, by rw [unhide HE]; exact hown⟩
          case measure => simp [intOf]; omega
    · have hge : ¬ ((k : Int) + 1 < (n : Int)) := by omega
      have hI : Ints wr w.heap.size u3 (plK (gD p) k) := Ints.of_own hown
      rw [unhide HF k (by
        rcases hk with rfl | ⟨hk, rfl⟩
        · cases b with
          | false => exact .inl ⟨rfl, rfl⟩
          | true =>
            by_cases h0 : n = 0
            · exact .inr (.inr ⟨rfl, h0⟩)
            · exact .inr (.inl ⟨rfl, by omega⟩)
        · exact .inr (.inl ⟨rfl, by omega⟩))] at hI
      have HI := hide hI
      clear hown hI HF HS
      go_wp2
      go_ret
      exact GivesI.mk (unhide HI) hb
set_option maxHeartbeats 800000 in
theorem srec_any (A : Option Addr) (n c B : Nat) (p : List Int) (w : World) (h : Arg w B A n c p) :
    Calls Try.prog 28 #[.slice A n c] w (GivesI w (plR (gR p) p)) := by
  obtain ⟨i0, hi, hz0, hz1, hz2⟩ := info_parts intInfo
  have hl := h.len
  have hn9 := h.le
  obtain ⟨b, hb⟩ : ∃ b, isP p = b := ⟨_, rfl⟩
  have HS := hide (show ∀ w', Below w.heap.size w w' → _ from fun w' d => sisperm_any A n c B p b hb w' (h.below d).reads h.le h.cap)
  have hst := own0 w w.heap.size (Nat.le_refl _)
  have hbel := (Below.refl w.heap.size w).alloc (Nat.le_refl _) (.cells #[] 3)
  have HF := hide (show ∀ k, (k = 0 ∧ b = false) ∨ (b = true ∧ k = n) ∨ (k = 0 ∧ n = 0) → plK (gR p) k = plR (gR p) p from fun k hk => by
    cases b with
    | false =>
      rw [plR_no hb]
      rcases hk with ⟨rfl, _⟩ | ⟨h1, _⟩ | ⟨rfl, _⟩
      · rfl
      · cases h1
      · rfl
    | true =>
      rw [plR_yes hb, hl]
      rcases hk with ⟨_, h1⟩ | ⟨_, h1⟩ | ⟨rfl, h1⟩
      · cases h1
      · rw [← h1]
      · rw [h1])
  have HA := hide h
  have HP := hide hb
  have H8 := hide (show b = true → n ≤ 8 from fun e => by have := isP_le (hb.trans e); omega)
  have hini := RecS.zero p
  clear hb h hl
  go_enter Try.func28, Try.ntmps28
  go_wp2
  go_loopw [3, 4, 5] (fun o mv i wr => ∃ (k : Nat) (m : Int), (k = 0 ∨ (k ≤ n ∧ b = true)) ∧ i = .int .i64 (k : Int) ∧ mv = .int .i64 m ∧ Hid (RecS p k m) ∧ Below w.heap.size w wr ∧ wr.ownsRow w.heap.size 3 1 o (plK (gR p) k).length (i64s (plK (gR p) k))) (fun _ _ i _ => n - (intOf i).toNat)
  case atStart => exact ⟨0, _, .inl rfl, rfl, rfl, hide hini, hbel, hst⟩
  case round =>
    obtain ⟨k, m, hk, rfl, rfl, hs, hb, hown⟩ := hrel
    clear hst hbel hini
    by_cases hlt : k < n
    · have H1 := hide (unhide HS wr hb)
      cases b with
      | false =>
        obtain rfl : k = 0 := by rcases hk with h | h; exact h; exact absurd h.2 (by decide)
        have HF0 := hide (unhide HF 0 (.inl ⟨rfl, rfl⟩))
        clear HS HF
        go_wp2_with fail
        refine (unhide H1).mono ?_
        rintro e w2 ⟨rfl, d2⟩
        have hown2 := own_below hown (d2.below _)
        have hb2 := hb.trans (d2.below _)
        have hI : Ints w2 w.heap.size u3 (plK (gR p) 0) := Ints.of_own hown2
        rw [unhide HF0] at hI
        have HI := hide hI
        clear hI hown hown2 d2 H1 hb
        go_wp2
        go_ret
        exact GivesI.mk (unhide HI) hb2
      | true =>
        have hn8 := unhide H8 rfl
        have hle := plK_le (gR p) k
        have HO := hide hown
        have HB := hide hb
        clear HS HF hown hb
        go_wp2_with fail
        refine (unhide H1).mono ?_
        rintro e w2 ⟨rfl, d2⟩
        have hown := own_below (unhide HO) (d2.below _)
        have hb := (unhide HB).trans (d2.below _)
        clear H1 HO HB d2
        have hA := (unhide HA).below hb
        obtain ⟨ad, u, rfl, _, hu, hc⟩ := hA.reads.at_ hlt
        obtain ⟨x, hx, rfl⟩ := i64_at hu
        have HX := hide hx
        clear hA hu hx
        by_cases hxm : m < x
        · have hst := (unhide hs).yes (unhide HX) hxm
          have HE := hide (i64_snoc_e (plK_yes hst.1))
          have HT := hide hst.2
          clear hst HX hs
          go_wp2_with (first
            | (at_builtin; refine wpList_append_one rfl (.tmp 27) (.tmp 30) 24 rfl w.heap.size 3 i0 (.int .i64 0) 8 Try.underlying24 hi hz0 hz1 hz2 rfl w _ _ _ _ rfl hown (.int .i64 ((k : Int) + 1)) rfl rfl rfl (by omega) (by simp only [maxLen]; omega) hb hb.size ?_; intro v2 w3 hown4 hb4 hg4; clear hg4))
          rw [(unhide HE).1, (unhide HE).2] at hown4
          clear hown hb HE
          go_roundw
          case rel => exact ⟨k + 1, _, .inr ⟨by omega, trivial⟩, by go_num, rfl, HT, hb4, hown4⟩
          case measure => simp [intOf]; omega
        · have hst := (unhide hs).no (unhide HP) (unhide HX) hxm
          have HE := hide (plK_no hst.1)
          have HT := hide hst.2
          clear hst HX hs
          go_wp2
          go_roundw
          case rel => exact ⟨k + 1, _, .inr ⟨by omega, trivial⟩, by go_num, rfl, HT, hb, by rw [unhide HE]; exact hown⟩
          case measure => simp [intOf]; omega
    · have hI : Ints wr w.heap.size u3 (plK (gR p) k) := Ints.of_own hown
      rw [unhide HF k (by
        rcases hk with rfl | ⟨hk, rfl⟩
        · cases b with
          | false => exact .inl ⟨rfl, rfl⟩
          | true => exact .inr (.inl ⟨rfl, by omega⟩)
        · exact .inr (.inl ⟨rfl, by omega⟩))] at hI
      have HI := hide hI
      clear hown hI HF HS
      go_wp2
      go_ret
      exact GivesI.mk (unhide HI) hb
set_option maxHeartbeats 800000 in
theorem slow_any (A : Option Addr) (n c B : Nat) (p : List Int) (w : World) (h : Arg w B A n c p) :
    Calls Try.prog 30 #[.slice A n c] w (GivesI w (plR (gL p) p)) := by
  obtain ⟨i0, hi, hz0, hz1, hz2⟩ := info_parts intInfo
  have hl := h.len
  have hn9 := h.le
  obtain ⟨b, hb⟩ : ∃ b, isP p = b := ⟨_, rfl⟩
  have HS := hide (show ∀ w', Below w.heap.size w w' → _ from fun w' d => sisperm_any A n c B p b hb w' (h.below d).reads h.le h.cap)
  have hst := own0 w w.heap.size (Nat.le_refl _)
  have hbel := (Below.refl w.heap.size w).alloc (Nat.le_refl _) (.cells #[] 3)
  have HF := hide (show ∀ k, (k = 0 ∧ b = false) ∨ (b = true ∧ k = n) ∨ (k = 0 ∧ n = 0) → plK (gL p) k = plR (gL p) p from fun k hk => by
    cases b with
    | false =>
      rw [plR_no hb]
      rcases hk with ⟨rfl, _⟩ | ⟨h1, _⟩ | ⟨rfl, _⟩
      · rfl
      · cases h1
      · rfl
    | true =>
      rw [plR_yes hb, hl]
      rcases hk with ⟨_, h1⟩ | ⟨_, h1⟩ | ⟨rfl, h1⟩
      · cases h1
      · rw [← h1]
      · rw [h1])
  have HA := hide h
  have HP := hide hb
  have H8 := hide (show b = true → n ≤ 8 from fun e => by have := isP_le (hb.trans e); omega)
  have hini := LowS.zero p
  rw [hl] at hini
  clear hb h hl
  go_enter Try.func30, Try.ntmps30
  go_wp2
  go_loopw [3, 4, 5] (fun o mv i wr => ∃ (k : Nat) (m : Int), (k = 0 ∨ (k ≤ n ∧ b = true)) ∧ i = .int .i64 (k : Int) ∧ mv = .int .i64 m ∧ Hid (LowS p k m) ∧ Below w.heap.size w wr ∧ wr.ownsRow w.heap.size 3 1 o (plK (gL p) k).length (i64s (plK (gL p) k))) (fun _ _ i _ => n - (intOf i).toNat)
  case atStart => exact ⟨0, _, .inl rfl, rfl, rfl, hide hini, hbel, hst⟩
  case round =>
    obtain ⟨k, m, hk, rfl, rfl, hs, hb, hown⟩ := hrel
    clear hst hbel hini
    by_cases hlt : k < n
    · have H1 := hide (unhide HS wr hb)
      cases b with
      | false =>
        obtain rfl : k = 0 := by rcases hk with h | h; exact h; exact absurd h.2 (by decide)
        have HF0 := hide (unhide HF 0 (.inl ⟨rfl, rfl⟩))
        clear HS HF
        go_wp2_with fail
        refine (unhide H1).mono ?_
        rintro e w2 ⟨rfl, d2⟩
        have hown2 := own_below hown (d2.below _)
        have hb2 := hb.trans (d2.below _)
        have hI : Ints w2 w.heap.size u3 (plK (gL p) 0) := Ints.of_own hown2
        rw [unhide HF0] at hI
        have HI := hide hI
        clear hI hown hown2 d2 H1 hb
        go_wp2
        go_ret
        exact GivesI.mk (unhide HI) hb2
      | true =>
        have hn8 := unhide H8 rfl
        have hle := plK_le (gL p) k
        have HO := hide hown
        have HB := hide hb
        clear HS HF hown hb
        go_wp2_with fail
        refine (unhide H1).mono ?_
        rintro e w2 ⟨rfl, d2⟩
        have hown := own_below (unhide HO) (d2.below _)
        have hb := (unhide HB).trans (d2.below _)
        clear H1 HO HB d2
        have hA := (unhide HA).below hb
        obtain ⟨ad, u, rfl, _, hu, hc⟩ := hA.reads.at_ hlt
        obtain ⟨x, hx, rfl⟩ := i64_at hu
        have HX := hide hx
        clear hA hu hx
        by_cases hxm : x < m
        · have hst := (unhide hs).yes (unhide HX) hxm
          have HE := hide (i64_snoc_e (plK_yes hst.1))
          have HT := hide hst.2
          clear hst HX hs
          go_wp2_with (first
            | (at_builtin; refine wpList_append_one rfl (.tmp 30) (.tmp 33) 24 rfl w.heap.size 3 i0 (.int .i64 0) 8 Try.underlying24 hi hz0 hz1 hz2 rfl w _ _ _ _ rfl hown (.int .i64 ((k : Int) + 1)) rfl rfl rfl (by omega) (by simp only [maxLen]; omega) hb hb.size ?_; intro v2 w3 hown4 hb4 hg4; clear hg4))
          rw [(unhide HE).1, (unhide HE).2] at hown4
          clear hown hb HE
          go_roundw
          case rel => exact ⟨k + 1, _, .inr ⟨by omega, trivial⟩, by go_num, rfl, HT, hb4, hown4⟩
          case measure => simp [intOf]; omega
        · have hst := (unhide hs).no (unhide HP) (unhide HX) hxm
          have HE := hide (plK_no hst.1)
          have HT := hide hst.2
          clear hst HX hs
          go_wp2
          go_roundw
          case rel => exact ⟨k + 1, _, .inr ⟨by omega, trivial⟩, by go_num, rfl, HT, hb, by rw [unhide HE]; exact hown⟩
          case measure => simp [intOf]; omega
    · have hI : Ints wr w.heap.size u3 (plK (gL p) k) := Ints.of_own hown
      rw [unhide HF k (by
        rcases hk with rfl | ⟨hk, rfl⟩
        · cases b with
          | false => exact .inl ⟨rfl, rfl⟩
          | true => exact .inr (.inl ⟨rfl, by omega⟩)
        · exact .inr (.inl ⟨rfl, by omega⟩))] at hI
      have HI := hide hI
      clear hown hI HF HS
      go_wp2
      go_ret
      exact GivesI.mk (unhide HI) hb
set_option maxHeartbeats 800000 in
theorem sfix_any (A : Option Addr) (n c B : Nat) (p : List Int) (w : World) (h : Arg w B A n c p) :
    Calls Try.prog 32 #[.slice A n c] w (GivesN w (cnR (gF p) p)) := by
  have hl := h.len
  obtain ⟨b, hb⟩ : ∃ b, isP p = b := ⟨_, rfl⟩
  have H1 := hide (sisperm_any A n c B p b hb w h.reads h.le h.cap)
  cases b with
  | false =>
    rw [cnR_no hb]
    clear hb h hl
    go_enter Try.func32, Try.ntmps32
    go_wp2_with fail
    refine (unhide H1).mono ?_
    rintro e w1 ⟨rfl, hd⟩
    clear H1
    go_wp2
    go_ret
    exact ⟨rfl, hd.below _⟩
  | true =>
    have hn8 : n ≤ 8 := by have := isP_le hb; omega
    rw [cnR_yes hb, hl]
    have HA := hide h
    clear hb h hl
    go_enter Try.func32, Try.ntmps32
    go_wp2_with fail
    refine (unhide H1).mono ?_
    rintro e w1 ⟨rfl, hd1⟩
    have hb1 := hd1.below w.heap.size
    clear H1 hd1
    go_wp2
    go_loopw [3, 4] (fun s i wr => ∃ k : Nat, k ≤ n ∧ i = .int .i64 (k : Int) ∧ s = .int .i64 ((plK (gF p) k).length : Nat) ∧ Below w.heap.size w wr) (fun _ i _ => n - (intOf i).toNat)
    case atStart => exact ⟨0, Nat.zero_le _, rfl, rfl, hb1⟩
    case round =>
      obtain ⟨k, hk, rfl, rfl, hb⟩ := hrel
      clear hb1
      have hle := plK_le (gF p) k
      by_cases hlt : k < n
      · obtain ⟨ad, u, rfl, _, hu, hc⟩ := ((unhide HA).below hb).reads.at_ hlt
        obtain ⟨x, hx, rfl⟩ := i64_at hu
        have hat : gF p k = decide (x = (k : Int) + 1) := by unfold gF; rw [at0_of hx]
        obtain ⟨m, hm⟩ : ∃ m, m = (plK (gF p) k).length := ⟨_, rfl⟩
        rw [← hm] at hle ⊢
        clear hu hx
        by_cases hcc : x = (k : Int) + 1
        · have hst := plK_len_yes (hat.trans (decide_eq_true hcc))
          rw [← hm] at hst
          have HST := hide hst
          have H2 := hide (bit_true wr)
          have hd : ((x == (k : Int) + 1) = true) := by simp; omega
          clear hst hat hm hcc
          go_wp2_with fail
          refine (unhide H2).mono ?_
          rintro e w2 ⟨rfl, hw⟩
          subst hw
          clear H2 hd
          go_wp2
          go_roundw
          case rel => exact ⟨k + 1, by omega, by go_num, by rw [unhide HST]; go_num, hb⟩
          case measure => simp [intOf]; omega
        · have hst := plK_len_no (hat.trans (decide_eq_false hcc))
          rw [← hm] at hst
          have HST := hide hst
          have H2 := hide (bit_false wr)
          have hd : ((x == (k : Int) + 1) = false) := by simp; omega
          clear hst hat hm hcc
          go_wp2_with fail
          refine (unhide H2).mono ?_
          rintro e w2 ⟨rfl, hw⟩
          subst hw
          clear H2 hd
          go_wp2
          go_roundw
          case rel => exact ⟨k + 1, by omega, by go_num, by rw [unhide HST], hb⟩
          case measure => simp [intOf]; omega
      · obtain rfl : n = k := by omega
        go_wp2
        go_ret
        exact ⟨rfl, hb⟩
set_option maxHeartbeats 800000 in
theorem srise_any (A : Option Addr) (n c B : Nat) (p : List Int) (w : World) (h : Arg w B A n c p) :
    Calls Try.prog 34 #[.slice A n c] w (GivesN w (cnR (gU p) p)) := by
  have hl := h.len
  obtain ⟨b, hb⟩ : ∃ b, isP p = b := ⟨_, rfl⟩
  have H1 := hide (sisperm_any A n c B p b hb w h.reads h.le h.cap)
  cases b with
  | false =>
    rw [cnR_no hb]
    clear hb h hl
    go_enter Try.func34, Try.ntmps34
    go_wp2_with fail
    refine (unhide H1).mono ?_
    rintro e w1 ⟨rfl, hd⟩
    clear H1
    go_wp2
    go_ret
    exact ⟨rfl, hd.below _⟩
  | true =>
    have hn8 : n ≤ 8 := by have := isP_le hb; omega
    rw [cnR_yes hb, hl]
    have HA := hide h
    clear hb h hl
    go_enter Try.func34, Try.ntmps34
    go_wp2_with fail
    refine (unhide H1).mono ?_
    rintro e w1 ⟨rfl, hd1⟩
    have hb1 := hd1.below w.heap.size
    clear H1 hd1
    go_wp2
    go_loopw [3, 4] (fun s i wr => ∃ k : Nat, k ≤ n ∧ i = .int .i64 (k : Int) ∧ s = .int .i64 ((plK (gU p) k).length : Nat) ∧ Below w.heap.size w wr) (fun _ i _ => n - (intOf i).toNat)
    case atStart => exact ⟨0, Nat.zero_le _, rfl, rfl, hb1⟩
    case round =>
      obtain ⟨k, hk, rfl, rfl, hb⟩ := hrel
      clear hb1
      have hle := plK_le (gU p) k
      by_cases hlt : k < n
      · obtain ⟨ad, u, rfl, _, hu, hc⟩ := ((unhide HA).below hb).reads.at_ hlt
        obtain ⟨x, hx, rfl⟩ := i64_at hu
        have hat : gU p k = decide ((k : Int) + 1 < x) := by unfold gU; rw [at0_of hx]
        obtain ⟨m, hm⟩ : ∃ m, m = (plK (gU p) k).length := ⟨_, rfl⟩
        rw [← hm] at hle ⊢
        clear hu hx
        by_cases hcc : (k : Int) + 1 < x
        · have hst := plK_len_yes (hat.trans (decide_eq_true hcc))
          rw [← hm] at hst
          have HST := hide hst
          have H2 := hide (bit_true wr)
          have hd : (decide ((k : Int) + 1 < x) = true) := by simp; omega
          clear hst hat hm hcc
          go_wp2_with fail
          refine (unhide H2).mono ?_
          rintro e w2 ⟨rfl, hw⟩
          subst hw
          clear H2 hd
          go_wp2
          go_roundw
          case rel => exact ⟨k + 1, by omega, by go_num, by rw [unhide HST]; go_num, hb⟩
          case measure => simp [intOf]; omega
        · have hst := plK_len_no (hat.trans (decide_eq_false hcc))
          rw [← hm] at hst
          have HST := hide hst
          have H2 := hide (bit_false wr)
          have hd : (decide ((k : Int) + 1 < x) = false) := by simp; omega
          clear hst hat hm hcc
          go_wp2_with fail
          refine (unhide H2).mono ?_
          rintro e w2 ⟨rfl, hw⟩
          subst hw
          clear H2 hd
          go_wp2
          go_roundw
          case rel => exact ⟨k + 1, by omega, by go_num, by rw [unhide HST], hb⟩
          case measure => simp [intOf]; omega
      · obtain rfl : n = k := by omega
        go_wp2
        go_ret
        exact ⟨rfl, hb⟩
set_option maxHeartbeats 800000 in
theorem sinvs_any (A : Option Addr) (n c B : Nat) (p : List Int) (w : World) (h : Arg w B A n c p) :
    Calls Try.prog 21 #[.slice A n c] w (GivesN w (invsR p)) := by
  have hl := h.len
  obtain ⟨b, hb⟩ : ∃ b, isP p = b := ⟨_, rfl⟩
  have H1 := hide (sisperm_any A n c B p b hb w h.reads h.le h.cap)
  cases b with
  | false =>
    rw [invsR_no hb]
    clear hb h hl
    go_enter Try.func21, Try.ntmps21
    go_wp2_with fail
    refine (unhide H1).mono ?_
    rintro e w1 ⟨rfl, hd⟩
    clear H1
    go_wp2
    go_ret
    exact ⟨rfl, hd.below _⟩
  | true =>
    have hn8 : n ≤ 8 := by have := isP_le hb; omega
    rw [invsR_yes hb, hl]
    have HA := hide h
    clear hb h hl
    go_enter Try.func21, Try.ntmps21
    go_wp2_with fail
    refine (unhide H1).mono ?_
    rintro e w1 ⟨rfl, hd1⟩
    have hb1 := hd1.below w.heap.size
    clear H1 hd1
    go_wp2
    go_loopw [3, 4, 5] (fun s i _ wr => ∃ k : Nat, k ≤ n ∧ i = .int .i64 (k : Int) ∧ s = .int .i64 ((invK p k : Nat) : Int) ∧ Below w.heap.size w wr) (fun _ i _ _ => n - (intOf i).toNat)
    case atStart => exact ⟨0, Nat.zero_le _, rfl, rfl, hb1⟩
    case round =>
      obtain ⟨k, hk, rfl, rfl, hb⟩ := hrel
      clear hb1
      have hle := invK_le p k (by omega)
      by_cases hlt : k < n
      · obtain ⟨ad, u, rfl, _, hu, hc⟩ := ((unhide HA).below hb).reads.at_ hlt
        obtain ⟨v, hv, rfl⟩ := i64_at hu
        have HST := hide (invK_at hv)
        obtain ⟨S, hS⟩ : ∃ S, S = invK p k := ⟨_, rfl⟩
        rw [← hS] at hle HST ⊢
        obtain ⟨wo, rfl⟩ : ∃ wo : World, wo = wr := ⟨_, rfl⟩
        clear hu hv hS
        go_wp2
        go_loopw [3, 5] (fun s i wi => ∃ j : Nat, j ≤ k ∧ i = .int .i64 (j : Int) ∧ s = .int .i64 ((S : Int) + (gtr (p.take j) v : Int)) ∧ Drew wo wi) (fun _ i _ => k - (intOf i).toNat)
        case atStart => exact ⟨0, Nat.zero_le _, rfl, by rw [List.take_zero, show gtr [] v = 0 from rfl]; simp, Drew.refl _⟩
        case round =>
          obtain ⟨j, hj, rfl, rfl, hd⟩ := hrel
          have hg1 := gtr_le (p.take j) v
          rw [List.length_take] at hg1
          by_cases hjt : j < k
          · obtain ⟨ad', u', he', _, hu', hc'⟩ := (((unhide HA).below hb).reads.ofDrew hd).at_ (show j < n by omega)
            obtain rfl : ad = ad' := Option.some.inj he'
            clear he'
            obtain ⟨x, hx, rfl⟩ := i64_at hu'
            have hstep := hide (gtr_at v hx)
            have hcv := (hd.cell _).trans hc
            have HD := hide hd
            have HB := hide hb
            obtain ⟨m, hm⟩ : ∃ m, m = gtr (p.take j) v := ⟨_, rfl⟩
            rw [← hm] at hg1 hstep ⊢
            clear hu' hx hd hb hc hm
            have w1 : IntKind.i64.wrap ((S : Int) + (m : Int) + 1) = (S : Int) + (m : Int) + 1 := IntWalk.i64_in _ (by omega)
            have w0 : IntKind.i64.wrap ((S : Int) + (m : Int)) = (S : Int) + (m : Int) := IntWalk.i64_in _ (by omega)
            by_cases hxv : v < x
            · go_wp2
              go_quiet ((go_at_call 52; exact Calls.quiet_of_same (bit_true _)))
              clear w1 w0
              go_wp2
              go_roundw
              case rel => exact ⟨j + 1, by omega, by go_num, by rw [unhide hstep, if_pos hxv]; go_num, (unhide HD).more _⟩
              case measure => simp [intOf]; omega
            · have hdf : decide (v < x) = false := by simpa using hxv
              go_wp2
              go_quiet ((go_at_call 52; exact Calls.quiet_of_same (bit_false _)))
              clear w1 w0
              go_wp2
              go_roundw
              case rel => exact ⟨j + 1, by omega, by go_num, by rw [unhide hstep, if_neg (by omega)]; rfl, (unhide HD).more _⟩
              case measure => simp [intOf]; omega
          · obtain rfl : k = j := by omega
            have hb2 := hb.trans (hd.below _)
            clear hd hb hc
            go_wp2
            go_roundw
            case rel => exact ⟨k + 1, by omega, by go_num, by rw [unhide HST]; go_num, hb2⟩
            case measure => simp [intOf]; omega
      · obtain rfl : n = k := by omega
        go_wp2
        go_ret
        exact ⟨rfl, hb⟩
set_option maxHeartbeats 800000 in
theorem smaj_any (A : Option Addr) (n c B : Nat) (p : List Int) (w : World) (h : Arg w B A n c p) :
    Calls Try.prog 23 #[.slice A n c] w (GivesN w (majR p)) := by
  have hl := h.len
  obtain ⟨b, hb⟩ : ∃ b, isP p = b := ⟨_, rfl⟩
  have H1 := hide (sisperm_any A n c B p b hb w h.reads h.le h.cap)
  cases b with
  | false =>
    rw [majR_no hb]
    clear hb h hl
    go_enter Try.func23, Try.ntmps23
    go_wp2_with fail
    refine (unhide H1).mono ?_
    rintro e w1 ⟨rfl, hd⟩
    clear H1
    go_wp2
    go_ret
    exact ⟨rfl, hd.below _⟩
  | true =>
    have hn8 : n ≤ 8 := by have := isP_le hb; omega
    have H2 := hide (show ∀ w1, Below w.heap.size w w1 → _ from fun w1 d1 => sdesc_any A n c B p w1 (h.below d1))
    rw [majR_yes hb]
    have hle := plR_le (gD p) p
    have HR := hide (plR_range (gD p) p)
    obtain ⟨L, hL⟩ : ∃ L, L = plR (gD p) p := ⟨_, rfl⟩
    rw [← hL] at H2 hle HR ⊢
    obtain ⟨m, hm⟩ : ∃ m, m = L.length := ⟨_, rfl⟩
    rw [← hm] at hle ⊢
    have HM := hide hm
    clear hb h hl hL hm
    go_enter Try.func23, Try.ntmps23
    go_wp2_with fail
    refine (unhide H1).mono ?_
    rintro e w1 ⟨rfl, hd1⟩
    have hb1 := hd1.below w.heap.size
    have H3 := hide (unhide H2 w1 hb1)
    clear H1 H2 hd1
    go_wp2_with fail
    refine (unhide H3).mono ?_
    rintro e w2 ⟨A2, c2, rfl, o2, d2⟩
    have hb2 := below_after hb1 d2
    rw [← unhide HM] at o2 ⊢
    have HO := hide o2.reads
    clear H3 hb1 d2 o2
    go_wp2
    go_loopw [3, 5] (fun s i wr => ∃ k : Nat, k ≤ m ∧ i = .int .i64 (k : Int) ∧ s = .int .i64 (sumK L k) ∧ w2 = wr) (fun _ i _ => m - (intOf i).toNat)
    case atStart => exact ⟨0, Nat.zero_le _, rfl, rfl, rfl⟩
    case round =>
      obtain ⟨k, hk, rfl, rfl, rfl⟩ := hrel
      have hle2 := sumK_le (unhide HR) k (by rw [← unhide HM]; exact hk)
      by_cases hlt : k < m
      · obtain ⟨ad, u, rfl, _, hu, hc⟩ := (unhide HO).at_ hlt
        obtain ⟨x, hx, rfl⟩ := i64_at hu
        have hxr := unhide HR x (List.mem_of_getElem? hx)
        have hst := hide (sumK_at hx)
        obtain ⟨s, hs⟩ : ∃ s, s = sumK L k := ⟨_, rfl⟩
        rw [← hs] at hst hle2 ⊢
        clear hu hx hs
        go_wp2
        go_roundw
        case rel => exact ⟨k + 1, by omega, by go_num, by rw [unhide hst], trivial⟩
        case measure => simp [intOf]; omega
      · obtain rfl : m = k := by omega
        go_wp2
        go_ret
        exact ⟨rfl, hb2⟩
end Go.Proofs.Ytcnmnpbipencmaa


/-
  impl.placesWhere and impl.countWhere, at each function value that they are called with, by their contracts. (Written by wip/tools/mkplw.py.)
-/

namespace Go.Proofs.Ytcnmnpbipencmaa
set_option maxRecDepth 100000
open Go.RowKit

theorem ownNone (w : World) (B : Nat) (e : TypeId) : w.ownsRow B e 1 (.slice none 0 0) 0 [] := ⟨rfl, .inl ⟨rfl, rfl⟩⟩
/-- A function value that tells which places fit, in every world behind w. -/
def Fits (w : World) (N : Nat) (cs : Array Value) (p : List Int) (g : Nat → Bool) : Prop :=
  ∀ (k : Nat) (v : Int) (w' : World), p[k]? = some v → Below w.heap.size w w' →
    Calls Try.prog N (#[.int .i64 ((k : Int) + 1), .int .i64 v] ++ cs) w' fun e w'' => e = .returned (.bool (g k)) ∧ Below w'.heap.size w' w''
theorem Fits.later {w w' : World} {N : Nat} {cs : Array Value} {p : List Int} {g : Nat → Bool} (h : Fits w N cs p g) (hb : Below w.heap.size w w') : Fits w' N cs p g := fun k v w2 hk h2 => h k v w2 hk (below_after hb h2)
set_option maxHeartbeats 800000 in
theorem plwD_any (bx : Nat) (A : Option Addr) (n c B : Nat) (p : List Int) (g : Nat → Bool) (w : World) (h : Arg w B A n c p) (hf : isP p = true → Fits w 54 #[.pointer (some ⟨bx, 0, none⟩)] p g) :
    Calls Try.prog 53 #[.slice A n c, .func (.func 54) #[] #[.pointer (some ⟨bx, 0, none⟩)]] w (GivesI w (plR g p)) := by
  obtain ⟨i0, hi, hz0, hz1, hz2⟩ := info_parts intInfo
  have hl := h.len
  obtain ⟨b, hb⟩ : ∃ b, isP p = b := ⟨_, rfl⟩
  have H1 := hide (iisperm_any A n c B p b hb w h.reads h.under h.le h.small)
  cases b with
  | false =>
    rw [plR_no hb]
    clear hb h hl hf
    go_enter Try.func53, Try.ntmps53
    go_wp2_with fail
    refine (unhide H1).mono ?_
    rintro e w1 ⟨rfl, hb⟩
    clear H1
    go_wp2
    go_ret
    exact GivesI.mk (v := .slice none 0 0) (Ints.nil _ _) hb
  | true =>
    have hn8 : n ≤ 8 := by have := isP_le hb; omega
    rw [plR_yes hb, hl]
    have HA := hide h
    have HF := hide (hf hb)
    clear hb h hl hf
    go_enter Try.func53, Try.ntmps53
    go_wp2_with fail
    refine (unhide H1).mono ?_
    rintro e w1 ⟨rfl, hb1⟩
    clear H1
    have hst := ownNone w1 w.heap.size 3
    go_wp2
    go_loopw [5, 13] (fun o i wr => ∃ k : Nat, k ≤ n ∧ i = .int .i64 (k : Int) ∧ Below w.heap.size w wr ∧ wr.ownsRow w.heap.size 3 1 o (plK g k).length (i64s (plK g k))) (fun _ i _ => n - (intOf i).toNat)
    case atStart => exact ⟨0, Nat.zero_le _, rfl, hb1, hst⟩
    case round =>
      obtain ⟨k, hk, rfl, hb, hown⟩ := hrel
      clear hst hb1
      have hle := plK_le g k
      by_cases hlt : k < n
      · obtain ⟨ad, u, rfl, _, hu, hc⟩ := ((unhide HA).reads.more (unhide HA).under |>.below hb).at_ hlt
        obtain ⟨x, hx, rfl⟩ := i64_at hu
        have H2 := hide (show Calls Try.prog 54 #[.int .i64 ((k : Int) + 1), .int .i64 x, .pointer (some ⟨bx, 0, none⟩)] wr _ from unhide HF k x wr hx hb)
        obtain ⟨b2, hb2⟩ : ∃ b2, g k = b2 := ⟨_, rfl⟩
        rw [hb2] at H2
        clear hu hx
        go_wp2_with fail
        refine (unhide H2).mono ?_
        rintro e w2 ⟨rfl, d2⟩
        have hb3 := below_after hb d2
        have hown3 := own_below hown d2
        clear H2 hb d2 hown hc
        cases b2 with
        | true =>
          have e : i64s (plK g k) ++ [.int .i64 ((k : Int) + 1)] = i64s (plK g (k + 1)) := by rw [plK_yes hb2]; unfold i64s; simp
          have hln := plK_len_yes hb2
          have HE := hide (⟨e, hln⟩ : _ ∧ _)
          clear e hln hb2
          go_wp2_with (first
            | (at_builtin; refine wpList_append_one rfl (.tmp 23) (.tmp 26) 24 rfl w.heap.size 3 i0 (.int .i64 0) 8 Try.underlying24 hi hz0 hz1 hz2 rfl w w2 _ _ _ rfl hown3 (.int .i64 ((k : Int) + 1)) rfl rfl rfl (by omega) (by simp only [maxLen]; omega) hb3 hb3.size ?_; intro v2 w3 hown4 hb4 hg4; clear hg4))
          rw [(unhide HE).1, ← (unhide HE).2] at hown4
          clear hown3 hb3 HE
          go_roundw
          case rel => exact ⟨k + 1, by omega, by go_num, hb4, hown4⟩
          case measure => simp [intOf]; omega
        | false =>
          rw [← plK_no hb2] at hown3
          clear hb2
          go_wp2
          go_roundw
          case rel => exact ⟨k + 1, by omega, by go_num, hb3, hown3⟩
          case measure => simp [intOf]; omega
      · obtain rfl : n = k := by omega
        have hI : Ints wr w.heap.size u5 (plK g n) := Ints.of_own hown
        clear hown
        go_wp2
        go_ret
        exact GivesI.mk hI hb
set_option maxHeartbeats 800000 in
theorem plwR_any (bx : Nat) (A : Option Addr) (n c B : Nat) (p : List Int) (g : Nat → Bool) (w : World) (h : Arg w B A n c p) (hf : isP p = true → Fits w 55 #[.pointer (some ⟨bx, 0, none⟩)] p g) :
    Calls Try.prog 53 #[.slice A n c, .func (.func 55) #[] #[.pointer (some ⟨bx, 0, none⟩)]] w (GivesI w (plR g p)) := by
  obtain ⟨i0, hi, hz0, hz1, hz2⟩ := info_parts intInfo
  have hl := h.len
  obtain ⟨b, hb⟩ : ∃ b, isP p = b := ⟨_, rfl⟩
  have H1 := hide (iisperm_any A n c B p b hb w h.reads h.under h.le h.small)
  cases b with
  | false =>
    rw [plR_no hb]
    clear hb h hl hf
    go_enter Try.func53, Try.ntmps53
    go_wp2_with fail
    refine (unhide H1).mono ?_
    rintro e w1 ⟨rfl, hb⟩
    clear H1
    go_wp2
    go_ret
    exact GivesI.mk (v := .slice none 0 0) (Ints.nil _ _) hb
  | true =>
    have hn8 : n ≤ 8 := by have := isP_le hb; omega
    rw [plR_yes hb, hl]
    have HA := hide h
    have HF := hide (hf hb)
    clear hb h hl hf
    go_enter Try.func53, Try.ntmps53
    go_wp2_with fail
    refine (unhide H1).mono ?_
    rintro e w1 ⟨rfl, hb1⟩
    clear H1
    have hst := ownNone w1 w.heap.size 3
    go_wp2
    go_loopw [5, 13] (fun o i wr => ∃ k : Nat, k ≤ n ∧ i = .int .i64 (k : Int) ∧ Below w.heap.size w wr ∧ wr.ownsRow w.heap.size 3 1 o (plK g k).length (i64s (plK g k))) (fun _ i _ => n - (intOf i).toNat)
    case atStart => exact ⟨0, Nat.zero_le _, rfl, hb1, hst⟩
    case round =>
      obtain ⟨k, hk, rfl, hb, hown⟩ := hrel
      clear hst hb1
      have hle := plK_le g k
      by_cases hlt : k < n
      · obtain ⟨ad, u, rfl, _, hu, hc⟩ := ((unhide HA).reads.more (unhide HA).under |>.below hb).at_ hlt
        obtain ⟨x, hx, rfl⟩ := i64_at hu
        have H2 := hide (show Calls Try.prog 55 #[.int .i64 ((k : Int) + 1), .int .i64 x, .pointer (some ⟨bx, 0, none⟩)] wr _ from unhide HF k x wr hx hb)
        obtain ⟨b2, hb2⟩ : ∃ b2, g k = b2 := ⟨_, rfl⟩
        rw [hb2] at H2
        clear hu hx
        go_wp2_with fail
        refine (unhide H2).mono ?_
        rintro e w2 ⟨rfl, d2⟩
        have hb3 := below_after hb d2
        have hown3 := own_below hown d2
        clear H2 hb d2 hown hc
        cases b2 with
        | true =>
          have e : i64s (plK g k) ++ [.int .i64 ((k : Int) + 1)] = i64s (plK g (k + 1)) := by rw [plK_yes hb2]; unfold i64s; simp
          have hln := plK_len_yes hb2
          have HE := hide (⟨e, hln⟩ : _ ∧ _)
          clear e hln hb2
          go_wp2_with (first
            | (at_builtin; refine wpList_append_one rfl (.tmp 23) (.tmp 26) 24 rfl w.heap.size 3 i0 (.int .i64 0) 8 Try.underlying24 hi hz0 hz1 hz2 rfl w w2 _ _ _ rfl hown3 (.int .i64 ((k : Int) + 1)) rfl rfl rfl (by omega) (by simp only [maxLen]; omega) hb3 hb3.size ?_; intro v2 w3 hown4 hb4 hg4; clear hg4))
          rw [(unhide HE).1, ← (unhide HE).2] at hown4
          clear hown3 hb3 HE
          go_roundw
          case rel => exact ⟨k + 1, by omega, by go_num, hb4, hown4⟩
          case measure => simp [intOf]; omega
        | false =>
          rw [← plK_no hb2] at hown3
          clear hb2
          go_wp2
          go_roundw
          case rel => exact ⟨k + 1, by omega, by go_num, hb3, hown3⟩
          case measure => simp [intOf]; omega
      · obtain rfl : n = k := by omega
        have hI : Ints wr w.heap.size u5 (plK g n) := Ints.of_own hown
        clear hown
        go_wp2
        go_ret
        exact GivesI.mk hI hb
set_option maxHeartbeats 800000 in
theorem plwL_any (bx : Nat) (A : Option Addr) (n c B : Nat) (p : List Int) (g : Nat → Bool) (w : World) (h : Arg w B A n c p) (hf : isP p = true → Fits w 56 #[.pointer (some ⟨bx, 0, none⟩)] p g) :
    Calls Try.prog 53 #[.slice A n c, .func (.func 56) #[] #[.pointer (some ⟨bx, 0, none⟩)]] w (GivesI w (plR g p)) := by
  obtain ⟨i0, hi, hz0, hz1, hz2⟩ := info_parts intInfo
  have hl := h.len
  obtain ⟨b, hb⟩ : ∃ b, isP p = b := ⟨_, rfl⟩
  have H1 := hide (iisperm_any A n c B p b hb w h.reads h.under h.le h.small)
  cases b with
  | false =>
    rw [plR_no hb]
    clear hb h hl hf
    go_enter Try.func53, Try.ntmps53
    go_wp2_with fail
    refine (unhide H1).mono ?_
    rintro e w1 ⟨rfl, hb⟩
    clear H1
    go_wp2
    go_ret
    exact GivesI.mk (v := .slice none 0 0) (Ints.nil _ _) hb
  | true =>
    have hn8 : n ≤ 8 := by have := isP_le hb; omega
    rw [plR_yes hb, hl]
    have HA := hide h
    have HF := hide (hf hb)
    clear hb h hl hf
    go_enter Try.func53, Try.ntmps53
    go_wp2_with fail
    refine (unhide H1).mono ?_
    rintro e w1 ⟨rfl, hb1⟩
    clear H1
    have hst := ownNone w1 w.heap.size 3
    go_wp2
    go_loopw [5, 13] (fun o i wr => ∃ k : Nat, k ≤ n ∧ i = .int .i64 (k : Int) ∧ Below w.heap.size w wr ∧ wr.ownsRow w.heap.size 3 1 o (plK g k).length (i64s (plK g k))) (fun _ i _ => n - (intOf i).toNat)
    case atStart => exact ⟨0, Nat.zero_le _, rfl, hb1, hst⟩
    case round =>
      obtain ⟨k, hk, rfl, hb, hown⟩ := hrel
      clear hst hb1
      have hle := plK_le g k
      by_cases hlt : k < n
      · obtain ⟨ad, u, rfl, _, hu, hc⟩ := ((unhide HA).reads.more (unhide HA).under |>.below hb).at_ hlt
        obtain ⟨x, hx, rfl⟩ := i64_at hu
        have H2 := hide (show Calls Try.prog 56 #[.int .i64 ((k : Int) + 1), .int .i64 x, .pointer (some ⟨bx, 0, none⟩)] wr _ from unhide HF k x wr hx hb)
        obtain ⟨b2, hb2⟩ : ∃ b2, g k = b2 := ⟨_, rfl⟩
        rw [hb2] at H2
        clear hu hx
        go_wp2_with fail
        refine (unhide H2).mono ?_
        rintro e w2 ⟨rfl, d2⟩
        have hb3 := below_after hb d2
        have hown3 := own_below hown d2
        clear H2 hb d2 hown hc
        cases b2 with
        | true =>
          have e : i64s (plK g k) ++ [.int .i64 ((k : Int) + 1)] = i64s (plK g (k + 1)) := by rw [plK_yes hb2]; unfold i64s; simp
          have hln := plK_len_yes hb2
          have HE := hide (⟨e, hln⟩ : _ ∧ _)
          clear e hln hb2
          go_wp2_with (first
            | (at_builtin; refine wpList_append_one rfl (.tmp 23) (.tmp 26) 24 rfl w.heap.size 3 i0 (.int .i64 0) 8 Try.underlying24 hi hz0 hz1 hz2 rfl w w2 _ _ _ rfl hown3 (.int .i64 ((k : Int) + 1)) rfl rfl rfl (by omega) (by simp only [maxLen]; omega) hb3 hb3.size ?_; intro v2 w3 hown4 hb4 hg4; clear hg4))
          rw [(unhide HE).1, ← (unhide HE).2] at hown4
          clear hown3 hb3 HE
          go_roundw
          case rel => exact ⟨k + 1, by omega, by go_num, hb4, hown4⟩
          case measure => simp [intOf]; omega
        | false =>
          rw [← plK_no hb2] at hown3
          clear hb2
          go_wp2
          go_roundw
          case rel => exact ⟨k + 1, by omega, by go_num, hb3, hown3⟩
          case measure => simp [intOf]; omega
      · obtain rfl : n = k := by omega
        have hI : Ints wr w.heap.size u5 (plK g n) := Ints.of_own hown
        clear hown
        go_wp2
        go_ret
        exact GivesI.mk hI hb
set_option maxHeartbeats 800000 in
theorem plwF_any (A : Option Addr) (n c B : Nat) (p : List Int) (g : Nat → Bool) (w : World) (h : Arg w B A n c p) (hf : isP p = true → Fits w 58 #[] p g) :
    Calls Try.prog 53 #[.slice A n c, .func (.func 58) #[] #[]] w (GivesI w (plR g p)) := by
  obtain ⟨i0, hi, hz0, hz1, hz2⟩ := info_parts intInfo
  have hl := h.len
  obtain ⟨b, hb⟩ : ∃ b, isP p = b := ⟨_, rfl⟩
  have H1 := hide (iisperm_any A n c B p b hb w h.reads h.under h.le h.small)
  cases b with
  | false =>
    rw [plR_no hb]
    clear hb h hl hf
    go_enter Try.func53, Try.ntmps53
    go_wp2_with fail
    refine (unhide H1).mono ?_
    rintro e w1 ⟨rfl, hb⟩
    clear H1
    go_wp2
    go_ret
    exact GivesI.mk (v := .slice none 0 0) (Ints.nil _ _) hb
  | true =>
    have hn8 : n ≤ 8 := by have := isP_le hb; omega
    rw [plR_yes hb, hl]
    have HA := hide h
    have HF := hide (hf hb)
    clear hb h hl hf
    go_enter Try.func53, Try.ntmps53
    go_wp2_with fail
    refine (unhide H1).mono ?_
    rintro e w1 ⟨rfl, hb1⟩
    clear H1
    have hst := ownNone w1 w.heap.size 3
    go_wp2
    go_loopw [5, 13] (fun o i wr => ∃ k : Nat, k ≤ n ∧ i = .int .i64 (k : Int) ∧ Below w.heap.size w wr ∧ wr.ownsRow w.heap.size 3 1 o (plK g k).length (i64s (plK g k))) (fun _ i _ => n - (intOf i).toNat)
    case atStart => exact ⟨0, Nat.zero_le _, rfl, hb1, hst⟩
    case round =>
      obtain ⟨k, hk, rfl, hb, hown⟩ := hrel
      clear hst hb1
      have hle := plK_le g k
      by_cases hlt : k < n
      · obtain ⟨ad, u, rfl, _, hu, hc⟩ := ((unhide HA).reads.more (unhide HA).under |>.below hb).at_ hlt
        obtain ⟨x, hx, rfl⟩ := i64_at hu
        have H2 := hide (show Calls Try.prog 58 #[.int .i64 ((k : Int) + 1), .int .i64 x] wr _ from unhide HF k x wr hx hb)
        obtain ⟨b2, hb2⟩ : ∃ b2, g k = b2 := ⟨_, rfl⟩
        rw [hb2] at H2
        clear hu hx
        go_wp2_with fail
        refine (unhide H2).mono ?_
        rintro e w2 ⟨rfl, d2⟩
        have hb3 := below_after hb d2
        have hown3 := own_below hown d2
        clear H2 hb d2 hown hc
        cases b2 with
        | true =>
          have e : i64s (plK g k) ++ [.int .i64 ((k : Int) + 1)] = i64s (plK g (k + 1)) := by rw [plK_yes hb2]; unfold i64s; simp
          have hln := plK_len_yes hb2
          have HE := hide (⟨e, hln⟩ : _ ∧ _)
          clear e hln hb2
          go_wp2_with (first
            | (at_builtin; refine wpList_append_one rfl (.tmp 23) (.tmp 26) 24 rfl w.heap.size 3 i0 (.int .i64 0) 8 Try.underlying24 hi hz0 hz1 hz2 rfl w w2 _ _ _ rfl hown3 (.int .i64 ((k : Int) + 1)) rfl rfl rfl (by omega) (by simp only [maxLen]; omega) hb3 hb3.size ?_; intro v2 w3 hown4 hb4 hg4; clear hg4))
          rw [(unhide HE).1, ← (unhide HE).2] at hown4
          clear hown3 hb3 HE
          go_roundw
          case rel => exact ⟨k + 1, by omega, by go_num, hb4, hown4⟩
          case measure => simp [intOf]; omega
        | false =>
          rw [← plK_no hb2] at hown3
          clear hb2
          go_wp2
          go_roundw
          case rel => exact ⟨k + 1, by omega, by go_num, hb3, hown3⟩
          case measure => simp [intOf]; omega
      · obtain rfl : n = k := by omega
        have hI : Ints wr w.heap.size u5 (plK g n) := Ints.of_own hown
        clear hown
        go_wp2
        go_ret
        exact GivesI.mk hI hb
set_option maxHeartbeats 800000 in
theorem cnwF_any (A : Option Addr) (n c B : Nat) (p : List Int) (g : Nat → Bool) (w : World) (h : Arg w B A n c p) (hf : isP p = true → Fits w 58 #[] p g) :
    Calls Try.prog 57 #[.slice A n c, .func (.func 58) #[] #[]] w (GivesN w (cnR g p)) := by
  obtain ⟨b, hb⟩ : ∃ b, isP p = b := ⟨_, rfl⟩
  have H1 := hide (iisperm_any A n c B p b hb w h.reads h.under h.le h.small)
  cases b with
  | false =>
    rw [cnR_no hb]
    clear hb h hf
    go_enter Try.func57, Try.ntmps57
    go_wp2_with fail
    refine (unhide H1).mono ?_
    rintro e w1 ⟨rfl, hb⟩
    clear H1
    go_wp2
    go_ret
    exact ⟨rfl, hb⟩
  | true =>
    have H2 := hide (show ∀ w1, Below w.heap.size w w1 → _ from fun w1 d1 => plwF_any A n c B p g w1 (h.below d1) (fun hp => (hf hp).later d1))
    have HR := hide (show cnR g p = ((plR g p).length : Nat) by rw [cnR_yes hb, plR_yes hb])
    have hle := plR_le g p
    clear hb h hf
    go_enter Try.func57, Try.ntmps57
    go_wp2_with fail
    refine (unhide H1).mono ?_
    rintro e w1 ⟨rfl, d1⟩
    have H3 := hide (unhide H2 w1 d1)
    clear H1 H2
    go_wp2_with fail
    refine (unhide H3).mono ?_
    rintro e w2 ⟨A2, c2, rfl, o2, d2⟩
    have hb := below_after d1 d2
    clear H3 o2 d1 d2
    go_wp2
    go_ret
    exact ⟨ret_int (unhide HR).symm, hb⟩
set_option maxHeartbeats 800000 in
theorem plwU_any (A : Option Addr) (n c B : Nat) (p : List Int) (g : Nat → Bool) (w : World) (h : Arg w B A n c p) (hf : isP p = true → Fits w 59 #[] p g) :
    Calls Try.prog 53 #[.slice A n c, .func (.func 59) #[] #[]] w (GivesI w (plR g p)) := by
  obtain ⟨i0, hi, hz0, hz1, hz2⟩ := info_parts intInfo
  have hl := h.len
  obtain ⟨b, hb⟩ : ∃ b, isP p = b := ⟨_, rfl⟩
  have H1 := hide (iisperm_any A n c B p b hb w h.reads h.under h.le h.small)
  cases b with
  | false =>
    rw [plR_no hb]
    clear hb h hl hf
    go_enter Try.func53, Try.ntmps53
    go_wp2_with fail
    refine (unhide H1).mono ?_
    rintro e w1 ⟨rfl, hb⟩
    clear H1
    go_wp2
    go_ret
    exact GivesI.mk (v := .slice none 0 0) (Ints.nil _ _) hb
  | true =>
    have hn8 : n ≤ 8 := by have := isP_le hb; omega
    rw [plR_yes hb, hl]
    have HA := hide h
    have HF := hide (hf hb)
    clear hb h hl hf
    go_enter Try.func53, Try.ntmps53
    go_wp2_with fail
    refine (unhide H1).mono ?_
    rintro e w1 ⟨rfl, hb1⟩
    clear H1
    have hst := ownNone w1 w.heap.size 3
    go_wp2
    go_loopw [5, 13] (fun o i wr => ∃ k : Nat, k ≤ n ∧ i = .int .i64 (k : Int) ∧ Below w.heap.size w wr ∧ wr.ownsRow w.heap.size 3 1 o (plK g k).length (i64s (plK g k))) (fun _ i _ => n - (intOf i).toNat)
    case atStart => exact ⟨0, Nat.zero_le _, rfl, hb1, hst⟩
    case round =>
      obtain ⟨k, hk, rfl, hb, hown⟩ := hrel
      clear hst hb1
      have hle := plK_le g k
      by_cases hlt : k < n
      · obtain ⟨ad, u, rfl, _, hu, hc⟩ := ((unhide HA).reads.more (unhide HA).under |>.below hb).at_ hlt
        obtain ⟨x, hx, rfl⟩ := i64_at hu
        have H2 := hide (show Calls Try.prog 59 #[.int .i64 ((k : Int) + 1), .int .i64 x] wr _ from unhide HF k x wr hx hb)
        obtain ⟨b2, hb2⟩ : ∃ b2, g k = b2 := ⟨_, rfl⟩
        rw [hb2] at H2
        clear hu hx
        go_wp2_with fail
        refine (unhide H2).mono ?_
        rintro e w2 ⟨rfl, d2⟩
        have hb3 := below_after hb d2
        have hown3 := own_below hown d2
        clear H2 hb d2 hown hc
        cases b2 with
        | true =>
          have e : i64s (plK g k) ++ [.int .i64 ((k : Int) + 1)] = i64s (plK g (k + 1)) := by rw [plK_yes hb2]; unfold i64s; simp
          have hln := plK_len_yes hb2
          have HE := hide (⟨e, hln⟩ : _ ∧ _)
          clear e hln hb2
          go_wp2_with (first
            | (at_builtin; refine wpList_append_one rfl (.tmp 23) (.tmp 26) 24 rfl w.heap.size 3 i0 (.int .i64 0) 8 Try.underlying24 hi hz0 hz1 hz2 rfl w w2 _ _ _ rfl hown3 (.int .i64 ((k : Int) + 1)) rfl rfl rfl (by omega) (by simp only [maxLen]; omega) hb3 hb3.size ?_; intro v2 w3 hown4 hb4 hg4; clear hg4))
          rw [(unhide HE).1, ← (unhide HE).2] at hown4
          clear hown3 hb3 HE
          go_roundw
          case rel => exact ⟨k + 1, by omega, by go_num, hb4, hown4⟩
          case measure => simp [intOf]; omega
        | false =>
          rw [← plK_no hb2] at hown3
          clear hb2
          go_wp2
          go_roundw
          case rel => exact ⟨k + 1, by omega, by go_num, hb3, hown3⟩
          case measure => simp [intOf]; omega
      · obtain rfl : n = k := by omega
        have hI : Ints wr w.heap.size u5 (plK g n) := Ints.of_own hown
        clear hown
        go_wp2
        go_ret
        exact GivesI.mk hI hb
set_option maxHeartbeats 800000 in
theorem cnwU_any (A : Option Addr) (n c B : Nat) (p : List Int) (g : Nat → Bool) (w : World) (h : Arg w B A n c p) (hf : isP p = true → Fits w 59 #[] p g) :
    Calls Try.prog 57 #[.slice A n c, .func (.func 59) #[] #[]] w (GivesN w (cnR g p)) := by
  obtain ⟨b, hb⟩ : ∃ b, isP p = b := ⟨_, rfl⟩
  have H1 := hide (iisperm_any A n c B p b hb w h.reads h.under h.le h.small)
  cases b with
  | false =>
    rw [cnR_no hb]
    clear hb h hf
    go_enter Try.func57, Try.ntmps57
    go_wp2_with fail
    refine (unhide H1).mono ?_
    rintro e w1 ⟨rfl, hb⟩
    clear H1
    go_wp2
    go_ret
    exact ⟨rfl, hb⟩
  | true =>
    have H2 := hide (show ∀ w1, Below w.heap.size w w1 → _ from fun w1 d1 => plwU_any A n c B p g w1 (h.below d1) (fun hp => (hf hp).later d1))
    have HR := hide (show cnR g p = ((plR g p).length : Nat) by rw [cnR_yes hb, plR_yes hb])
    have hle := plR_le g p
    clear hb h hf
    go_enter Try.func57, Try.ntmps57
    go_wp2_with fail
    refine (unhide H1).mono ?_
    rintro e w1 ⟨rfl, d1⟩
    have H3 := hide (unhide H2 w1 d1)
    clear H1 H2
    go_wp2_with fail
    refine (unhide H3).mono ?_
    rintro e w2 ⟨A2, c2, rfl, o2, d2⟩
    have hb := below_after d1 d2
    clear H3 o2 d1 d2
    go_wp2
    go_ret
    exact ⟨ret_int (unhide HR).symm, hb⟩
set_option maxHeartbeats 800000 in
theorem plwC_any (bx : Nat) (A : Option Addr) (n c B : Nat) (p : List Int) (g : Nat → Bool) (w : World) (h : Arg w B A n c p) (hf : isP p = true → Fits w 61 #[.pointer (some ⟨bx, 0, none⟩)] p g) :
    Calls Try.prog 53 #[.slice A n c, .func (.func 61) #[] #[.pointer (some ⟨bx, 0, none⟩)]] w (GivesI w (plR g p)) := by
  obtain ⟨i0, hi, hz0, hz1, hz2⟩ := info_parts intInfo
  have hl := h.len
  obtain ⟨b, hb⟩ : ∃ b, isP p = b := ⟨_, rfl⟩
  have H1 := hide (iisperm_any A n c B p b hb w h.reads h.under h.le h.small)
  cases b with
  | false =>
    rw [plR_no hb]
    clear hb h hl hf
    go_enter Try.func53, Try.ntmps53
    go_wp2_with fail
    refine (unhide H1).mono ?_
    rintro e w1 ⟨rfl, hb⟩
    clear H1
    go_wp2
    go_ret
    exact GivesI.mk (v := .slice none 0 0) (Ints.nil _ _) hb
  | true =>
    have hn8 : n ≤ 8 := by have := isP_le hb; omega
    rw [plR_yes hb, hl]
    have HA := hide h
    have HF := hide (hf hb)
    clear hb h hl hf
    go_enter Try.func53, Try.ntmps53
    go_wp2_with fail
    refine (unhide H1).mono ?_
    rintro e w1 ⟨rfl, hb1⟩
    clear H1
    have hst := ownNone w1 w.heap.size 3
    go_wp2
    go_loopw [5, 13] (fun o i wr => ∃ k : Nat, k ≤ n ∧ i = .int .i64 (k : Int) ∧ Below w.heap.size w wr ∧ wr.ownsRow w.heap.size 3 1 o (plK g k).length (i64s (plK g k))) (fun _ i _ => n - (intOf i).toNat)
    case atStart => exact ⟨0, Nat.zero_le _, rfl, hb1, hst⟩
    case round =>
      obtain ⟨k, hk, rfl, hb, hown⟩ := hrel
      clear hst hb1
      have hle := plK_le g k
      by_cases hlt : k < n
      · obtain ⟨ad, u, rfl, _, hu, hc⟩ := ((unhide HA).reads.more (unhide HA).under |>.below hb).at_ hlt
        obtain ⟨x, hx, rfl⟩ := i64_at hu
        have H2 := hide (show Calls Try.prog 61 #[.int .i64 ((k : Int) + 1), .int .i64 x, .pointer (some ⟨bx, 0, none⟩)] wr _ from unhide HF k x wr hx hb)
        obtain ⟨b2, hb2⟩ : ∃ b2, g k = b2 := ⟨_, rfl⟩
        rw [hb2] at H2
        clear hu hx
        go_wp2_with fail
        refine (unhide H2).mono ?_
        rintro e w2 ⟨rfl, d2⟩
        have hb3 := below_after hb d2
        have hown3 := own_below hown d2
        clear H2 hb d2 hown hc
        cases b2 with
        | true =>
          have e : i64s (plK g k) ++ [.int .i64 ((k : Int) + 1)] = i64s (plK g (k + 1)) := by rw [plK_yes hb2]; unfold i64s; simp
          have hln := plK_len_yes hb2
          have HE := hide (⟨e, hln⟩ : _ ∧ _)
          clear e hln hb2
          go_wp2_with (first
            | (at_builtin; refine wpList_append_one rfl (.tmp 23) (.tmp 26) 24 rfl w.heap.size 3 i0 (.int .i64 0) 8 Try.underlying24 hi hz0 hz1 hz2 rfl w w2 _ _ _ rfl hown3 (.int .i64 ((k : Int) + 1)) rfl rfl rfl (by omega) (by simp only [maxLen]; omega) hb3 hb3.size ?_; intro v2 w3 hown4 hb4 hg4; clear hg4))
          rw [(unhide HE).1, ← (unhide HE).2] at hown4
          clear hown3 hb3 HE
          go_roundw
          case rel => exact ⟨k + 1, by omega, by go_num, hb4, hown4⟩
          case measure => simp [intOf]; omega
        | false =>
          rw [← plK_no hb2] at hown3
          clear hb2
          go_wp2
          go_roundw
          case rel => exact ⟨k + 1, by omega, by go_num, hb3, hown3⟩
          case measure => simp [intOf]; omega
      · obtain rfl : n = k := by omega
        have hI : Ints wr w.heap.size u5 (plK g n) := Ints.of_own hown
        clear hown
        go_wp2
        go_ret
        exact GivesI.mk hI hb
set_option maxHeartbeats 800000 in
theorem cnwC_any (bx : Nat) (A : Option Addr) (n c B : Nat) (p : List Int) (g : Nat → Bool) (w : World) (h : Arg w B A n c p) (hf : isP p = true → Fits w 61 #[.pointer (some ⟨bx, 0, none⟩)] p g) :
    Calls Try.prog 57 #[.slice A n c, .func (.func 61) #[] #[.pointer (some ⟨bx, 0, none⟩)]] w (GivesN w (cnR g p)) := by
  obtain ⟨b, hb⟩ : ∃ b, isP p = b := ⟨_, rfl⟩
  have H1 := hide (iisperm_any A n c B p b hb w h.reads h.under h.le h.small)
  cases b with
  | false =>
    rw [cnR_no hb]
    clear hb h hf
    go_enter Try.func57, Try.ntmps57
    go_wp2_with fail
    refine (unhide H1).mono ?_
    rintro e w1 ⟨rfl, hb⟩
    clear H1
    go_wp2
    go_ret
    exact ⟨rfl, hb⟩
  | true =>
    have H2 := hide (show ∀ w1, Below w.heap.size w w1 → _ from fun w1 d1 => plwC_any bx A n c B p g w1 (h.below d1) (fun hp => (hf hp).later d1))
    have HR := hide (show cnR g p = ((plR g p).length : Nat) by rw [cnR_yes hb, plR_yes hb])
    have hle := plR_le g p
    clear hb h hf
    go_enter Try.func57, Try.ntmps57
    go_wp2_with fail
    refine (unhide H1).mono ?_
    rintro e w1 ⟨rfl, d1⟩
    have H3 := hide (unhide H2 w1 d1)
    clear H1 H2
    go_wp2_with fail
    refine (unhide H3).mono ?_
    rintro e w2 ⟨A2, c2, rfl, o2, d2⟩
    have hb := below_after d1 d2
    clear H3 o2 d1 d2
    go_wp2
    go_ret
    exact ⟨ret_int (unhide HR).symm, hb⟩
end Go.Proofs.Ytcnmnpbipencmaa


/-
  impl's side of chapter 11 (descents, records, lows, fixed places, rises, inversions, major index), by their contracts.
-/

namespace Go.Proofs.Ytcnmnpbipencmaa
set_option maxRecDepth 100000
open Go.RowKit

theorem Arg.fore {w : World} {B n c k : Nat} {A : Option Addr} {zs : List Int} (h : Arg w B A n c zs) (hk : k ≤ n) : Arg w B A k c (zs.take k) :=
  ⟨h.reads.pre hk, h.under, Nat.le_trans hk h.le, Nat.le_trans hk h.cap, fun z hz => h.small z (List.mem_of_mem_take hz), h.nil⟩
set_option maxHeartbeats 400000 in
theorem fitD_any (A : Option Addr) (n c B bx : Nat) (p : List Int) (w : World) (h : Arg w B A n c p) (hp : isP p = true) (hx : Whole w bx 24 #[.slice A n c]) : Fits w 54 #[.pointer (some ⟨bx, 0, none⟩)] p (gD p) := by
  intro k v w' hv hb
  have hl := h.len
  have hn8 : n ≤ 8 := by have := isP_le hp; omega
  have hcell : w'.cell? ⟨bx, 0, none⟩ = some (.slice A n c) := (hx.below hb hx.lt).cell 0
  have hkn := (List.getElem?_eq_some_iff.1 hv).1
  show Calls Try.prog 54 #[.int .i64 ((k : Int) + 1), .int .i64 v, .pointer (some ⟨bx, 0, none⟩)] w' _
  by_cases hlt : k + 1 < n
  · obtain ⟨ad, u, rfl, _, hu, hc⟩ := (h.below hb).reads.at_ hlt
    obtain ⟨y, hy, rfl⟩ := i64_at hu
    have hadd : ad.add (k + 1) = ⟨ad.block, ad.off + (k + 1), none⟩ := by unfold Addr.add; rw [if_neg (by omega)]
    rw [hadd] at hc
    have HG := hide (gD_at hv hy)
    have hbd0 : (0 : Int) ≤ (k : Int) + 1 := by omega
    have hbd1 : (k : Int) + 1 < (n : Int) := by omega
    clear h hl hv hu hy hadd hx hp
    go_enter Try.func54, Try.ntmps54
    go_wp2
    go_ret
    exact ⟨ret_bool (unhide HG).symm, Below.refl _ _⟩
  · have HG := hide (show gD p k = false by unfold gD; rw [decide_eq_false (by omega)]; rfl)
    have hbd1 : ¬ ((k : Int) + 1 < (n : Int)) := by omega
    clear h hl hv hx hp
    go_enter Try.func54, Try.ntmps54
    go_wp2
    go_ret
    exact ⟨ret_bool (unhide HG).symm, Below.refl _ _⟩
theorem idesc_any (A : Option Addr) (n c B : Nat) (p : List Int) (w : World) (h : Arg w B A n c p) :
    Calls Try.prog 25 #[.slice A n c] w (GivesI w (plR (gD p) p)) := by
  have hb0 : Below w.heap.size w (w.alloc (.cells #[.slice A n c] 24)) := (Below.refl _ w).alloc (Nat.le_refl _) _
  have hc0 := Whole.new w 24 #[.slice A n c]
  have H1 := hide (plwD_any w.heap.size A n c B p (gD p) _ (h.below hb0) (fun hp => fitD_any A n c B _ p _ (h.below hb0) hp hc0))
  clear h hc0
  go_enter Try.func25, Try.ntmps25
  go_wp2_with fail
  refine (unhide H1).mono ?_
  rintro e w1 ⟨A1, c1, rfl, o1, d1⟩
  have o2 := o1.low hb0.size
  have hb := below_after hb0 d1
  clear H1 d1 hb0 o1
  go_wp2
  go_ret
  exact GivesI.mk o2 hb
set_option maxHeartbeats 400000 in
theorem fitR_any (A : Option Addr) (n c B bx : Nat) (p : List Int) (w : World) (h : Arg w B A n c p) (hp : isP p = true) (hx : Whole w bx 24 #[.slice A n c]) : Fits w 55 #[.pointer (some ⟨bx, 0, none⟩)] p (gR p) := by
  intro k v w' hv hb
  have hl := h.len
  have hcp := h.cap
  have hn8 : n ≤ 8 := by have := isP_le hp; omega
  have hcell : w'.cell? ⟨bx, 0, none⟩ = some (.slice A n c) := (hx.below hb hx.lt).cell 0
  have hkn := (List.getElem?_eq_some_iff.1 hv).1
  show Calls Try.prog 55 #[.int .i64 ((k : Int) + 1), .int .i64 v, .pointer (some ⟨bx, 0, none⟩)] w' _
  have H1 := hide (less_any A (k + 1) c B (p.take (k + 1)) v w' ((h.below hb).fore (by omega)))
  have hle := cnt_le (p.take (k + 1)) v
  rw [List.length_take] at hle
  have HG := hide (show gR p k = decide ((cnt (p.take (k + 1)) v : Int) = (k : Int)) by unfold gR; rw [at0_of hv, decide_eq_decide]; omega)
  obtain ⟨m, hm⟩ : ∃ m, m = cnt (p.take (k + 1)) v := ⟨_, rfl⟩
  rw [← hm] at H1 hle HG
  have q0 : ((k + 1 : Nat) : Int) = (k : Int) + 1 := by omega
  have q1 : IntKind.i64.wrap ((k : Int) + 1 - 1) = (k : Int) := by rw [IntKind.wrap_i64]; omega
  have q2 : IntKind.i64.wrap (k : Int) = (k : Int) := by rw [IntKind.wrap_i64]; omega
  have hbd0 : (0 : Int) ≤ (k : Int) + 1 := by omega
  have hbd1 : (k : Int) + 1 ≤ (c : Int) := by omega
  clear h hl hv hx hp hm
  go_enter Try.func55, Try.ntmps55
  go_wp2_with fail
  refine (unhide H1).mono ?_
  rintro e w1 ⟨rfl, rfl⟩
  clear H1
  go_wp2
  go_ret
  exact ⟨ret_bool ((beq_dec _ _).trans (unhide HG).symm), Below.refl _ _⟩
theorem irec_any (A : Option Addr) (n c B : Nat) (p : List Int) (w : World) (h : Arg w B A n c p) :
    Calls Try.prog 27 #[.slice A n c] w (GivesI w (plR (gR p) p)) := by
  have hb0 : Below w.heap.size w (w.alloc (.cells #[.slice A n c] 24)) := (Below.refl _ w).alloc (Nat.le_refl _) _
  have hc0 := Whole.new w 24 #[.slice A n c]
  have H1 := hide (plwR_any w.heap.size A n c B p (gR p) _ (h.below hb0) (fun hp => fitR_any A n c B _ p _ (h.below hb0) hp hc0))
  clear h hc0
  go_enter Try.func27, Try.ntmps27
  go_wp2_with fail
  refine (unhide H1).mono ?_
  rintro e w1 ⟨A1, c1, rfl, o1, d1⟩
  have o2 := o1.low hb0.size
  have hb := below_after hb0 d1
  clear H1 d1 hb0 o1
  go_wp2
  go_ret
  exact GivesI.mk o2 hb
set_option maxHeartbeats 400000 in
theorem fitL_any (A : Option Addr) (n c B bx : Nat) (p : List Int) (w : World) (h : Arg w B A n c p) (hp : isP p = true) (hx : Whole w bx 24 #[.slice A n c]) : Fits w 56 #[.pointer (some ⟨bx, 0, none⟩)] p (gL p) := by
  intro k v w' hv hb
  have hl := h.len
  have hcp := h.cap
  have hn8 : n ≤ 8 := by have := isP_le hp; omega
  have hcell : w'.cell? ⟨bx, 0, none⟩ = some (.slice A n c) := (hx.below hb hx.lt).cell 0
  have hkn := (List.getElem?_eq_some_iff.1 hv).1
  show Calls Try.prog 56 #[.int .i64 ((k : Int) + 1), .int .i64 v, .pointer (some ⟨bx, 0, none⟩)] w' _
  have H1 := hide (less_any A (k + 1) c B (p.take (k + 1)) v w' ((h.below hb).fore (by omega)))
  have hle := cnt_le (p.take (k + 1)) v
  rw [List.length_take] at hle
  have HG := hide (show gL p k = decide ((cnt (p.take (k + 1)) v : Int) = 0) by unfold gL; rw [at0_of hv, decide_eq_decide]; omega)
  obtain ⟨m, hm⟩ : ∃ m, m = cnt (p.take (k + 1)) v := ⟨_, rfl⟩
  rw [← hm] at H1 hle HG
  have q0 : ((k + 1 : Nat) : Int) = (k : Int) + 1 := by omega
  have hbd0 : (0 : Int) ≤ (k : Int) + 1 := by omega
  have hbd1 : (k : Int) + 1 ≤ (c : Int) := by omega
  clear h hl hv hx hp hm
  go_enter Try.func56, Try.ntmps56
  go_wp2_with fail
  refine (unhide H1).mono ?_
  rintro e w1 ⟨rfl, rfl⟩
  clear H1
  go_wp2
  go_ret
  exact ⟨ret_bool ((beq_dec _ _).trans (unhide HG).symm), Below.refl _ _⟩
theorem ilow_any (A : Option Addr) (n c B : Nat) (p : List Int) (w : World) (h : Arg w B A n c p) :
    Calls Try.prog 29 #[.slice A n c] w (GivesI w (plR (gL p) p)) := by
  have hb0 : Below w.heap.size w (w.alloc (.cells #[.slice A n c] 24)) := (Below.refl _ w).alloc (Nat.le_refl _) _
  have hc0 := Whole.new w 24 #[.slice A n c]
  have H1 := hide (plwL_any w.heap.size A n c B p (gL p) _ (h.below hb0) (fun hp => fitL_any A n c B _ p _ (h.below hb0) hp hc0))
  clear h hc0
  go_enter Try.func29, Try.ntmps29
  go_wp2_with fail
  refine (unhide H1).mono ?_
  rintro e w1 ⟨A1, c1, rfl, o1, d1⟩
  have o2 := o1.low hb0.size
  have hb := below_after hb0 d1
  clear H1 d1 hb0 o1
  go_wp2
  go_ret
  exact GivesI.mk o2 hb
theorem fitF_any (p : List Int) (w : World) : Fits w 58 #[] p (gF p) := by
  intro k v w' hv hb
  show Calls Try.prog 58 #[.int .i64 ((k : Int) + 1), .int .i64 v] w' _
  have HG := hide (show gF p k = decide (v = (k : Int) + 1) by unfold gF; rw [at0_of hv])
  clear hv
  go_enter Try.func58, Try.ntmps58
  go_wp2
  go_ret
  exact ⟨ret_bool ((beq_dec _ _).trans (unhide HG).symm), Below.refl _ _⟩
theorem ifix_any (A : Option Addr) (n c B : Nat) (p : List Int) (w : World) (h : Arg w B A n c p) :
    Calls Try.prog 31 #[.slice A n c] w (GivesN w (cnR (gF p) p)) := by
  have H1 := hide (cnwF_any A n c B p (gF p) w h (fun _ => fitF_any p w))
  clear h
  go_enter Try.func31, Try.ntmps31
  go_wp2_with fail
  refine (unhide H1).mono ?_
  rintro e w1 ⟨rfl, hb⟩
  clear H1
  go_wp2
  go_ret
  exact ⟨rfl, hb⟩
theorem fitU_any (p : List Int) (w : World) : Fits w 59 #[] p (gU p) := by
  intro k v w' hv hb
  show Calls Try.prog 59 #[.int .i64 ((k : Int) + 1), .int .i64 v] w' _
  have HG := hide (show gU p k = decide ((k : Int) + 1 < v) by unfold gU; rw [at0_of hv])
  clear hv
  go_enter Try.func59, Try.ntmps59
  go_wp2
  go_ret
  exact ⟨ret_bool (unhide HG).symm, Below.refl _ _⟩
theorem irise_any (A : Option Addr) (n c B : Nat) (p : List Int) (w : World) (h : Arg w B A n c p) :
    Calls Try.prog 33 #[.slice A n c] w (GivesN w (cnR (gU p) p)) := by
  have H1 := hide (cnwU_any A n c B p (gU p) w h (fun _ => fitU_any p w))
  clear h
  go_enter Try.func33, Try.ntmps33
  go_wp2_with fail
  refine (unhide H1).mono ?_
  rintro e w1 ⟨rfl, hb⟩
  clear H1
  go_wp2
  go_ret
  exact ⟨rfl, hb⟩
set_option maxHeartbeats 800000 in
theorem iinvs_any (A : Option Addr) (n c B : Nat) (p : List Int) (w : World) (h : Arg w B A n c p) :
    Calls Try.prog 20 #[.slice A n c] w (GivesN w (invsR p)) := by
  have hl := h.len
  have hcp := h.cap
  obtain ⟨b, hb⟩ : ∃ b, isP p = b := ⟨_, rfl⟩
  have H1 := hide (iisperm_any A n c B p b hb w h.reads h.under h.le h.small)
  cases b with
  | false =>
    rw [invsR_no hb]
    clear hb h hl hcp
    go_enter Try.func20, Try.ntmps20
    go_wp2_with fail
    refine (unhide H1).mono ?_
    rintro e w1 ⟨rfl, hb⟩
    clear H1
    go_wp2
    go_ret
    exact ⟨rfl, hb⟩
  | true =>
    have hn8 : n ≤ 8 := by have := isP_le hb; omega
    rw [invsR_yes hb, hl]
    have HA := hide h
    have HP := hide hb
    clear hb h hl
    go_enter Try.func20, Try.ntmps20
    go_wp2_with fail
    refine (unhide H1).mono ?_
    rintro e w1 ⟨rfl, hb1⟩
    clear H1
    go_wp2
    go_loopw [3, 11] (fun s i wr => ∃ k : Nat, k ≤ n ∧ i = .int .i64 (k : Int) ∧ s = .int .i64 ((invK p k : Nat) : Int) ∧ Below w.heap.size w wr) (fun _ i _ => n - (intOf i).toNat)
    case atStart => exact ⟨0, Nat.zero_le _, rfl, rfl, hb1⟩
    case round =>
      obtain ⟨k, hk, rfl, rfl, hb⟩ := hrel
      clear hb1
      have hle := invK_le p k (by omega)
      by_cases hlt : k < n
      · have hAr := (unhide HA).below hb
        obtain ⟨ad, u, rfl, _, hu, hc⟩ := hAr.reads.at_ hlt
        obtain ⟨x, hx, rfl⟩ := i64_at hu
        have H2 := hide (less_any (some ad) k c B (p.take k) x wr (hAr.fore (by omega)))
        have hst := invK_less (unhide HP) hx
        have hle2 := cnt_le (p.take k) x
        rw [List.length_take] at hle2
        obtain ⟨m, hm⟩ : ∃ m, m = cnt (p.take k) x := ⟨_, rfl⟩
        rw [← hm] at H2 hst hle2
        obtain ⟨s, hs⟩ : ∃ s, s = invK p k := ⟨_, rfl⟩
        rw [← hs] at hst hle ⊢
        have HST := hide hst
        have hmk : m ≤ k := by omega
        have hkc : (k : Int) ≤ (c : Int) := by omega
        clear hAr hu hx hm hs hst hle2
        go_wp2_with fail
        refine (unhide H2).mono ?_
        rintro e w2 ⟨rfl, rfl⟩
        clear H2
        go_wp2
        go_roundw
        case rel => exact ⟨k + 1, by omega, by go_num, by have := unhide HST; go_num, hb⟩
        case measure => simp [intOf]; omega
      · obtain rfl : n = k := by omega
        go_wp2
        go_ret
        exact ⟨rfl, hb⟩
set_option maxHeartbeats 800000 in
theorem imaj_any (A : Option Addr) (n c B : Nat) (p : List Int) (w : World) (h : Arg w B A n c p) :
    Calls Try.prog 22 #[.slice A n c] w (GivesN w (majR p)) := by
  have hl := h.len
  obtain ⟨b, hb⟩ : ∃ b, isP p = b := ⟨_, rfl⟩
  have H1 := hide (iisperm_any A n c B p b hb w h.reads h.under h.le h.small)
  cases b with
  | false =>
    rw [majR_no hb]
    clear hb h hl
    go_enter Try.func22, Try.ntmps22
    go_wp2_with fail
    refine (unhide H1).mono ?_
    rintro e w1 ⟨rfl, hb⟩
    clear H1
    go_wp2
    go_ret
    exact ⟨rfl, hb⟩
  | true =>
    have H2 := hide (show ∀ w1, Below w.heap.size w w1 → _ from fun w1 d1 => idesc_any A n c B p w1 (h.below d1))
    rw [majR_yes hb]
    have hle := plR_le (gD p) p
    have HR := hide (plR_range (gD p) p)
    obtain ⟨L, hL⟩ : ∃ L, L = plR (gD p) p := ⟨_, rfl⟩
    rw [← hL] at H2 hle HR ⊢
    obtain ⟨m, hm⟩ : ∃ m, m = L.length := ⟨_, rfl⟩
    rw [← hm] at hle ⊢
    have HM := hide hm
    clear hb h hl hL hm
    go_enter Try.func22, Try.ntmps22
    go_wp2_with fail
    refine (unhide H1).mono ?_
    rintro e w1 ⟨rfl, hb1⟩
    have H3 := hide (unhide H2 w1 hb1)
    clear H1 H2
    go_wp2_with fail
    refine (unhide H3).mono ?_
    rintro e w2 ⟨A2, c2, rfl, o2, d2⟩
    have hb2 := below_after hb1 d2
    rw [← unhide HM] at o2 ⊢
    have HO := hide o2.reads
    clear H3 hb1 d2 o2
    go_wp2
    go_loopw [3, 12] (fun s i wr => ∃ k : Nat, k ≤ m ∧ i = .int .i64 (k : Int) ∧ s = .int .i64 (sumK L k) ∧ w2 = wr) (fun _ i _ => m - (intOf i).toNat)
    case atStart => exact ⟨0, Nat.zero_le _, rfl, rfl, rfl⟩
    case round =>
      obtain ⟨k, hk, rfl, rfl, rfl⟩ := hrel
      have hle2 := sumK_le (unhide HR) k (by rw [← unhide HM]; exact hk)
      by_cases hlt : k < m
      · obtain ⟨ad, u, rfl, _, hu, hc⟩ := (unhide HO).at_ hlt
        obtain ⟨x, hx, rfl⟩ := i64_at hu
        have hxr := unhide HR x (List.mem_of_getElem? hx)
        have hst := hide (sumK_at hx)
        obtain ⟨s, hs⟩ : ∃ s, s = sumK L k := ⟨_, rfl⟩
        rw [← hs] at hst hle2 ⊢
        clear hu hx hs
        go_wp2
        go_roundw
        case rel => exact ⟨k + 1, by omega, by go_num, by rw [unhide hst], trivial⟩
        case measure => simp [intOf]; omega
      · obtain rfl : m = k := by omega
        go_wp2
        go_ret
        exact ⟨rfl, hb2⟩
end Go.Proofs.Ytcnmnpbipencmaa


/-
  THE LAST STEP OF A LAW: the walk's answer 'true' and 'nothing below the call's own blocks has turned' give the row's post. One lemma for all laws.
-/

namespace Go.Proofs.Ytcnmnpbipencmaa
set_option maxRecDepth 100000
open Go.ChangeShapes Go.WideShapes Go.ChangeAt Go.RowKit

theorem trodAll_below {H : Type} {enc : TypeId × Value → H} {P : Program} (hl : laidOutB P = true) {W W' : World} (hb : Below W.heap.size W W') :
    ∀ (ts : List TypeId) (vs : List Value) (ds : List (DataW H)) (ps : List MemPlace), (∀ t ∈ ts, P.readableRec t = true ∧ t < P.types.size) → (∀ x ∈ ps, x.block < W.heap.size) →
      DataW.TrodAll enc P W 0 (fun _ => true) true ts vs ds ps → DataW.TrodAll enc P W' 0 (fun b => decide (b < W.heap.size)) true ts vs ds ps
  | [], vs, ds, ps, _, _, h => by
    obtain ⟨rfl, rfl, rfl⟩ := trodAll_nil h
    exact trodAll_mk0
  | t :: ts, vs, ds, ps, ht, hp, h => by
    obtain ⟨v, vs1, d, ds1, a, b, rfl, rfl, rfl, h1, h2⟩ := trodAll_cons h
    exact ⟨a, b, Below.trod hl (ht t (by simp)).1 (ht t (by simp)).2 h1 hb (fun x hx => hp x (by simp [hx])),
      trodAll_below hl hb ts vs1 ds1 b (fun t' h' => ht t' (by simp [h'])) (fun x hx => hp x (by simp [hx])) h2, rfl⟩

theorem law_end {H : Type} {enc : TypeId × Value → H} {P : Program} {f : Func} {s : ChangeSpec} {W W' : World} {args : Array Value} {ds gs : List (DataW H)} {before : List MemPlace} {tb : TypeId}
    (hl : laidOutB P = true) (hts : ∀ t ∈ f.params.toList, P.readableRec t = true ∧ t < P.types.size) (hb4 : P.underlying tb = some .bool) (hrt : f.resultTypes = #[tb]) (hv : s.vars = [])
    (hW : DataW.Whole enc P f.params.toList s.vars false W args.toList ds gs before)
    (hfn : s.fn H (ds ++ gs) = { results := [.lit (.bool true)], args := ds }) (hbel : Below W.heap.size W W') :
    s.post enc P f false true false false W args (.bool true) W' := by
  have hlt : ∀ x ∈ before, x.block < W.heap.size := fun x hx => by simpa using hW.lt x hx
  have hW' := hW
  obtain ⟨p, q, hA, hV, rfl, _, _⟩ := hW
  rw [hv] at hV
  obtain ⟨rfl, rfl⟩ := trodVars_none hV
  have hargs := trodAll_below hl hbel _ _ _ _ hts (fun x hx => hlt x (by simp [hx])) hA
  refine ⟨ds, [], _, [] ++ [], p, [], hW', ?_, ?_, ?_, hbel.frame _, fun h => by cases h⟩
  · rw [hfn, hrt]; exact trodAll_mk1 (shut_bool hb4 _)
  · rw [hfn]; exact hargs
  · rw [hfn, hv]; rfl

theorem lt_of_row {W : World} {a : Addr} {m j : Nat} (hlt : ∀ x ∈ MemPlace.row a m, x.block < W.heap.size) (hj : j < m) : a.block < W.heap.size :=
  hlt (.cell a.block (a.off + j)) (MemPlace.mem_row.2 ⟨j, hj, rfl⟩)

/-- An argument []string, as 'Reads'. -/
theorem open_strs_reads {H : Type} {enc : TypeId × Value → H} {P : Program} {w : World} {r : Reach} {b0 t e : TypeId} {v : Value} {d : DataW H} {ps : List MemPlace} (ht : P.underlying t = some (.slice e)) (he : P.underlying e = some .string) (hc : P.cellsOf e = 1)
    (hval : Value.okWide P w r b0 t v) (h : DataW.Trod enc P w 0 (fun _ => true) true t v d ps) (hlt : ∀ x ∈ ps, x.block < w.heap.size) :
    ∃ (A : Option Addr) (n c : Nat) (ss : List ByteArray), v = .slice A n c ∧ Reads w w.heap.size A n (ss.map Value.string) ∧ n ≤ maxLen ∧ ∀ s ∈ ss, s.size ≤ maxLen := by
  obtain ⟨a0, len, cap, rfl⟩ := okWide_slice ht hval
  obtain ⟨fuel, hf⟩ := h
  rcases open_strings ht he hc hf with ⟨hcs, hx⟩ | ⟨a, len', cap', ss, hcs, _, hl, hm, hz, hx, hcell, hws⟩
  · simp [Value.cells] at hcs
    obtain ⟨rfl, rfl, rfl⟩ := hcs
    exact ⟨none, 0, 0, [], rfl, Reads.none_, Nat.zero_le _, by simp⟩
  · simp [Value.cells] at hcs
    obtain ⟨rfl, rfl, rfl⟩ := hcs
    simp only [Prod.mk.injEq] at hx
    obtain ⟨rfl, rfl⟩ := hx
    simp only [if_true] at hz
    refine ⟨some a, len, cap, ss.take len, rfl, ⟨by simp; omega, fun hn => ⟨a, rfl, lt_of_row (j := 0) hlt (by omega), fun j u hu => ?_⟩⟩, by omega, fun s hs => hws s (List.mem_of_mem_take hs)⟩
    rw [List.getElem?_map, List.getElem?_take] at hu
    by_cases hj : j < len
    · rw [if_pos hj] at hu
      rw [hcell j (by omega), ← hu, List.getD_eq_getElem?_getD]
      have : ss[j]? = some ss[j] := List.getElem?_eq_getElem (by omega)
      rw [this]; rfl
    · rw [if_neg hj] at hu; cases hu

/-- An argument of integers, as 'Reads'. -/
theorem open_ints_reads {H : Type} {enc : TypeId × Value → H} {P : Program} {w : World} {r : Reach} {b0 t e : TypeId} {ik : IntKind} {v : Value} {d : DataW H} {ps : List MemPlace} (ht : P.underlying t = some (.slice e)) (he : P.underlying e = some (.int ik)) (hc : P.cellsOf e = 1)
    (hval : Value.okWide P w r b0 t v) (h : DataW.Trod enc P w 0 (fun _ => true) true t v d ps) (hlt : ∀ x ∈ ps, x.block < w.heap.size) :
    ∃ (A : Option Addr) (n c : Nat) (zs : List Int), v = .slice A n c ∧ Reads w w.heap.size A n (zs.map (Value.int ik)) ∧ n ≤ maxLen ∧ ∀ z ∈ zs, (Lit.int ik z).wf = true := by
  obtain ⟨a0, len, cap, rfl⟩ := okWide_slice ht hval
  obtain ⟨fuel, hf⟩ := h
  rcases open_ints ht he hc hf with ⟨hcs, hx⟩ | ⟨a, len', cap', zs, hcs, _, hl, hm, hz, hx, hcell, hws⟩
  · simp [Value.cells] at hcs
    obtain ⟨rfl, rfl, rfl⟩ := hcs
    exact ⟨none, 0, 0, [], rfl, Reads.none_, Nat.zero_le _, by simp⟩
  · simp [Value.cells] at hcs
    obtain ⟨rfl, rfl, rfl⟩ := hcs
    simp only [Prod.mk.injEq] at hx
    obtain ⟨rfl, rfl⟩ := hx
    simp only [if_true] at hz
    refine ⟨some a, len, cap, zs.take len, rfl, ⟨by simp; omega, fun hn => ⟨a, rfl, lt_of_row (j := 0) hlt (by omega), fun j u hu => ?_⟩⟩, by omega, fun s hs => hws s (List.mem_of_mem_take hs)⟩
    rw [List.getElem?_map, List.getElem?_take] at hu
    by_cases hj : j < len
    · rw [if_pos hj] at hu
      rw [hcell j (by omega), ← hu, List.getD_eq_getElem?_getD]
      have : zs[j]? = some zs[j] := List.getElem?_eq_getElem (by omega)
      rw [this]; rfl
    · rw [if_neg hj] at hu; cases hu
theorem bytes_of_wf : ∀ (zs : List Int), (∀ z ∈ zs, (Lit.int .u8 z).wf = true) → ∃ bs : List UInt8, zs.map (Value.int .u8) = u8s bs
  | [], _ => ⟨[], rfl⟩
  | z :: r, h => by
    obtain ⟨bs, hb⟩ := bytes_of_wf r (fun y hy => h y (by simp [hy]))
    have hz : 0 ≤ z ∧ z ≤ 255 := by simpa [Lit.wf, IntKind.min, IntKind.max, IntKind.signed, IntKind.bits] using h z (by simp)
    refine ⟨UInt8.ofNat z.toNat :: bs, ?_⟩
    have e : ((UInt8.ofNat z.toNat).toNat : Int) = z := by rw [UInt8.toNat_ofNat']; omega
    simp only [u8s, List.map_cons, e]
    rw [hb]; rfl
theorem open_bytes_reads {H : Type} {enc : TypeId × Value → H} {P : Program} {w : World} {r : Reach} {b0 t e : TypeId} {v : Value} {d : DataW H} {ps : List MemPlace} (ht : P.underlying t = some (.slice e)) (he : P.underlying e = some (.int .u8)) (hc : P.cellsOf e = 1)
    (hval : Value.okWide P w r b0 t v) (h : DataW.Trod enc P w 0 (fun _ => true) true t v d ps) (hlt : ∀ x ∈ ps, x.block < w.heap.size) :
    ∃ (A : Option Addr) (n c : Nat) (bs : List UInt8), v = .slice A n c ∧ Reads w w.heap.size A n (u8s bs) ∧ n ≤ maxLen := by
  obtain ⟨A, n, c, zs, rfl, hr, hn, hw⟩ := open_ints_reads ht he hc hval h hlt
  obtain ⟨bs, hb⟩ := bytes_of_wf zs hw
  exact ⟨A, n, c, bs, rfl, by rw [← hb]; exact hr, hn⟩
theorem cellsByte : Try.prog.cellsOf 5 = 1 := by kernel_rfl

theorem laidOut : laidOutB Try.prog = true := by kernel_rfl
theorem own : ownKnob Try.prog.godebug = none := by kernel_rfl
end Go.Proofs.Ytcnmnpbipencmaa


/-
  PLAIN: the cycles of a permutation, told by their least places. Nothing here speaks of the program.
-/

namespace Go.Proofs.Ytcnmnpbipencmaa
set_option maxRecDepth 100000

/-- Where the number at place j points (places counted from 0). -/
def sg (p : List Int) (j : Nat) : Nat := (at0 p j).toNat - 1
theorem at0_map_range {f : Nat → Int} {m j : Nat} (h : j < m) : at0 ((List.range m).map f) j = f j := at0_of (by rw [List.getElem?_map, List.getElem?_range h]; rfl)
theorem at0_out {l : List Int} {j : Nat} (h : l.length ≤ j) : at0 l j = 0 := by unfold at0; rw [List.getD_eq_getElem?_getD, List.getElem?_eq_none h]; rfl
section
variable {p : List Int}
theorem sg_of {j : Nat} {v : Int} (h : p[j]? = some v) : sg p j = v.toNat - 1 := by unfold sg; rw [at0_of h]
theorem sg_lt (hp : isP p = true) {j : Nat} (hj : j < p.length) : sg p j < p.length := by
  have := isP_range hp (at0_some hj)
  unfold sg; omega
theorem sg_inj (hp : isP p = true) {i j : Nat} (hi : i < p.length) (hj : j < p.length) (h : sg p i = sg p j) : i = j := by
  have h1 := isP_range hp (at0_some hi)
  have h2 := isP_range hp (at0_some hj)
  have e : at0 p i = at0 p j := by unfold sg at h; omega
  have key : ∀ {a b : Nat}, a < b → b < p.length → at0 p a = at0 p b → False := fun {a b} hab hb he => by
    refine isP_fresh hp (at0_some hb) ?_
    rw [← he]
    have h3 : (p.take b)[a]? = some (at0 p a) := by rw [List.getElem?_take_of_lt hab]; exact at0_some (by omega)
    exact List.mem_of_getElem? h3
  rcases Nat.lt_trichotomy i j with hl | hl | hl
  · exact (key hl hj e).elim
  · exact hl
  · exact (key hl hi e.symm).elim
theorem pigeon_nat {l m : List Nat} (h : l.Nodup) (hs : ∀ x ∈ l, x ∈ m) : l.length ≤ m.length := by
  have h1 : (l.map fun x : Nat => (x : Int)).Nodup := by
    rw [List.nodup_iff_pairwise_ne, List.pairwise_map]
    exact (List.nodup_iff_pairwise_ne.1 h).imp fun hne e => hne (by omega)
  have h2 := pigeon_le (m := m.map fun x : Nat => (x : Int)) h1 (fun x hx => by
    obtain ⟨y, hy, rfl⟩ := List.mem_map.1 hx
    exact List.mem_map.2 ⟨y, hs y hy, rfl⟩)
  rwa [List.length_map, List.length_map] at h2
/-- What is closed forwards is closed backwards. -/
theorem sg_back (hp : isP p = true) {M : List Nat} (hM : M.Nodup) (hlt : ∀ x ∈ M, x < p.length) (hc : ∀ x ∈ M, sg p x ∈ M) {j : Nat} (hj : j < p.length) (h : sg p j ∈ M) : j ∈ M := by
  by_cases hin : j ∈ M
  · exact hin
  · have h1 : (M.map (sg p)).Nodup := by
      rw [List.nodup_iff_pairwise_ne, List.pairwise_map]
      have h0 := List.nodup_iff_pairwise_ne.1 hM
      refine List.Pairwise.imp_of_mem ?_ h0
      intro a b ha hb hne e
      exact hne (sg_inj hp (hlt a ha) (hlt b hb) e)
    have h2 : (sg p j :: M.map (sg p)).Nodup := by
      refine List.nodup_cons.2 ⟨fun hm => ?_, h1⟩
      obtain ⟨x, hx, he⟩ := List.mem_map.1 hm
      exact hin (by rw [← sg_inj hp (hlt x hx) hj he]; exact hx)
    have h3 := pigeon_nat h2 (m := M) (fun x hx => by
      rcases List.mem_cons.1 hx with rfl | hx
      · exact h
      · obtain ⟨y, hy, rfl⟩ := List.mem_map.1 hx
        exact hc y hy)
    rw [List.length_cons, List.length_map] at h3
    omega
end
/-- A number for each place, that lies in its cycle and is not greater than it. -/
structure Cyc1 (p L : List Int) : Prop where
  len : L.length = 8
  pos : ∀ j, j < p.length → 1 ≤ at0 L j
  le : ∀ j, j < p.length → at0 L j ≤ (j : Int) + 1
  out : ∀ j, p.length ≤ j → at0 L j = 0
  reach : ∀ j, j < p.length → ∀ P : Nat → Prop, (∀ i, i < p.length → P (sg p i) → P i) → P ((at0 L j).toNat - 1) → P j
structure Least (p L : List Int) : Prop extends Cyc1 p L where
  con : ∀ j, j < p.length → at0 L (sg p j) = at0 L j
theorem at0_asc {n j : Nat} (h : j < n) (h8 : n ≤ 8) : at0 (ascL n) j = (j : Int) + 1 := by unfold ascL; rw [at0_map_range (by omega), if_pos h]
theorem Cyc1.start {p : List Int} (hp : isP p = true) : Cyc1 p (ascL p.length) where
  len := ascL_length _
  pos := fun j hj => by rw [at0_asc hj (isP_le hp)]; omega
  le := fun j hj => by rw [at0_asc hj (isP_le hp)]; omega
  out := fun j hj => by
    by_cases h8 : j < 8
    · unfold ascL; rw [at0_map_range h8, if_neg (by omega)]
    · exact at0_out (by rw [ascL_length]; omega)
  reach := fun j hj P _ h => by rwa [at0_asc hj (isP_le hp), show ((j : Int) + 1).toNat - 1 = j by omega] at h
/-- One pass of impl's, its first k places. -/
def nxK (p L : List Int) (k : Nat) : List Int := (List.range 8).map fun j => if j < k then min (at0 L j) (at0 L (sg p j)) else at0 L j
theorem nxK_length (p L : List Int) (k : Nat) : (nxK p L k).length = 8 := by simp [nxK]
theorem nxK_zero {p L : List Int} (h : L.length = 8) : nxK p L 0 = L := by
  refine List.ext_getElem? fun i => ?_
  unfold nxK
  rw [List.getElem?_map]
  by_cases hi : i < 8
  · rw [List.getElem?_range hi, Option.map_some, if_neg (by omega), at0_some (by omega)]
  · rw [List.getElem?_eq_none (by simp; omega), List.getElem?_eq_none (by omega)]; rfl
theorem nxK_at {p L : List Int} {k j : Nat} (hj : j < 8) : at0 (nxK p L k) j = if j < k then min (at0 L j) (at0 L (sg p j)) else at0 L j := at0_map_range hj
theorem nxK_step {p L : List Int} {k : Nat} : (nxK p L k).set k (min (at0 L k) (at0 L (sg p k))) = nxK p L (k + 1) := by
  refine List.ext_getElem (by rw [List.length_set, nxK_length, nxK_length]) fun i h1 h2 => ?_
  simp only [nxK, List.getElem_set, List.getElem_map, List.getElem_range]
  by_cases hk : k = i
  · subst hk; simp
  · rw [if_neg hk]
    by_cases hi : i < k
    · rw [if_pos hi, if_pos (by omega)]
    · rw [if_neg hi, if_neg (by omega)]
theorem min_or (a b : Int) : min a b = a ∨ min a b = b := by omega
theorem Cyc1.step {p L : List Int} (hp : isP p = true) (h : Cyc1 p L) : Cyc1 p (nxK p L p.length) := by
  have h8 := isP_le hp
  refine ⟨nxK_length _ _ _, fun j hj => ?_, fun j hj => ?_, fun j hj => ?_, fun j hj P hP hj' => ?_⟩
  · rw [nxK_at (by omega), if_pos hj]
    have := h.pos j hj; have := h.pos _ (sg_lt hp hj); omega
  · rw [nxK_at (by omega), if_pos hj]
    have := h.le j hj; omega
  · by_cases hj8 : j < 8
    · rw [nxK_at hj8, if_neg (by omega)]; exact h.out j hj
    · exact at0_out (by rw [nxK_length]; omega)
  · rw [nxK_at (by omega), if_pos hj] at hj'
    rcases min_or (at0 L j) (at0 L (sg p j)) with e | e
    · rw [e] at hj'; exact h.reach j hj P hP hj'
    · rw [e] at hj'; exact hP j hj (h.reach _ (sg_lt hp hj) P hP hj')
theorem Cyc1.fix {p L : List Int} (hp : isP p = true) (h : Cyc1 p L) (he : nxK p L p.length = L) : Least p L := by
  have h8 := isP_le hp
  have hup : ∀ j, j < p.length → at0 L j ≤ at0 L (sg p j) := fun j hj => by
    have h1 : at0 (nxK p L p.length) j = at0 L j := by rw [he]
    rw [nxK_at (by omega), if_pos hj] at h1
    omega
  refine ⟨h, fun j hj => ?_⟩
  have h1 := sg_back hp (M := (List.range p.length).filter fun x => decide (at0 L (sg p j) ≤ at0 L x)) (List.nodup_range.filter _)
    (fun x hx => List.mem_range.1 (List.mem_filter.1 hx).1)
    (fun x hx => by
      obtain ⟨hx1, hx2⟩ := List.mem_filter.1 hx
      have hx3 := List.mem_range.1 hx1
      have hx4 := of_decide_eq_true hx2
      refine List.mem_filter.2 ⟨List.mem_range.2 (sg_lt hp hx3), decide_eq_true ?_⟩
      have := hup x hx3
      omega) hj (List.mem_filter.2 ⟨List.mem_range.2 (sg_lt hp hj), decide_eq_true (Int.le_refl _)⟩)
  have h2 := of_decide_eq_true (List.mem_filter.1 h1).2
  have := hup j hj
  omega
/-- The measure of the passes. -/
def msr (L : List Int) : Nat := ((List.range 8).map fun j => (at0 L j).toNat).sum
theorem sum_lt {f g : Nat → Nat} : ∀ (l : List Nat), (∀ j ∈ l, g j ≤ f j) → (l.map g).sum ≤ (l.map f).sum ∧ ((∃ j ∈ l, g j < f j) → (l.map g).sum < (l.map f).sum)
  | [], _ => ⟨Nat.le_refl _, fun ⟨_, h, _⟩ => by cases h⟩
  | a :: l, h => by
    have ih := sum_lt l (fun j hj => h j (by simp [hj]))
    have h1 := h a (by simp)
    simp only [List.map_cons, List.sum_cons]
    refine ⟨by have := ih.1; omega, ?_⟩
    rintro ⟨j, hj, hlt⟩
    rcases List.mem_cons.1 hj with rfl | hj
    · have := ih.1; omega
    · have := ih.2 ⟨j, hj, hlt⟩; omega
theorem Cyc1.less {p L : List Int} (hp : isP p = true) (h : Cyc1 p L) (hne : nxK p L p.length ≠ L) : msr (nxK p L p.length) < msr L := by
  have h8 := isP_le hp
  have h2 := h.step hp
  unfold msr
  refine (sum_lt (List.range 8) (fun j hj => ?_)).2 ?_
  · have hj := List.mem_range.1 hj
    rw [nxK_at hj]
    by_cases hl : j < p.length
    · rw [if_pos hl]; omega
    · rw [if_neg hl]; exact Nat.le_refl _
  · apply Classical.byContradiction
    intro hno
    refine hne (List.ext_getElem? fun i => ?_)
    by_cases hi : i < 8
    · rw [at0_some (l := nxK p L p.length) (by rw [nxK_length]; exact hi), at0_some (l := L) (by rw [h.len]; exact hi)]
      have hge : ¬ (at0 (nxK p L p.length) i).toNat < (at0 L i).toNat := fun hlt => hno ⟨i, List.mem_range.2 hi, hlt⟩
      by_cases hl : i < p.length
      · have h3 := h.pos i hl
        have h4 := h2.pos i hl
        have h5 : at0 (nxK p L p.length) i ≤ at0 L i := by rw [nxK_at hi, if_pos hl]; omega
        congr 1; omega
      · rw [nxK_at hi, if_neg hl]
    · rw [List.getElem?_eq_none (by rw [nxK_length]; omega), List.getElem?_eq_none (by rw [h.len]; omega)]
theorem least_ex {p : List Int} (hp : isP p = true) : ∃ L, Least p L := by
  have key : ∀ (m : Nat) (L : List Int), Cyc1 p L → msr L ≤ m → ∃ L, Least p L := by
    intro m
    induction m with
    | zero =>
      intro L h hm
      by_cases he : nxK p L p.length = L
      · exact ⟨L, h.fix hp he⟩
      · have := h.less hp he; omega
    | succ m ih =>
      intro L h hm
      by_cases he : nxK p L p.length = L
      · exact ⟨L, h.fix hp he⟩
      · exact ih _ (h.step hp) (by have := h.less hp he; omega)
  exact key _ _ (Cyc1.start hp) (Nat.le_refl _)
theorem Least.back {p L L' : List Int} (h : Least p L) (h' : Least p L') {j : Nat} (hj : j < p.length) : at0 L' j = at0 L' ((at0 L j).toNat - 1) :=
  h.reach j hj (fun x => at0 L' x = at0 L' ((at0 L j).toNat - 1)) (fun i hi he => (h'.con i hi).symm.trans he) rfl
theorem Least.most {p L L' : List Int} (h : Least p L) (h' : Least p L') {j : Nat} (hj : j < p.length) : at0 L' j ≤ at0 L j := by
  have h1 := h.back h' hj
  have h2 := h.pos j hj
  have h3 := h.le j hj
  have h4 := h'.le ((at0 L j).toNat - 1) (by omega)
  omega
theorem Least.uniq {p L L' : List Int} (h : Least p L) (h' : Least p L') : L = L' := by
  refine List.ext_getElem? fun i => ?_
  by_cases hi : i < 8
  · rw [at0_some (by rw [h.len]; exact hi), at0_some (by rw [h'.len]; exact hi)]
    by_cases hl : i < p.length
    · have := h.most h' hl
      have := h'.most h hl
      congr 1; omega
    · rw [h.out i (by omega), h'.out i (by omega)]
  · rw [List.getElem?_eq_none (by rw [h.len]; omega), List.getElem?_eq_none (by rw [h'.len]; omega)]
open Classical in
noncomputable def lstR (p : List Int) : List Int := if h : ∃ L, Least p L then Classical.choose h else []
theorem lstR_ok {p : List Int} (hp : isP p = true) : Least p (lstR p) := by
  have h := least_ex hp
  unfold lstR
  rw [dif_pos h]
  exact Classical.choose_spec h
theorem lstR_eq {p L : List Int} (hp : isP p = true) (h : Least p L) : L = lstR p := h.uniq (lstR_ok hp)
/-- A place that is the least of its cycle. -/
def gC (L : List Int) (j : Nat) : Bool := decide (at0 L j = (j : Int) + 1)
noncomputable def cycR (p : List Int) : Int := cnR (gC (lstR p)) p
theorem Least.self {p L : List Int} (h : Least p L) {j : Nat} (hj : j < p.length) : at0 L j = at0 L ((at0 L j).toNat - 1) := h.back h hj
/-- The given side's round at a place that is done. -/
theorem Least.skip {p L : List Int} (h : Least p L) {k : Nat} (hd : at0 L k ≤ (k : Int)) : gC L k = false ∧ ∀ j, j < p.length → decide (at0 L j ≤ (k : Int)) = decide (at0 L j ≤ (k : Int) + 1) := by
  refine ⟨by unfold gC; rw [decide_eq_false (by omega)], fun j hj => ?_⟩
  rw [decide_eq_decide]
  refine ⟨fun h1 => by omega, fun h1 => ?_⟩
  by_cases he : at0 L j = (k : Int) + 1
  · have h2 := h.self hj
    rw [he, show ((k : Int) + 1).toNat - 1 = k by omega] at h2
    omega
  · omega
theorem Least.new {p L : List Int} (h : Least p L) {k : Nat} (hk : k < p.length) (hd : ¬ at0 L k ≤ (k : Int)) : gC L k = true ∧ at0 L k = (k : Int) + 1 := by
  have := h.le k hk
  exact ⟨by unfold gC; rw [decide_eq_true (by omega)], by omega⟩
/-- The walk round a cycle: what it has marked, where it is. -/
structure Walk (p L : List Int) (k : Nat) (M : List Nat) (i : Nat) : Prop where
  nd : M.Nodup
  lt : ∀ x ∈ M, x < p.length ∧ at0 L x = (k : Int) + 1
  at_ : i < p.length ∧ at0 L i = (k : Int) + 1
  cl : ∀ x ∈ M, sg p x ∈ M ∨ sg p x = i
  st : k ∈ M ∨ (M = [] ∧ i = k)
def dn (L : List Int) (k : Nat) (M : List Nat) (j : Nat) : Bool := decide (at0 L j ≤ (k : Int)) || decide (j ∈ M)
theorem Walk.start {p L : List Int} {k : Nat} (hk : k < p.length) (h : at0 L k = (k : Int) + 1) : Walk p L k [] k := ⟨List.nodup_nil, by simp, ⟨hk, h⟩, by simp, .inr ⟨rfl, rfl⟩⟩
theorem Walk.len {p L : List Int} {k i : Nat} {M : List Nat} (h : Walk p L k M i) : M.length ≤ p.length := by
  have := pigeon_nat h.nd (m := List.range p.length) (fun x hx => List.mem_range.2 (h.lt x hx).1)
  rwa [List.length_range] at this
theorem Walk.here {p L : List Int} {k i : Nat} {M : List Nat} (h : Walk p L k M i) : dn L k M i = decide (i ∈ M) := by
  unfold dn
  rw [decide_eq_false (by have := h.at_.2; omega), Bool.false_or]
theorem Walk.next {p L : List Int} (hp : isP p = true) (hL : Least p L) {k i : Nat} {M : List Nat} (h : Walk p L k M i) (hi : i ∉ M) : Walk p L k (i :: M) (sg p i) where
  nd := List.nodup_cons.2 ⟨hi, h.nd⟩
  lt := fun x hx => by
    rcases List.mem_cons.1 hx with rfl | hx
    · exact h.at_
    · exact h.lt x hx
  at_ := ⟨sg_lt hp h.at_.1, by rw [hL.con i h.at_.1]; exact h.at_.2⟩
  cl := fun x hx => by
    rcases List.mem_cons.1 hx with rfl | hx
    · exact .inr rfl
    · rcases h.cl x hx with h1 | h1
      · exact .inl (List.mem_cons_of_mem _ h1)
      · exact .inl (by rw [h1]; simp)
  st := by
    rcases h.st with h1 | ⟨_, h1⟩
    · exact .inl (List.mem_cons_of_mem _ h1)
    · exact .inl (by rw [h1]; simp)
theorem Walk.end_ {p L : List Int} (hp : isP p = true) (hL : Least p L) {k i : Nat} {M : List Nat} (h : Walk p L k M i) (hi : i ∈ M) {j : Nat} (hj : j < p.length) : dn L k M j = decide (at0 L j ≤ (k : Int) + 1) := by
  unfold dn
  rw [Bool.eq_iff_iff]
  simp only [Bool.or_eq_true, decide_eq_true_eq]
  constructor
  · rintro (h1 | h1)
    · omega
    · have := (h.lt j h1).2; omega
  · intro h1
    by_cases h2 : at0 L j ≤ (k : Int)
    · exact .inl h2
    · refine .inr (hL.reach j hj (fun x => x ∈ M) (fun x hx hm => sg_back hp h.nd (fun y hy => (h.lt y hy).1) (fun y hy => ?_) hx hm) ?_)
      · rcases h.cl y hy with h3 | h3
        · exact h3
        · rw [h3]; exact hi
      · rw [show (at0 L j).toNat - 1 = k by omega]
        rcases h.st with h3 | ⟨h3, _⟩
        · exact h3
        · rw [h3] at hi; cases hi
end Go.Proofs.Ytcnmnpbipencmaa


/-
  spec.CountCycles by its contract.
-/

namespace Go.Proofs.Ytcnmnpbipencmaa
set_option maxRecDepth 100000
open Go.RowKit

theorem boolInfo : (Try.prog.info? 4).map (fun i => (i.zero, i.size, i.bytes)) = some (some (.bool false), 1, 1) := by kernel_rfl
/-- The marks as cells. -/
def dnC (n : Nat) (f : Nat → Bool) : List Value := (List.range n).map fun j => .bool (f j)
theorem dnC_length (n : Nat) (f : Nat → Bool) : (dnC n f).length = n := by simp [dnC]
theorem dnC_at {n : Nat} {f : Nat → Bool} {j : Nat} (h : j < n) : (dnC n f)[j]? = some (.bool (f j)) := by unfold dnC; rw [List.getElem?_map, List.getElem?_range h]; rfl
theorem dnC_congr {n : Nat} {f g : Nat → Bool} (h : ∀ j, j < n → f j = g j) : dnC n f = dnC n g := List.map_congr_left fun j hj => by rw [h j (List.mem_range.1 hj)]
theorem dnC_zero (n : Nat) : (madeCells (Value.bool false).cells (n * 1)).toList = dnC n fun _ => false := by
  rw [Nat.mul_one, show (madeCells (Value.bool false).cells n).toList = List.replicate n (Value.bool false) from toList_madeCells_one _ _]
  refine List.ext_getElem (by simp [dnC]) fun i h1 h2 => by simp [dnC]
theorem dnC_set {L : List Int} {n k i : Nat} {M : List Nat} : (dnC n (dn L k M)).set i (.bool true) = dnC n (dn L k (i :: M)) := by
  refine List.ext_getElem (by simp [dnC]) fun j h1 h2 => ?_
  simp only [dnC, List.getElem_set, List.getElem_map, List.getElem_range, dn, List.mem_cons]
  by_cases h : i = j
  · subst h; simp
  · have h' : ¬ j = i := fun e => h e.symm
    simp [h, h']
def bval : Option Value → Bool
  | some (.bool b) => b
  | _ => false
/-- How many are not marked. -/
def dnW (w : World) (G n : Nat) : Nat := ((List.range n).map fun j => if bval (w.cell? ⟨G, j, none⟩) then 0 else 1).sum
theorem dnW_of {w : World} {B G n : Nat} {f : Nat → Bool} (h : w.ownsRow B 4 1 (.slice (some ⟨G, 0, none⟩) n n) n (dnC n f)) : dnW w G n = ((List.range n).map fun j => if f j then 0 else 1).sum := by
  unfold dnW
  congr 1
  refine List.map_congr_left fun j hj => ?_
  have hj := List.mem_range.1 hj
  rw [h.cellAt j (by omega), dnC_at hj]
  rfl
theorem dnN_less {L : List Int} {n k i : Nat} {M : List Nat} (hi : i < n) (h : dn L k M i = false) : ((List.range n).map fun j => if dn L k (i :: M) j then 0 else 1).sum < ((List.range n).map fun j => if dn L k M j then 0 else 1).sum := by
  refine (sum_lt (List.range n) (fun j hj => ?_)).2 ⟨i, List.mem_range.2 hi, ?_⟩
  · by_cases hd : dn L k M j = true
    · rw [hd, show dn L k (i :: M) j = true by unfold dn at hd ⊢; simp only [Bool.or_eq_true, decide_eq_true_eq, List.mem_cons] at hd ⊢; rcases hd with h | h; exact .inl h; exact .inr (.inr h)]
      exact Nat.le_refl _
    · rw [Bool.eq_false_iff.2 hd]
      split <;> simp
  · rw [h, show dn L k (i :: M) i = true by unfold dn; simp]
    simp
theorem dn_nil (L : List Int) (k : Nat) : dn L k [] = fun j => decide (at0 L j ≤ (k : Int)) := by funext j; unfold dn; simp
set_option maxHeartbeats 800000 in
theorem scyc_any (A : Option Addr) (n c B : Nat) (p : List Int) (w : World) (h : Arg w B A n c p) :
    Calls Try.prog 36 #[.slice A n c] w (GivesN w (cycR p)) := by
  have hl := h.len
  obtain ⟨b, hb⟩ : ∃ b, isP p = b := ⟨_, rfl⟩
  have H1 := hide (sisperm_any A n c B p b hb w h.reads h.le h.cap)
  unfold cycR
  cases b with
  | false =>
    rw [cnR_no hb]
    clear hb h hl
    go_enter Try.func36, Try.ntmps36
    go_wp2_with fail
    refine (unhide H1).mono ?_
    rintro e w1 ⟨rfl, hd⟩
    clear H1
    go_wp2
    go_ret
    exact ⟨rfl, hd.below _⟩
  | true =>
    obtain ⟨i0, hi, hz0, hz1, hz2⟩ := info_parts boolInfo
    have hn8 : n ≤ 8 := by have := isP_le hb; omega
    have HL := hide (lstR_ok hb)
    rw [cnR_yes hb, hl]
    obtain ⟨L, hLe⟩ : ∃ L, L = lstR p := ⟨_, rfl⟩
    rw [← hLe] at HL ⊢
    have HA := hide h
    have HP := hide hb
    have HN := hide hl
    clear hb h hl hLe
    go_enter Try.func36, Try.ntmps36
    go_wp2_with fail
    refine (unhide H1).mono ?_
    rintro e w1 ⟨rfl, hd1⟩
    have hb1 := hd1.below w.heap.size
    clear H1 hd1
    go_wp2_with (first
      | (at_make; refine wpList_make_full _ rfl (.tmp 11) (.tmp 11) 50 rfl w.heap.size 4 i0 (.bool false) 1 Try.underlying50 hi hz0 hz1 _ _ _ _ n rfl rfl (by first | rfl | omega) (by first | rfl | omega) (by rw [hz2]; omega) (by unfold maxLen; omega) hb1.size ?_; intro w2 hown hg))
    have hb2 : Below w.heap.size w w2 := hb1.grown hg hb1.size (by simp)
    have hGw := hb1.size
    obtain ⟨G, hG⟩ : ∃ G, G = w1.heap.size := ⟨_, rfl⟩
    rw [← hG] at hown hGw ⊢
    rw [dnC_zero] at hown
    have hst : w2.ownsRow w.heap.size 4 1 (.slice (some ⟨G, 0, none⟩) n n) n (dnC n fun j => decide (at0 L j ≤ ((0 : Nat) : Int))) := by
      rw [dnC_congr (g := fun _ => false) (fun j hj => decide_eq_false (by have := (unhide HL).pos j (by rw [unhide HN]; exact hj); omega))]
      exact hown
    clear hg hG hb1 hown
    go_loopw [3, 5, 6] (fun s i _ wr => ∃ k : Nat, k ≤ n ∧ i = .int .i64 (k : Int) ∧ s = .int .i64 ((plK (gC L) k).length : Nat) ∧ Below w.heap.size w wr ∧ wr.ownsRow w.heap.size 4 1 (.slice (some ⟨G, 0, none⟩) n n) n (dnC n fun j => decide (at0 L j ≤ (k : Int)))) (fun _ i _ _ => n - (intOf i).toNat)
    case atStart => exact ⟨0, Nat.zero_le _, rfl, rfl, hb2, hst⟩
    case round =>
      obtain ⟨k, hk, rfl, rfl, hb, hown⟩ := hrel
      clear hst hb2
      have hle := plK_le (gC L) k
      by_cases hlt : k < n
      · have hkp : k < p.length := by rw [unhide HN]; exact hlt
        by_cases hdk : at0 L k ≤ (k : Int)
        · obtain ⟨hg1, hg2⟩ := (unhide HL).skip hdk
          have hck : wr.cell? ⟨G, k, none⟩ = some (.bool true) := by rw [hown.cellAt k (by omega), dnC_at hlt, decide_eq_true hdk]
          have HST := hide (plK_no hg1)
          have hown2 : wr.ownsRow w.heap.size 4 1 (.slice (some ⟨G, 0, none⟩) n n) n (dnC n fun j => decide (at0 L j ≤ ((k + 1 : Nat) : Int))) := by
            rw [dnC_congr (g := fun j => decide (at0 L j ≤ (k : Int))) (fun j hj => by rw [hg2 j (by rw [unhide HN]; exact hj), show ((k + 1 : Nat) : Int) = (k : Int) + 1 by omega])]
            exact hown
          clear hdk hg1 hg2 hown
          go_wp2
          go_roundw
          case rel => exact ⟨k + 1, by omega, by go_num, by rw [unhide HST], hb, hown2⟩
          case measure => simp [intOf]; omega
        · obtain ⟨hg1, hg2⟩ := (unhide HL).new hkp hdk
          have hck : wr.cell? ⟨G, k, none⟩ = some (.bool false) := by rw [hown.cellAt k (by omega), dnC_at hlt, decide_eq_false hdk]
          have HST := hide (plK_len_yes hg1)
          have HW := hide (Walk.start hkp hg2)
          have hown2 : wr.ownsRow w.heap.size 4 1 (.slice (some ⟨G, 0, none⟩) n n) n (dnC n (dn L k [])) := by rw [dn_nil]; exact hown
          obtain ⟨S, hS⟩ : ∃ S, S = (plK (gC L) k).length := ⟨_, rfl⟩
          rw [← hS] at hle HST ⊢
          obtain ⟨wo, rfl⟩ : ∃ wo : World, wo = wr := ⟨_, rfl⟩
          clear hdk hg1 hg2 hown hS
          go_wp2
          go_loopw [6] (fun i wi => ∃ (m : Nat) (M : List Nat), i = .int .i64 (m : Int) ∧ Hid (Walk p L k M m) ∧ Below w.heap.size w wi ∧ wi.ownsRow w.heap.size 4 1 (.slice (some ⟨G, 0, none⟩) n n) n (dnC n (dn L k M))) (fun _ wi => dnW wi G n)
          case atStart => exact ⟨k, [], rfl, HW, hb, hown2⟩
          case round =>
            obtain ⟨m, M, rfl, hw, hbi, hown⟩ := hrel
            clear HW hown2 hck hb
            have hm : m < n := by have := (unhide hw).at_.1; rw [unhide HN] at this; exact this
            by_cases hin : m ∈ M
            · have hcm : wr.cell? ⟨G, m, none⟩ = some (.bool true) := by rw [hown.cellAt m (by omega), dnC_at hm, (unhide hw).here, decide_eq_true hin]
              have hown2 : wr.ownsRow w.heap.size 4 1 (.slice (some ⟨G, 0, none⟩) n n) n (dnC n fun j => decide (at0 L j ≤ ((k + 1 : Nat) : Int))) := by
                rw [dnC_congr (g := dn L k M) (fun j hj => by rw [(unhide hw).end_ (unhide HP) (unhide HL) hin (by rw [unhide HN]; exact hj), show ((k + 1 : Nat) : Int) = (k : Int) + 1 by omega])]
                exact hown
              clear hin hw hown
              go_wp2
              go_roundw
              case rel => exact ⟨k + 1, by omega, by go_num, by rw [unhide HST]; go_num, hbi, hown2⟩
              case measure => simp [intOf]; omega
            · have hdm : dn L k M m = false := by rw [(unhide hw).here, decide_eq_false hin]
              have hcm : wr.cell? ⟨G, m, none⟩ = some (.bool false) := by rw [hown.cellAt m (by omega), dnC_at hm, hdm]
              have hfz := hown.frozenAt m
              have ho2 := (hown.stored m (.bool true)).1
              rw [dnC_set] at ho2
              have hb2 := below_set_i hbi hown m (.bool true)
              obtain ⟨ad, u, rfl, had, hu, hc⟩ := ((unhide HA).below hb2).reads.at_ hm
              obtain ⟨v, hv, rfl⟩ := i64_at hu
              have hvr := isP_range (unhide HP) hv
              have hv1 : 1 ≤ v := hvr.1
              have hv8 : v ≤ 8 := by have := hvr.2; rw [unhide HN] at this; omega
              have HNX := hide ((unhide hw).next (unhide HP) (unhide HL) hin)
              rw [sg_of hv] at HNX
              have HM := hide (show dnW (wr.setCell ⟨G, m, none⟩ (.bool true)) G n < dnW wr G n by rw [dnW_of ho2, dnW_of hown]; exact dnN_less hm hdm)
              have hv2 := hide (show ((v.toNat - 1 : Nat) : Int) = v - 1 by omega)
              clear hin hw hdm hown hbi hu hv
              go_wp2
              go_roundw
              case rel => exact ⟨v.toNat - 1, _, by rw [unhide hv2], HNX, hb2, ho2⟩
              case measure => exact unhide HM
      · obtain rfl : n = k := by omega
        go_wp2
        go_ret
        exact ⟨rfl, hb⟩
end Go.Proofs.Ytcnmnpbipencmaa


/-
  impl.leastInCycles and impl.CountCycles, by their contracts.
-/

namespace Go.Proofs.Ytcnmnpbipencmaa
set_option maxRecDepth 100000
open Go.RowKit

theorem placeInfo : (Try.prog.info? 48).map (·.size) = some 8 := by kernel_rfl
theorem placeEq (w : World) (xs ys : List Int) (hx : xs.length = 8) (hy : ys.length = 8) : (Op.equalIn 10000 48 (.agg (arr xs)) (.agg (arr ys))).run Try.prog w = .ok (xs == ys) w :=
  run_equalIn_ints w 9998 48 3 8 Try.underlying48 Try.underlying3 sizeInt xs ys hx hy
/-- The measure as it stands in memory. -/
def msrW (w : World) (G : Nat) : Nat := ((List.range 8).map fun j => (intOf ((w.cell? ⟨G, j, none⟩).getD (.int .i64 0))).toNat).sum
theorem msrW_of {w : World} {G : Nat} {t : TypeId} {L : List Int} (h : Whole w G t (arr L)) (hl : L.length = 8) : msrW w G = msr L := by
  unfold msrW msr
  congr 1
  refine List.map_congr_left fun j hj => ?_
  have hj := List.mem_range.1 hj
  rw [h.cell j, arr_at (at0_some (by omega))]
  rfl
theorem min_ite' (a b : Int) : (if b < a then b else a) = min a b := by by_cases h : b < a <;> simp [h] <;> omega
set_option maxHeartbeats 800000 in
theorem ilst_any (A : Option Addr) (n c B : Nat) (p : List Int) (w : World) (h : Arg w B A n c p) (hp : isP p = true) :
    Calls Try.prog 60 #[.slice A n c] w fun e w' => e = .returned (.agg (arr (lstR p))) ∧ Below w.heap.size w w' := by
  have hl := h.len
  have hn8 : n ≤ 8 := by have := isP_le hp; omega
  have HS := hide (Cyc1.start hp)
  rw [hl] at HS
  have HA := hide h
  have HP := hide hp
  have HN := hide hl
  clear h hl hp
  go_enter Try.func60, Try.ntmps60
  go_wp2_with fail
  rw [zeros_asc]
  obtain ⟨wa, hwa⟩ : ∃ wa, wa = w.alloc (.cells (arr (ascL 0)) 48) := ⟨_, rfl⟩
  have hg0 : Whole wa w.heap.size 48 (arr (ascL 0)) := by rw [hwa]; exact Whole.new w _ _
  have hba : Below w.heap.size w wa := by rw [hwa]; exact (Below.refl _ w).alloc (Nat.le_refl _) _
  rw [← hwa]
  clear hwa
  have H1 := hide (asc_any n hn8 wa)
  refine (unhide H1).mono ?_
  rintro e w1 ⟨rfl, d1⟩
  have hb1 := below_after hba d1
  have hg1 := hg0.below d1 hg0.lt
  have hs1 := hg1.lt
  clear H1 d1 hba hg0
  obtain ⟨G, hG⟩ : ∃ G, G = w1.heap.size := ⟨_, rfl⟩
  have hg0 : Whole (w1.alloc (.cells (arr (ascL 0)) 48)) w1.heap.size 48 (arr (ascL 0)) := Whole.new w1 _ _
  have hr0 := hg1.alloc (.cells (arr (ascL 0)) 48)
  have hb2 := hb1.alloc hb1.size (.cells (arr (ascL 0)) 48)
  have hg2 : Whole ((w1.alloc (.cells (arr (ascL 0)) 48)).setRow w1.heap.size (arr (ascL n))) w1.heap.size 48 (arr (ascL n)) := setRow_heap _ _ _ _ _ _ hg0
  have hb3 := below_set_row hb2 w1.heap.size (arr (ascL n)) hb1.size
  have hr3 : Whole ((w1.alloc (.cells (arr (ascL 0)) 48)).setRow w1.heap.size (arr (ascL n))) w.heap.size 48 (arr (ascL 0)) := (setRow_other _ w1.heap.size _ _ (by omega)).trans hr0
  have hGw : w.heap.size < G := by omega
  clear hr0 hb2 hb1 hg1
  go_wp2_with (first
    | (refine wpList_store_row rfl 48 (.tmp 3) (.tmp 9) rfl w1.heap.size (arr (ascL n)) rfl rfl 48 (arr (ascL 0)) hg0 (by rw [arr_size, ascL_length]; exact placeInfo) (by rw [arr_size, arr_size, ascL_length, ascL_length]) (arr_one _) ?_))
  rw [← hG] at hg2 hb3 hr3 ⊢
  clear hg0 hs1
  rw [show ∀ (a : Act) (v : Value), a.put none v = a from fun _ _ => rfl]
  go_loopw [4, 5, 6] (fun _ _ _ wr => ∃ L : List Int, Hid (Cyc1 p L) ∧ Below w.heap.size w wr ∧ Whole wr w.heap.size 48 (arr (ascL 0)) ∧ Whole wr G 48 (arr L)) (fun _ _ _ wr => msrW wr G)
  case atStart => exact ⟨_, HS, hb3, hr3, hg2⟩
  case round =>
    obtain ⟨L, hL, hb, hr, hg⟩ := hrel
    clear hb3 hr3 hg2 HS hG
    have hL8 := (unhide hL).len
    have hGl := hg.lt
    have hbs := hb.size
    have hn0 : Whole (wr.alloc (.cells (arr (ascL 0)) 48)) wr.heap.size 48 (arr (ascL 0)) := Whole.new wr _ _
    have hn2 : Whole ((wr.alloc (.cells (arr (ascL 0)) 48)).setRow wr.heap.size (arr L)) wr.heap.size 48 (arr (nxK p L 0)) := by rw [nxK_zero hL8]; exact setRow_heap _ _ _ _ _ _ hn0
    have hr2 : Whole ((wr.alloc (.cells (arr (ascL 0)) 48)).setRow wr.heap.size (arr L)) w.heap.size 48 (arr (ascL 0)) := (setRow_other _ wr.heap.size _ _ (by omega)).trans (hr.alloc _)
    have hg2 : Whole ((wr.alloc (.cells (arr (ascL 0)) 48)).setRow wr.heap.size (arr L)) G 48 (arr L) := (setRow_other _ wr.heap.size _ _ (by omega)).trans (hg.alloc _)
    have hb2 := below_set_row (hb.alloc hbs (.cells (arr (ascL 0)) 48)) wr.heap.size (arr L) hbs
    obtain ⟨N, hN⟩ : ∃ N, N = wr.heap.size := ⟨_, rfl⟩
    have hms := hide (msrW_of hg hL8)
    have hGN : G < N := by omega
    obtain ⟨wo, rfl⟩ : ∃ wo : World, wo = wr := ⟨_, rfl⟩
    clear hb hr
    go_wp2_with (first
      | (refine wpList_load_row rfl 48 (.tmp 3) rfl G rfl 48 (arr L) (0, 0) _ hg Try.underlying48 rfl (by rw [arr_size, hL8]; exact placeInfo) ?_)
      | (refine wpList_store_row rfl 48 (.tmp 4) (.tmp 10) rfl wo.heap.size (arr L) rfl rfl 48 (arr (ascL 0)) hn0 (by rw [arr_size, hL8]; exact placeInfo) (by rw [arr_size, arr_size, ascL_length, hL8]) (arr_one _) ?_))
    rw [← hN] at hn2 hr2 hg2 hb2 ⊢
    clear hn0 hGl hbs hN hg
    go_loopw [5, 6, 13] (fun _ _ i wi => ∃ k : Nat, k ≤ n ∧ i = .int .i64 (k : Int) ∧ Below w.heap.size w wi ∧ Whole wi w.heap.size 48 (arr (ascL 0)) ∧ Whole wi G 48 (arr L) ∧ Whole wi N 48 (arr (nxK p L k))) (fun _ _ i _ => n - (intOf i).toNat)
    case atStart => exact ⟨0, Nat.zero_le _, rfl, hb2, hr2, hg2, hn2⟩
    case round =>
      obtain ⟨k, hk, rfl, hbi, hri, hgi, hni⟩ := hrel
      clear hb2 hr2 hg2 hn2
      by_cases hlt : k < n
      · obtain ⟨ad, u, rfl, had, hu, hc⟩ := ((unhide HA).below hbi).reads.at_ hlt
        obtain ⟨v, hv, rfl⟩ := i64_at hu
        have hvr := isP_range (unhide HP) hv
        have hv1 : 1 ≤ v := hvr.1
        have hv8 : v ≤ 8 := by have := hvr.2; rw [unhide HN] at this; omega
        have hst := hide (nxK_step (p := p) (L := L) (k := k))
        rw [sg_of hv] at hst
        have hc1 : wr.cell? ⟨G, k, none⟩ = some (.int .i64 (at0 L k)) := by rw [hgi.cell, arr_at (at0_some (by omega))]
        have hc2 : wr.cell? ⟨G, v.toNat - 1, none⟩ = some (.int .i64 (at0 L (v.toNat - 1))) := by rw [hgi.cell, arr_at (at0_some (by omega))]
        obtain ⟨old, hc3⟩ : ∃ old, wr.cell? ⟨N, k, none⟩ = some old := ⟨_, by rw [hni.cell, arr_at (at0_some (by rw [nxK_length]; omega))]⟩
        have hfz := hni.frozen k
        clear hu hv hvr
        have n1 : Whole (wr.setCell ⟨N, k, none⟩ (.int .i64 (if at0 L (v.toNat - 1) < at0 L k then at0 L (v.toNat - 1) else at0 L k))) N 48 (arr (nxK p L (k + 1))) := by
          rw [← unhide hst, ← arr_set, ← min_ite']
          exact hni.put k _
        have r1 := hri.far (p := ⟨N, k, none⟩) (by show w.heap.size ≠ N; omega) (.int .i64 (if at0 L (v.toNat - 1) < at0 L k then at0 L (v.toNat - 1) else at0 L k))
        have g1 := hgi.far (p := ⟨N, k, none⟩) (by show G ≠ N; omega) (.int .i64 (if at0 L (v.toNat - 1) < at0 L k then at0 L (v.toNat - 1) else at0 L k))
        have b1 := (hbi.setCell (p := ⟨N, k, none⟩) (by show w.heap.size ≤ N; omega) (.int .i64 (if at0 L (v.toNat - 1) < at0 L k then at0 L (v.toNat - 1) else at0 L k))).trans (below_drew _ _)
        clear hbi hri hgi hni hst
        go_wp2
        go_region
        go_wp2
        go_roundw
        case rel => exact ⟨k + 1, by omega, by go_num, b1, r1, g1, n1⟩
        case measure => simp [intOf]; omega
      · obtain rfl : n = k := by omega
        have hX := hide (nxK_length p L n)
        have hf := hide (show nxK p L n = L → L = lstR p from fun e => lstR_eq (unhide HP) ((unhide hL).fix (unhide HP) (by rw [unhide HN]; exact e)))
        have hl := hide (show nxK p L n ≠ L → msr (nxK p L n) < msr L from fun e => by have := (unhide hL).less (unhide HP) (by rw [unhide HN]; exact e); rwa [unhide HN] at this)
        have hnx := hide (show Cyc1 p (nxK p L n) by have := (unhide hL).step (unhide HP); rwa [unhide HN] at this)
        obtain ⟨X, hXe⟩ : ∃ X, X = nxK p L n := ⟨_, rfl⟩
        rw [← hXe] at hX hf hl hnx hni
        have heq := fun w => placeEq w X L (unhide hX) hL8
        obtain ⟨b, hb⟩ : ∃ b, (X == L) = b := ⟨_, rfl⟩
        rw [hb] at heq
        clear hXe
        cases b with
        | true =>
          obtain rfl : X = L := by simpa using hb
          have HE := hide (unhide hf rfl)
          clear hb hl hf hnx
          go_wp2_with (first
            | (refine wpList_load_row rfl 48 (.tmp 4) rfl N rfl 48 (arr X) (0, 0) _ hni Try.underlying48 rfl (by rw [arr_size, hL8]; exact placeInfo) ?_)
            | (refine wpList_load_row rfl 48 (.tmp 3) rfl G rfl 48 (arr X) (0, 0) _ hgi Try.underlying48 rfl (by rw [arr_size, hL8]; exact placeInfo) ?_)
            | (refine wpList_store_row rfl 48 (.tmp 2) (.tmp 32) rfl w.heap.size (arr X) rfl rfl 48 (arr (ascL 0)) hri (by rw [arr_size, hL8]; exact placeInfo) (by rw [arr_size, arr_size, ascL_length, hL8]) (arr_one _) ?_))
          refine bodyPost_ret (v := .agg (arr X)) (results_cell_row Try.results60 _ _ w.heap.size 48 (arr X) (0, 0) _ rfl (setRow_heap _ _ _ _ _ _ hri) Try.underlying48 rfl (by rw [arr_size, hL8]; exact placeInfo)) rfl ?_
          exact ⟨by rw [← unhide HE], below_set_row hbi _ _ (Nat.le_refl _)⟩
        | false =>
          have hne : X ≠ L := by simpa using hb
          have HL := hide (unhide hl hne)
          clear hb hl hf hne
          go_wp2_with (first
            | (refine wpList_load_row rfl 48 (.tmp 4) rfl N rfl 48 (arr X) (0, 0) _ hni Try.underlying48 rfl (by rw [arr_size, unhide hX]; exact placeInfo) ?_)
            | (refine wpList_load_row rfl 48 (.tmp 3) rfl G rfl 48 (arr L) (0, 0) _ hgi Try.underlying48 rfl (by rw [arr_size, hL8]; exact placeInfo) ?_)
            | (refine wpList_store_row rfl 48 (.tmp 3) (.tmp 33) rfl G (arr X) rfl rfl 48 (arr L) hgi (by rw [arr_size, unhide hX]; exact placeInfo) (by rw [arr_size, arr_size, unhide hX, hL8]) (arr_one _) ?_))
          have g9 : Whole (wr.setRow G (arr X)) G 48 (arr X) := setRow_heap _ _ _ _ _ _ hgi
          have r9 : Whole (wr.setRow G (arr X)) w.heap.size 48 (arr (ascL 0)) := (setRow_other _ G _ _ (by omega)).trans hri
          have b9 := below_set_row hbi G (arr X) (by omega)
          have hm9 := hide (show msrW (wr.setRow G (arr X)) G < msrW wo G by rw [msrW_of g9 (unhide hX), unhide hms]; exact unhide HL)
          exact ⟨⟨_, _, _, _, _, _, _, _, _, _, _, _, _, _, _, _, _, _, _, _, _, _, _, _, _, _, _, ⟨X, hnx, b9, r9, g9⟩, rfl⟩, unhide hm9⟩
set_option maxHeartbeats 400000 in
theorem fitC_any (bx : Nat) (p L : List Int) (w : World) (hp : isP p = true) (hL : L.length = 8) (hx : Whole w bx 48 (arr L)) : Fits w 61 #[.pointer (some ⟨bx, 0, none⟩)] p (gC L) := by
  intro k v w' hv hb
  have hk : k < p.length := (List.getElem?_eq_some_iff.1 hv).1
  have h8 := isP_le hp
  have hcell : w'.cell? ⟨bx, k, none⟩ = some (.int .i64 (at0 L k)) := by rw [(hx.below hb hx.lt).cell k, arr_at (at0_some (by omega))]
  show Calls Try.prog 61 #[.int .i64 ((k : Int) + 1), .int .i64 v, .pointer (some ⟨bx, 0, none⟩)] w' _
  have HG := hide (show gC L k = decide (at0 L k = (k : Int) + 1) from rfl)
  have q1 : IntKind.i64.wrap ((k : Int) + 1 - 1) = (k : Int) := by rw [IntKind.wrap_i64]; omega
  have q2 : IntKind.i64.wrap (k : Int) = (k : Int) := by rw [IntKind.wrap_i64]; omega
  have hk8 : k < 8 := by omega
  clear hv hx hp hL hk
  go_enter Try.func61, Try.ntmps61
  go_wp2
  go_ret
  exact ⟨ret_bool ((beq_dec _ _).trans (unhide HG).symm), Below.refl _ _⟩
set_option maxHeartbeats 800000 in
theorem icyc_any (A : Option Addr) (n c B : Nat) (p : List Int) (w : World) (h : Arg w B A n c p) :
    Calls Try.prog 35 #[.slice A n c] w (GivesN w (cycR p)) := by
  obtain ⟨b, hb⟩ : ∃ b, isP p = b := ⟨_, rfl⟩
  have H1 := hide (iisperm_any A n c B p b hb w h.reads h.under h.le h.small)
  unfold cycR
  cases b with
  | false =>
    rw [cnR_no hb]
    clear hb h
    go_enter Try.func35, Try.ntmps35
    go_wp2_with fail
    refine (unhide H1).mono ?_
    rintro e w1 ⟨rfl, hb⟩
    clear H1
    go_wp2
    go_ret
    exact ⟨rfl, hb⟩
  | true =>
    have hL8 := (lstR_ok hb).len
    have H2 := hide (show ∀ w1, Below w.heap.size w w1 → _ from fun w1 d1 => ilst_any A n c B p w1 (h.below d1) hb)
    have H3 := hide (show ∀ w1 L bx, Below w.heap.size w w1 → L.length = 8 → Whole w1 bx 48 (arr L) → _ from fun w1 L bx d1 hL hx => cnwC_any bx A n c B p (gC L) w1 (h.below d1) (fun hp => fitC_any bx p L w1 hp hL hx))
    obtain ⟨L, hLe⟩ : ∃ L, L = lstR p := ⟨_, rfl⟩
    rw [← hLe] at hL8 H2 ⊢
    clear hb h hLe
    go_enter Try.func35, Try.ntmps35
    go_wp2_with fail
    refine (unhide H1).mono ?_
    rintro e w1 ⟨rfl, hb1⟩
    have H4 := hide (unhide H2 w1 hb1)
    clear H1 H2
    go_wp2_with fail
    refine (unhide H4).mono ?_
    rintro e w2 ⟨rfl, d2⟩
    have hb2 := below_after hb1 d2
    have hg0 : Whole (w2.alloc (.cells (arr (ascL 0)) 48)) w2.heap.size 48 (arr (ascL 0)) := Whole.new w2 _ _
    have hg2 : Whole ((w2.alloc (.cells (arr (ascL 0)) 48)).setRow w2.heap.size (arr L)) w2.heap.size 48 (arr L) := setRow_heap _ _ _ _ _ _ hg0
    have hb3 := below_set_row (hb2.alloc hb2.size (.cells (arr (ascL 0)) 48)) w2.heap.size (arr L) hb2.size
    have H5 := hide (unhide H3 _ L _ hb3 hL8 hg2)
    clear H3 H4 hb1 d2 hb2 hg2
    go_wp2_with (first
      | (refine wpList_store_row rfl 48 (.tmp 3) (.tmp 8) rfl w2.heap.size (arr L) rfl rfl 48 (arr (ascL 0)) hg0 (by rw [arr_size, hL8]; exact placeInfo) (by rw [arr_size, arr_size, ascL_length, hL8]) (arr_one _) ?_))
    refine (unhide H5).mono ?_
    rintro e w3 ⟨rfl, d3⟩
    have hb4 := below_after hb3 d3
    clear H5 d3 hb3
    go_wp2
    go_ret
    exact ⟨rfl, hb4⟩
end Go.Proofs.Ytcnmnpbipencmaa


/-
  PLAIN: the rows of counts by descents and by inversions. Nothing here speaks of the program.
-/

namespace Go.Proofs.Ytcnmnpbipencmaa
set_option maxRecDepth 100000

/-- One, then zeros: 46 in all. -/
def oneA : List Int := (List.range 46).map fun j => if j = 0 then 1 else 0
def zerA : List Int := (List.range 46).map fun _ => 0
theorem oneA_length : oneA.length = 46 := by simp [oneA]
theorem zerA_length : zerA.length = 46 := by simp [zerA]
/-- The step by descents. -/
def eulF (R : List Int) (m k : Nat) : Int := ((k : Int) + 1) * at0 R k + ((m : Int) - (k : Int)) * at0 R (k - 1)
def nxE (R : List Int) (m k : Nat) : List Int := (List.range 46).map fun j => if j = 0 then 1 else if j < k then eulF R m j else 0
theorem nxE_length (R : List Int) (m k : Nat) : (nxE R m k).length = 46 := by simp [nxE]
theorem nxE_one (R : List Int) (m : Nat) : nxE R m 1 = oneA := by
  unfold nxE oneA
  refine List.map_congr_left fun j _ => ?_
  by_cases h : j = 0
  · simp [h]
  · rw [if_neg h, if_neg h, if_neg (by omega)]
theorem nxE_step (R : List Int) {m k : Nat} (h0 : 0 < k) : (nxE R m k).set k (eulF R m k) = nxE R m (k + 1) := by
  refine List.ext_getElem (by rw [List.length_set, nxE_length, nxE_length]) fun i h1 h2 => ?_
  simp only [nxE, List.getElem_set, List.getElem_map, List.getElem_range]
  by_cases hk : k = i
  · subst hk; simp [show ¬ k = 0 by omega]
  · rw [if_neg hk]
    by_cases hi0 : i = 0
    · rw [if_pos hi0, if_pos hi0]
    · rw [if_neg hi0, if_neg hi0]
      by_cases hi : i < k
      · rw [if_pos hi, if_pos (by omega)]
      · rw [if_neg hi, if_neg (by omega)]
/-- impl's row of i + 1, with zeros behind. -/
def eulS : Nat → List Int
  | 0 => oneA
  | i + 1 => nxE (eulS i) (i + 2) (i + 2)
theorem eulS_length : ∀ i, (eulS i).length = 46
  | 0 => oneA_length
  | _ + 1 => nxE_length _ _ _
/-- The given side's row. -/
def eulX (R : List Int) (m k : Nat) : Int := ((k : Int) + 1) * at0 R k + if 0 < k then ((m : Int) - (k : Int)) * at0 R (k - 1) else 0
def nxL (R : List Int) (m k : Nat) : List Int := (List.range k).map (eulX R m)
theorem nxL_length (R : List Int) (m k : Nat) : (nxL R m k).length = k := by simp [nxL]
theorem nxL_step (R : List Int) (m k : Nat) : nxL R m (k + 1) = nxL R m k ++ [eulX R m k] := by unfold nxL; rw [List.range_succ, List.map_append]; rfl
def eulL : Nat → List Int
  | 0 => [1]
  | i + 1 => nxL (eulL i) (i + 2) (i + 2)
theorem eulL_length : ∀ i, (eulL i).length = i + 1
  | 0 => rfl
  | _ + 1 => nxL_length _ _ _
theorem eul_same : ∀ i : Nat, i ≤ 11 → (eulS i).take (i + 1) = eulL i := by decide +kernel
theorem eulS_small : ∀ i : Nat, i ≤ 11 → ∀ x ∈ eulS i, 0 ≤ x ∧ x ≤ 200000000 := by decide +kernel
theorem eulL_small : ∀ i : Nat, i ≤ 11 → ∀ x ∈ eulL i, 0 ≤ x ∧ x ≤ 200000000 := by decide +kernel
def eulR (m : Int) : List Int := if 1 ≤ m ∧ m ≤ 12 then eulL (m.toNat - 1) else []
theorem eulR_yes {i : Nat} (h : i ≤ 11) : eulR ((i : Int) + 1) = eulL i := by unfold eulR; rw [if_pos (by omega)]; congr 1
theorem eulR_no {m : Int} (h : ¬ (1 ≤ m ∧ m ≤ 12)) : eulR m = [] := by unfold eulR; rw [if_neg h]
theorem eulR_le (m : Int) : (eulR m).length ≤ 12 := by
  by_cases h : 1 ≤ m ∧ m ≤ 12
  · unfold eulR; rw [if_pos h, eulL_length]; omega
  · rw [eulR_no h]; simp

/-- The sum of j numbers from place q downwards. -/
def sumT (R : List Int) (q : Nat) : Nat → Int
  | 0 => 0
  | j + 1 => sumT R q j + at0 R (q - j)
theorem sumT_le {R : List Int} {M : Int} (h : ∀ q, 0 ≤ at0 R q ∧ at0 R q ≤ M) (q : Nat) : ∀ j, 0 ≤ sumT R q j ∧ sumT R q j ≤ (j : Int) * M
  | 0 => ⟨Int.le_refl _, by simp [sumT]⟩
  | j + 1 => by
    have ih := sumT_le h q j
    have h1 := h (q - j)
    rw [sumT, show ((j + 1 : Nat) : Int) * M = (j : Int) * M + M by rw [Int.natCast_add, Int.add_mul]; simp]
    obtain ⟨P, hP⟩ : ∃ P, P = (j : Int) * M := ⟨_, rfl⟩
    rw [← hP] at ih ⊢
    omega
/-- impl's product in the making: k places whole, the next one with j parts. -/
def tmO (R : List Int) (i k j : Nat) : List Int := (List.range 46).map fun q => if q < k then sumT R q (min i (q + 1)) else if q = k then sumT R q j else 0
theorem tmO_length (R : List Int) (i k j : Nat) : (tmO R i k j).length = 46 := by simp [tmO]
theorem tmO_zero (R : List Int) (i : Nat) : tmO R i 0 0 = zerA := by
  unfold tmO zerA
  refine List.map_congr_left fun q _ => ?_
  rw [if_neg (by omega)]
  by_cases h : q = 0
  · rw [if_pos h]; rfl
  · rw [if_neg h]
theorem tmO_next (R : List Int) (i k : Nat) : tmO R i k (min i (k + 1)) = tmO R i (k + 1) 0 := by
  unfold tmO
  refine List.map_congr_left fun q _ => ?_
  by_cases h1 : q < k
  · rw [if_pos h1, if_pos (by omega)]
  · rw [if_neg h1]
    by_cases h2 : q = k
    · subst h2; rw [if_pos rfl, if_pos (by omega)]
    · rw [if_neg h2, if_neg (by omega)]
      by_cases h3 : q = k + 1
      · rw [if_pos h3]; rfl
      · rw [if_neg h3]
theorem tmO_at {R : List Int} {i k j : Nat} (h : k < 46) : at0 (tmO R i k j) k = sumT R k j := by unfold tmO; rw [at0_map_range h, if_neg (by omega), if_pos rfl]
theorem tmO_step {R : List Int} {i k j : Nat} : (tmO R i k j).set k (sumT R k j + at0 R (k - j)) = tmO R i k (j + 1) := by
  refine List.ext_getElem (by rw [List.length_set, tmO_length, tmO_length]) fun q h1 h2 => ?_
  simp only [tmO, List.getElem_set, List.getElem_map, List.getElem_range]
  by_cases hk : k = q
  · subst hk; simp [sumT]
  · have h3 : ¬ q = k := fun e => hk e.symm
    rw [if_neg hk, if_neg h3, if_neg h3]
def mahS : Nat → List Int
  | 0 => oneA
  | i + 1 => tmO (mahS i) (i + 2) 46 0
theorem mahS_length : ∀ i, (mahS i).length = 46
  | 0 => oneA_length
  | _ + 1 => tmO_length _ _ _ _
/-- The given side's row: each number is added at i places. -/
def spJ (R nx : List Int) (k : Nat) : Nat → List Int
  | 0 => nx
  | j + 1 => (spJ R nx k j).set (k + j) (at0 (spJ R nx k j) (k + j) + at0 R k)
def spK (R : List Int) (i : Nat) (z : List Int) : Nat → List Int
  | 0 => z
  | k + 1 => spJ R (spK R i z k) k i
theorem spJ_length (R nx : List Int) (k : Nat) : ∀ j, (spJ R nx k j).length = nx.length
  | 0 => rfl
  | j + 1 => by rw [spJ, List.length_set, spJ_length R nx k j]
theorem spK_length (R : List Int) (i : Nat) (z : List Int) : ∀ k, (spK R i z k).length = z.length
  | 0 => rfl
  | k + 1 => by rw [spK, spJ_length, spK_length R i z k]
def mahL : Nat → List Int
  | 0 => [1]
  | i + 1 => spK (mahL i) (i + 2) (List.replicate ((mahL i).length + (i + 1)) 0) (mahL i).length
theorem mahL_length_step (i : Nat) : (mahL (i + 1)).length = (mahL i).length + (i + 1) := by rw [mahL, spK_length, List.length_replicate]
theorem mahL_length : ∀ i : Nat, i ≤ 9 → (mahL i).length = (i + 1) * i / 2 + 1 := by decide +kernel
theorem mah_same : ∀ i : Nat, i ≤ 9 → (mahS i).take ((i + 1) * i / 2 + 1) = mahL i := by decide +kernel
theorem mahS_small : ∀ i : Nat, i ≤ 9 → ∀ x ∈ mahS i, 0 ≤ x ∧ x ≤ 10000000 := by decide +kernel
theorem mahL_small : ∀ i : Nat, i ≤ 9 → ∀ x ∈ mahL i, 0 ≤ x ∧ x ≤ 10000000 := by decide +kernel
def mahR (m : Int) : List Int := if 1 ≤ m ∧ m ≤ 10 then mahL (m.toNat - 1) else []
theorem mahR_yes {i : Nat} (h : i ≤ 9) : mahR ((i : Int) + 1) = mahL i := by unfold mahR; rw [if_pos (by omega)]; congr 1
theorem mahR_no {m : Int} (h : ¬ (1 ≤ m ∧ m ≤ 10)) : mahR m = [] := by unfold mahR; rw [if_neg h]
theorem mahL_le : ∀ i : Nat, i ≤ 9 → (mahL i).length ≤ 46 := by decide +kernel
theorem mahR_le (m : Int) : (mahR m).length ≤ 46 := by
  by_cases h : 1 ≤ m ∧ m ≤ 10
  · unfold mahR; rw [if_pos h]; exact mahL_le _ (by omega)
  · rw [mahR_no h]; simp
/-- Numbers from 0 to c times ten millions. -/
def Bd (c : Nat) (l : List Int) : Prop := ∀ q, 0 ≤ at0 l q ∧ at0 l q ≤ (c : Int) * 10000000
theorem at0_all {l : List Int} {M : Int} (hM : 0 ≤ M) (h : ∀ x ∈ l, 0 ≤ x ∧ x ≤ M) (q : Nat) : 0 ≤ at0 l q ∧ at0 l q ≤ M := by
  by_cases hq : q < l.length
  · exact h _ (List.mem_of_getElem? (at0_some hq))
  · rw [at0_out (by omega)]; omega
theorem at0_set (l : List Int) (q r : Nat) (z : Int) : at0 (l.set q z) r = if q = r ∧ r < l.length then z else at0 l r := by
  by_cases hr : r < l.length
  · by_cases hq : q = r
    · subst hq; rw [if_pos ⟨rfl, hr⟩]; exact at0_of (by rw [List.getElem?_set]; simp [hr])
    · rw [if_neg (by omega)]; unfold at0; rw [List.getD_eq_getElem?_getD, List.getD_eq_getElem?_getD, List.getElem?_set, if_neg hq]
  · rw [if_neg (by omega), at0_out (by rw [List.length_set]; omega), at0_out (by omega)]
theorem Bd.step {c : Nat} {l : List Int} (h : Bd c l) (q : Nat) {x : Int} (hx : 0 ≤ x ∧ x ≤ 10000000) : Bd (c + 1) (l.set q (at0 l q + x)) := fun r => by
  rw [at0_set]
  have h1 := h q
  have h2 := h r
  split <;> omega
theorem Bd.mono {c d : Nat} {l : List Int} (h : Bd c l) (hd : c ≤ d) : Bd d l := fun r => by have := h r; omega
theorem Bd.zero (n : Nat) : Bd 0 (List.replicate n 0) := fun r => by
  by_cases h : r < n
  · rw [at0_of (z := 0) (by rw [List.getElem?_replicate, if_pos h])]; simp
  · rw [at0_out (by rw [List.length_replicate]; omega)]; simp
end Go.Proofs.Ytcnmnpbipencmaa
