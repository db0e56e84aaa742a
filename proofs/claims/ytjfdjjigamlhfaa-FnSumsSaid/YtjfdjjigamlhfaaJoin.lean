
/-
  spec.l4Fit, spec.l4Join, spec.SumOf, spec.SkewSumOf, by their contracts.
-/
import Derived.Test.YtjfdjjigamlhfaaSumM
import Derived.Test.YtjfdjjigamlhfaaPermS
import Derived.Test.YtjfdjjigamlhfaaInts
import Derived.Test.YtjfdjjigamlhfaaSame
import Derived.Test.YtjfdjjigamlhfaaPat
import Derived.Deep.RegionHeld3
import Derived.Test.YtjfdjjigamlhfaaApp
namespace Go.Proofs.Ytjfdjjigamlhfaa
open Go.RowKit

def bitI (b : Bool) : Int := if b then 1 else 0
theorem bit_any (b : Bool) (w : World) : Calls Try.prog 63 #[.bool b] w fun e w' => e = .returned (.int .i64 (bitI b)) ∧ w' = w := by
  cases b with
  | true => exact bit_true w
  | false => exact bit_false w
theorem joinL_at1 {s : Bool} {p q : List Int} {k : Nat} {z : Int} (h : p[k]? = some z) : (joinL s p q)[k]? = some (z + bitI s * (q.length : Int)) := by
  have hk : k < p.length := (List.getElem?_eq_some_iff.1 h).1
  cases s with
  | true =>
    simp only [joinL, if_true, bitI]
    rw [List.getElem?_append_left (by simpa using hk), List.getElem?_map, h, Int.one_mul]; rfl
  | false =>
    simp only [joinL, bitI, Bool.false_eq_true, if_false]
    rw [List.getElem?_append_left hk, h, Int.zero_mul, Int.add_zero]
theorem joinL_at2 {s : Bool} {p q : List Int} {k : Nat} {z : Int} (h : q[k]? = some z) : (joinL s p q)[p.length + k]? = some (z + bitI (!s) * (p.length : Int)) := by
  cases s with
  | true =>
    simp only [joinL, if_true, bitI, Bool.not_true, Bool.false_eq_true, if_false]
    rw [List.getElem?_append_right (by simp), List.length_map, Nat.add_sub_cancel_left, h, Int.zero_mul, Int.add_zero]
  | false =>
    simp only [joinL, bitI, Bool.not_false, if_true, Bool.false_eq_true, if_false]
    rw [List.getElem?_append_right (by omega), Nat.add_sub_cancel_left, List.getElem?_map, h, Int.one_mul]; rfl
theorem bit_le (s : Bool) (n : Nat) : 0 ≤ bitI s * (n : Int) ∧ bitI s * (n : Int) ≤ n := by
  cases s
  · simp [bitI]
  · simp [bitI]

theorem l4fit_any (A A' : Option Addr) (n c B n' c' B' : Nat) (p q : List Int) (b : Bool) (hb : fit p q = b) (w : World) (h : Arg w B A n c p) (h' : Arg w B' A' n' c' q) :
    Calls Try.prog 39 #[.slice A n c, .slice A' n' c'] w fun e w' => e = .returned (.bool b) ∧ Drew w w' := by
  have hn := h.le
  have hn' := h'.le
  have hl := h.len
  have hl' := h'.len
  obtain ⟨b1, hb1⟩ : ∃ b1, isP p = b1 := ⟨_, rfl⟩
  obtain ⟨b2, hb2⟩ : ∃ b2, isP q = b2 := ⟨_, rfl⟩
  have H1 := hide (sisperm_any A n c B p b1 hb1 w h.reads h.le h.cap)
  have H2 := hide (fun w' (hd : Drew w w') => sisperm_any A' n' c' B' q b2 hb2 w' (h'.reads.ofDrew hd) h'.le h'.cap)
  clear h h'
  cases b1 with
  | false =>
    obtain rfl : b = false := hb.symm.trans (fit_no1 hb1)
    clear hb hb1 hb2 H2 hl hl'
    go_enter Try.func39, Try.ntmps39
    go_wp2_with fail
    refine (unhide H1).mono ?_
    rintro e w1 ⟨rfl, hd⟩
    clear H1
    go_wp2
    go_ret
    exact ⟨rfl, hd⟩
  | true =>
    cases b2 with
    | false =>
      obtain rfl : b = false := hb.symm.trans (fit_no2 hb2)
      clear hb hb1 hb2 hl hl'
      go_enter Try.func39, Try.ntmps39
      go_wp2_with fail
      refine (unhide H1).mono ?_
      rintro e w1 ⟨rfl, hd⟩
      have H3 := hide (unhide H2 w1 hd)
      clear H1 H2
      go_wp2_with fail
      refine (unhide H3).mono ?_
      rintro e w2 ⟨rfl, hd2⟩
      clear H3
      go_wp2
      go_ret
      exact ⟨rfl, hd.trans hd2⟩
    | true =>
      by_cases h8 : n + n' ≤ 8
      · obtain rfl : b = true := hb.symm.trans (fit_yes hb1 hb2 (by omega))
        have h8b : decide ((n : Int) + (n' : Int) ≤ 8) = true := by simp; omega
        clear hb hb1 hb2 hl hl'
        go_enter Try.func39, Try.ntmps39
        go_wp2_with fail
        refine (unhide H1).mono ?_
        rintro e w1 ⟨rfl, hd⟩
        have H3 := hide (unhide H2 w1 hd)
        clear H1 H2
        go_wp2_with fail
        refine (unhide H3).mono ?_
        rintro e w2 ⟨rfl, hd2⟩
        clear H3
        go_wp2
        go_ret
        exact ⟨rfl, hd.trans hd2⟩
      · obtain rfl : b = false := hb.symm.trans (fit_no3 (by omega))
        have h8b : decide ((n : Int) + (n' : Int) ≤ 8) = false := by simp; omega
        clear hb hb1 hb2 hl hl'
        go_enter Try.func39, Try.ntmps39
        go_wp2_with fail
        refine (unhide H1).mono ?_
        rintro e w1 ⟨rfl, hd⟩
        have H3 := hide (unhide H2 w1 hd)
        clear H1 H2
        go_wp2_with fail
        refine (unhide H3).mono ?_
        rintro e w2 ⟨rfl, hd2⟩
        clear H3
        go_wp2
        go_ret
        exact ⟨rfl, hd.trans hd2⟩

theorem keep_low {B : Nat} {wr w : World} {p : Addr} {v : Value} (h : wr.cell? p = some v) (hp : p.block < B) (hb : Below B wr w) : w.cell? p = some v ∧ Below B wr w := ⟨(hb.cell hp).trans h, hb⟩
set_option maxHeartbeats 800000 in
theorem l4join_any (A A' : Option Addr) (n c B n' c' B' : Nat) (s : Bool) (p q : List Int) (w : World) (h : Arg w B A n c p) (h' : Arg w B' A' n' c' q) (hf : fit p q = true) :
    Calls Try.prog 40 #[.slice A n c, .slice A' n' c', .bool s] w (GivesI w (joinL s p q)) := by
  obtain ⟨i0, hi, hz0, hz1, hz2⟩ := info_parts intInfo
  obtain ⟨hp, hq, h8⟩ := fit_all hf
  have hl := h.len
  have hr := h.reads
  have hB := h.under
  have hl' := h'.len
  have hr' := h'.reads
  have hB' := h'.under
  have hn8 : n + n' ≤ 8 := by omega
  have HP := hide (fun k z hz => isP_range hp (k := k) (z := z) hz)
  have HQ := hide (fun k z hz => isP_range hq (k := k) (z := z) hz)
  have HL := hide hl
  have HL' := hide hl'
  have hst := own0 w w.heap.size (Nat.le_refl _)
  have hbel := (Below.refl w.heap.size w).alloc (Nat.le_refl _) (.cells #[] 3)
  obtain ⟨R, hR⟩ : ∃ R, R = joinL s p q := ⟨_, rfl⟩
  have H1 := hide (fun k z (hz : p[k]? = some z) => show R[k]? = some (z + bitI s * (q.length : Int)) by rw [hR]; exact joinL_at1 hz)
  have H2 := hide (fun k z (hz : q[k]? = some z) => show R[p.length + k]? = some (z + bitI (!s) * (p.length : Int)) by rw [hR]; exact joinL_at2 hz)
  have HR := hide (show R.length = n + n' by rw [hR, joinL_length]; omega)
  rw [← hR]
  obtain ⟨x1, hx1⟩ : ∃ x1, x1 = bitI s * (n' : Int) := ⟨_, rfl⟩
  obtain ⟨x2, hx2⟩ : ∃ x2, x2 = bitI (!s) * (n : Int) := ⟨_, rfl⟩
  have hx1b := bit_le s n'
  have hx2b := bit_le (!s) n
  rw [← hx1] at hx1b
  rw [← hx2] at hx2b
  have hw1 : IntKind.i64.wrap (bitI s * (n' : Int)) = x1 := by rw [← hx1, IntKind.wrap_i64]; omega
  have hw2 : IntKind.i64.wrap (bitI (!s) * (n : Int)) = x2 := by rw [← hx2, IntKind.wrap_i64]; omega
  have HX1 := hide hx1
  have HX2 := hide hx2
  clear h hl h' hl' hp hq h8 hR hx1 hx2 hf
  go_enter Try.func40, Try.ntmps40
  go_wp2
  go_loopw [7, 8] (fun v i wr => ∃ k : Nat, k ≤ n ∧ i = .int .i64 k ∧ Below w.heap.size w wr ∧ wr.ownsRow w.heap.size 3 1 v k (i64s (R.take k))) (fun _ i _ => n - (intOf i).toNat)
  case atStart => exact ⟨0, Nat.zero_le _, rfl, hbel, hst⟩
  case round =>
    obtain ⟨k, hk, rfl, hbw, hown⟩ := hrel
    clear hst hbel
    by_cases hlt : k < n
    · obtain ⟨ad, u, rfl, had, hu, hc⟩ := ((hr.more hB).below hbw).at_ hlt
      obtain ⟨z, hz, rfl⟩ := i64_at hu
      obtain ⟨hz1', hz2'⟩ := unhide HP k z hz
      have hst := unhide H1 k z hz
      rw [unhide HL] at hz2'
      rw [unhide HL', ← unhide HX1] at hst
      have hstep := hide (take_snoc_i hst)
      have hw3 : IntKind.i64.wrap (z + x1) = z + x1 := by rw [IntKind.wrap_i64]; omega
      clear hu hz hst
      go_wp2
      have hblk : (ad.add k).block < w.heap.size := by rw [block_of_add]; omega
      have hb0 := Below.refl w.heap.size wr
      have hsz := hbw.size
      go_region_held3 (fun w' => w'.cell? (ad.add k) = some (.int .i64 z) ∧ Below w.heap.size wr w') ((refine keep_low hc hblk ?_; first | assumption | (apply Below.drew; assumption) | exact (hb0.alloc (by omega) _).drew))
        (first
          | (go_simp; go_at_call 63; refine (bit_any _ _).mono ?_; rintro e w' ⟨rfl, rfl⟩)
          | (refine step_append_one (by rfl) (.tmp 17) (.tmp 28) (by rfl) w.heap.size k wr wr _ _ (z + x1) (by rfl) (by rfl) (by rfl) hown (by omega) (by omega) hb0 hsz ?_; intro v2 w2 hown2 hb2))
      have hb3 := hbw.trans hb2
      rw [← unhide hstep] at hown2
      clear hown hbw hstep hb0 hb2
      go_wp2
      go_roundw
      case rel => exact ⟨k + 1, by omega, by go_num, hb3, hown2⟩
      case measure => simp [intOf]; omega
    · obtain rfl : n = k := by omega
      obtain ⟨wo, hwo⟩ : ∃ wo : World, wo = wr := ⟨_, rfl⟩
      have hbo := hbw
      have hst : wr.ownsRow w.heap.size 3 1 u7 (n + 0) (i64s (R.take (n + 0))) := hown
      clear hown
      go_wp2
      go_loopw [7, 9] (fun v i wr => ∃ k : Nat, k ≤ n' ∧ i = .int .i64 k ∧ Below w.heap.size w wr ∧ wr.ownsRow w.heap.size 3 1 v (n + k) (i64s (R.take (n + k)))) (fun _ i _ => n' - (intOf i).toNat)
      case atStart => exact ⟨0, Nat.zero_le _, rfl, hbo, hst⟩
      case round =>
        obtain ⟨k, hk, rfl, hbw2, hown⟩ := hrel
        clear hst hbo hbw
        by_cases hlt : k < n'
        · obtain ⟨ad, u, rfl, had, hu, hc⟩ := ((hr'.more hB').below hbw2).at_ hlt
          obtain ⟨z, hz, rfl⟩ := i64_at hu
          obtain ⟨hz1', hz2'⟩ := unhide HQ k z hz
          have hst := unhide H2 k z hz
          rw [unhide HL'] at hz2'
          rw [unhide HL, ← unhide HX2] at hst
          have hstep := hide (take_snoc_i hst)
          have hw3 : IntKind.i64.wrap (z + x2) = z + x2 := by rw [IntKind.wrap_i64]; omega
          clear hu hz hst
          go_wp2
          have hblk : (ad.add k).block < w.heap.size := by rw [block_of_add]; omega
          have hb0 := Below.refl w.heap.size wr
          have hsz := hbw2.size
          go_region_held3 (fun w' => w'.cell? (ad.add k) = some (.int .i64 z) ∧ Below w.heap.size wr w') ((refine keep_low hc hblk ?_; first | assumption | (apply Below.drew; assumption) | exact (hb0.alloc (by omega) _).drew))
            (first
              | (go_simp; go_at_call 63; refine (bit_any _ _).mono ?_; rintro e w' ⟨rfl, rfl⟩)
              | (refine step_append_one (by rfl) (.tmp 36) (.tmp 48) (by rfl) w.heap.size (n + k) wr wr _ _ (z + x2) (by rfl) (by rfl) (by rfl) hown (by omega) (by omega) hb0 hsz ?_; intro v2 w2 hown2 hb2))
          have hb3 := hbw2.trans hb2
          rw [← unhide hstep] at hown2
          clear hown hbw2 hstep hb0 hb2
          go_wp2
          go_roundw
          case rel => exact ⟨k + 1, by omega, by go_num, hb3, hown2⟩
          case measure => simp [intOf]; omega
        · obtain rfl : n' = k := by omega
          have hI : Ints wr w.heap.size u7 R := by
            have h := hown
            rw [List.take_of_length_le (by rw [unhide HR]; exact Nat.le_refl _), ← unhide HR] at h
            exact Ints.of_own h
          clear hown
          go_wp2
          go_ret
          exact GivesI.mk hI hbw2
end Go.Proofs.Ytjfdjjigamlhfaa
