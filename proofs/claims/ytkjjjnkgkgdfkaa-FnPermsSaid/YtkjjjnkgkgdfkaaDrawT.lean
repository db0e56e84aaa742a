
/-
  spec.l1Turned, spec.DrawParsePerm, by their contracts.
-/
import Derived.Test.YtkjjjnkgkgdfkaaDrawL
import Derived.Test.YtkjjjnkgkgdfkaaText
import Derived.Test.YtkjjjnkgkgdfkaaPermI
import Derived.Deep.RegionHeld3
namespace Go.Proofs.Ytkjjjnkgkgdfkaa
set_option maxRecDepth 100000
open Go.RowKit

def Brief (L : Nat) (v : Value) : Prop := ∃ r : ByteArray, v = .string r ∧ r.size ≤ L
set_option maxHeartbeats 1600000 in
theorem turned_any (B cb g nn c : Nat) (ss : List ByteArray) (s : ByteArray) (w : World) (hc : Cur w B cb) (hl : Blk w g 9 (ss.map Value.string).toArray) (hne : g ≠ cb) (hn : ss.length = nn) (h0 : 0 < nn) (h1 : nn ≤ 1048576) (hs : s.size ≤ 100) (hss : ∀ t ∈ ss, t.size ≤ 100) :
    Calls Try.prog 61 #[.pointer (some ⟨cb, 0, none⟩), .string s, .slice (some ⟨g, 0, none⟩) nn c] w (Drawn B cb w (Brief 300)) := by
  have hS := Side.start hc
  have H1 := hide (below_any B cb ((s.size : Int) + 1) (by omega) w hc)
  have HL := hide hl
  have HN := hide hn
  have HSS := hide hss
  clear hc hl hn hss
  go_enter Try.func61, Try.ntmps61
  go_wp2_with fail
  refine (unhide H1).mono ?_
  rintro e w1 ⟨v, rfl, ⟨x, rfl, hx0, hx1⟩, hc1, hg1⟩
  rw [if_pos (by omega)] at hx1
  obtain ⟨m, rfl⟩ : ∃ m : Nat, x = m := ⟨x.toNat, by omega⟩
  have hm : m ≤ s.size := by omega
  have hm' : (m : Int) ≤ (s.size : Int) := by omega
  have hS1 := hS.drawn hc1 hg1
  have hl1 := (unhide HL).grown hg1 (by simpa using hne)
  have H2 := hide (below_any B cb 6 (by omega) w1 hc1)
  clear H1 hS hc1 hg1 hx0 hx1 HL
  go_wp2_with fail
  refine (unhide H2).mono ?_
  rintro e w2 ⟨v, rfl, ⟨y, rfl, hy0, hy1⟩, hc2, hg2⟩
  have hS2 := hS1.drawn hc2 hg2
  have hl2 := hl1.grown hg2 (by simpa using hne)
  clear H2 hS1 hg2 hl1
  by_cases h0y : y = 0
  · subst h0y
    have H3 := hide (fun w' (hc : Cur w' B cb) (hl : Blk w' g 9 (ss.map Value.string).toArray) => pick_any B cb g nn c ss w' hc hl hne (unhide HN) h0 h1)
    have hb0 := Below.refl w2.heap.size w2
    have z1 : (s.extract 0 m).size = m := by rw [ByteArray.size_extract]; omega
    have z2 : (s.extract m s.size).size = s.size - m := by rw [ByteArray.size_extract]; omega
    go_wp2
    go_region_held3 (fun _ => True) (trivial)
      (first
        | (go_simp; go_at_call 86; refine (unhide H3 _ (by exact hc2) (by exact hl2)).mono ?_; rintro e w3 ⟨v, rfl, ⟨t, ht, rfl⟩, hc3, hg3⟩; have htz := unhide HSS t ht; have hn1 : ¬ 9223372036854775807 < m + t.size := (by omega); have hn2 : ¬ 9223372036854775807 < m + t.size + (s.size - m) := (by omega); clear ht))
    have hS3 := (hS2.below hb0.drew).drawn hc3 hg3
    have HS := hide hS3
    have hz : ((s.extract 0 m ++ t) ++ s.extract m s.size).size ≤ 300 := by rw [ByteArray.size_append, ByteArray.size_append, z1, z2]; omega
    clear hS3 hS2 hc3 hg3
    go_wp2
    go_ret
    exact ⟨_, rfl, ⟨_, rfl, hz⟩, (unhide HS).cur, (unhide HS).gr⟩
  · by_cases h1y : y = 1
    · subst h1y
      have HS := hide hS2
      clear hS2 hc2 hl2
      go_wp2
      go_ret
      exact ⟨_, rfl, ⟨_, rfl, by simp [ByteArray.size_extract]; omega⟩, (unhide HS).cur, (unhide HS).gr⟩
    · have HS := hide hS2
      clear hS2 hc2 hl2
      go_wp2
      go_ret
      exact ⟨_, rfl, ⟨_, rfl, by omega⟩, (unhide HS).cur, (unhide HS).gr⟩

def digits5 : List ByteArray := [⟨#[49]⟩, ⟨#[50]⟩, ⟨#[45]⟩, ⟨#[57]⟩, ⟨#[48]⟩]
theorem digits5_short : ∀ t ∈ digits5, t.size ≤ 100 := by
  intro t ht
  simp only [digits5, List.mem_cons, List.not_mem_nil, or_false] at ht
  rcases ht with rfl | rfl | rfl | rfl | rfl <;> decide
set_option maxHeartbeats 800000 in
theorem dpp_any (A : Option Addr) (n c B : Nat) (bs : List UInt8) (w : World) (hr : Reads w B A n (u8s bs)) (hn : n ≤ 1048576) (hB : B ≤ w.heap.size) :
    Calls Try.prog 15 #[.slice A n c] w fun e w' => ∃ r : ByteArray, e = .returned (.string r) ∧ r.size ≤ 300 ∧ Below w.heap.size w w' := by
  have H1 := hide (new_any A n c B bs w hr hn hB)
  clear hr
  go_enter Try.func15, Try.ntmps15
  go_wp2_with fail
  refine (unhide H1).mono ?_
  rintro e w1 ⟨cb, rfl, hcb, hc1, hb1⟩
  have hS0 := Side.start hc1
  have H2 := hide (l2any_any B cb w1 hc1)
  clear H1 hc1
  go_wp2_with fail
  refine (unhide H2).mono ?_
  rintro e w2 ⟨A2, c2, zs, rfl, hl, hown, hc2, hg2⟩
  have hS2 := hS0.drawn hc2 hg2
  have H3 := hide (stext_any A2 _ c2 _ zs w2 (hl.arg (Ints.of_own hown) (by omega)))
  clear H2 hS0 hl hown hc2 hg2
  go_wp2_with fail
  refine (unhide H3).mono ?_
  rintro e w3 ⟨rfl, hb3⟩
  have hS3 := hS2.below hb3
  have hps := ptext_size zs
  obtain ⟨s, hs⟩ : ∃ s, s = ptext zs := ⟨_, rfl⟩
  rw [← hs] at hps ⊢
  have hal := (Below.refl w3.heap.size w3).alloc (Nat.le_refl _) (.cells (digits5.map Value.string).toArray 9)
  have hS4 := hS3.below hal
  have hlt := hS3.cur.lt
  have H4 := hide (turned_any B cb w3.heap.size 5 5 digits5 s _ hS4.cur (Blk.new w3 _ _) (by omega) rfl (by omega) (by omega) (by omega) digits5_short)
  clear H3 hs hb3 hal hS3 hS2
  simp only [digits5, List.map_cons, List.map_nil] at hS4 H4
  go_wp2_with fail
  refine (unhide H4).mono ?_
  rintro e w5 ⟨v, rfl, ⟨r, rfl, hz⟩, hc5, hg5⟩
  have hb5 := (hS4.drawn hc5 hg5).under hb1 hcb
  clear H4 hS4 hc5 hg5
  go_wp2
  go_ret
  exact ⟨r, rfl, hz, hb5⟩
end Go.Proofs.Ytkjjjnkgkgdfkaa
