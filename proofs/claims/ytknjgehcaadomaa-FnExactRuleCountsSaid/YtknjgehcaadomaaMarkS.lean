
/-
  markIntSS turns its own rows alone: the frame of a change between two blocks.
-/
import Derived.Test.YtknjgehcaadomaaIntsS
import Derived.Test.YtknjgehcaadomaaBlk
namespace Go.Proofs.Ytknjgehcaadomaa
set_option maxRecDepth 100000
open Go.RowKit

/-- Nothing outside the blocks from B up to U has turned. -/
structure Turned (B U : Nat) (w w' : World) : Prop where
  os : w'.os = w.os
  tape : w'.tape = w.tape
  output : w'.output = w.output
  size : w.heap.size ≤ w'.heap.size
  block : ∀ i, i < w.heap.size → (i < B ∨ U ≤ i) → w'.heap[i]? = w.heap[i]?
theorem Turned.refl (B U : Nat) (w : World) : Turned B U w w := ⟨rfl, rfl, rfl, Nat.le_refl _, fun _ _ _ => rfl⟩
theorem Turned.grown {B U : Nat} {w0 w w' : World} {row : Option Nat} (h : Turned B U w0 w) (hg : w.grownBy w' row) (hr : ∀ k, row = some k → B ≤ k ∧ k < U) : Turned B U w0 w' :=
  ⟨hg.os.trans h.os, hg.tape.trans h.tape, hg.output.trans h.output, Nat.le_trans h.size hg.size, fun i hi ho =>
    (hg.block i (Nat.lt_of_lt_of_le hi h.size) (fun e => by have := hr i e.symm; omega)).trans (h.block i hi ho)⟩
theorem Turned.below {B U : Nat} {w w' : World} (h : Turned B U w w') (hB : B ≤ w.heap.size) : Below B w w' := ⟨h.os, h.tape, h.output, h.size, fun i hi => h.block i (by omega) (.inl hi)⟩
theorem Row.turned {B U B0 n : Nat} {w w' : World} {v : Value} {xs : List Value} (h : Row w B0 v n xs) (hk : ∀ k, v.ownBlock = some k → k < B ∨ U ≤ k) (ht : Turned B U w w') : Row w' B0 v n xs := by
  refine ⟨h.1, ?_⟩
  rcases h.2 with hn | ⟨g, cap, cur, e, rfl, hb, hgg, rest⟩
  · exact .inl hn
  · exact .inr ⟨g, cap, cur, e, rfl, hb, (ht.block g (Array.getElem?_eq_some_iff.1 hgg).1 (hk g rfl)).trans hgg, rest⟩
theorem own_turned {B U B0 n : Nat} {w w' : World} {e : TypeId} {v : Value} {xs : List Value} (h : w.ownsRow B0 e 1 v n xs) (hk : ∀ k, v.ownBlock = some k → k < B ∨ U ≤ k) (ht : Turned B U w w') : w'.ownsRow B0 e 1 v n xs := by
  refine ⟨h.1, ?_⟩
  rcases h.2 with hn | ⟨g, cap, cur, rfl, hb, hgg, rest⟩
  · exact .inl hn
  · exact .inr ⟨g, cap, cur, rfl, hb, (ht.block g (Array.getElem?_eq_some_iff.1 hgg).1 (hk g rfl)).trans hgg, rest⟩
theorem Ints.turnLow {B U B0 U0 : Nat} {w w' : World} {v : Value} {zs : List Int} (h : Ints w B0 v zs) (hu : Until U0 v) (ht : Turned B U w w') (hU : U0 ≤ B) : Ints w' B0 v zs := Row.turned h (fun k hk => .inl (Nat.lt_of_lt_of_le (hu k hk) hU)) ht
theorem Ints.turnHigh {B U B0 : Nat} {w w' : World} {v : Value} {zs : List Int} (h : Ints w B0 v zs) (ht : Turned B U w w') (hU : U ≤ B0) : Ints w' B0 v zs := Row.turned h (fun k hk => .inr (Nat.le_trans hU (h.since k hk))) ht
theorem Sealed.turnLow {B U B0 U0 : Nat} {w w' : World} {v : Value} {zss : List (List Int)} (h : Sealed w B0 U0 v zss) (ht : Turned B U w w') (hU : U0 ≤ B) : Sealed w' B0 U0 v zss := by
  obtain ⟨vs, h1, h2, h3, h4⟩ := h
  exact ⟨vs, own_turned h1 (fun k hk => .inl (Nat.lt_of_lt_of_le (h3 k hk) hU)) ht, ⟨h2.len, fun i u zs hu hz => (h2.row i u zs hu hz).turnLow (h4 u (List.mem_of_getElem? hu)) ht hU, h2.away⟩, h3, h4⟩
theorem Sealed.turnHigh {B U B0 U0 : Nat} {w w' : World} {v : Value} {zss : List (List Int)} (h : Sealed w B0 U0 v zss) (ht : Turned B U w w') (hU : U ≤ B0) : Sealed w' B0 U0 v zss := by
  obtain ⟨vs, h1, h2, h3, h4⟩ := h
  exact ⟨vs, own_turned h1 (fun k hk => .inr (Nat.le_trans hU (h1.lt k hk).1)) ht, ⟨h2.len, fun i u zs hu hz => (h2.row i u zs hu hz).turnHigh ht hU, h2.away⟩, h3, h4⟩
theorem Turned.trans {B U : Nat} {a b c : World} (h : Turned B U a b) (k : Turned B U b c) : Turned B U a c :=
  ⟨k.os.trans h.os, k.tape.trans h.tape, k.output.trans h.output, Nat.le_trans h.size k.size, fun i hi ho => (k.block i (Nat.lt_of_lt_of_le hi h.size) ho).trans (h.block i hi ho)⟩
theorem Turned.of_below {B U S : Nat} {w w' : World} (h : Below S w w') (hS : w.heap.size ≤ S) : Turned B U w w' := ⟨h.os, h.tape, h.output, h.size, fun i hi _ => h.block i (Nat.lt_of_lt_of_le hi hS)⟩
theorem Turned.of_grown {B U : Nat} {w w' : World} {row : Option Nat} (hg : w.grownBy w' row) (hr : ∀ k, row = some k → B ≤ k ∧ k < U) : Turned B U w w' := (Turned.refl B U w).grown hg hr
theorem Whole.turned {w w' : World} {g : Nat} {t : TypeId} {cs : Array Value} {B U : Nat} (h : Whole w g t cs) (ht : Turned B U w w') (hg : g < B ∨ U ≤ g) : Whole w' g t cs := (ht.block g h.lt hg).trans h
set_option maxHeartbeats 800000 in
/-- markIntSS at a list of rows of the call's own. -/
theorem markss_in (A : Option Addr) (n c B U k : Nat) (K : Int) (hK : K = (k : Int)) (zss : List (List Int)) (w : World) (h : Sealed w B U (.slice A n c) zss) (hkn : k + tot zss ≤ 1099511627776) (hn : n ≤ 1048576) :
    Calls Try.prog 10 #[.slice A n c, .int .i64 K] w fun e w' => e = .returned (.int .i64 (K + (tot zss : Int))) ∧ Sealed w' B U (.slice A n c) (mkS k zss) ∧ Turned B U w w' := by
  subst hK
  have hl := h.opened.len
  obtain ⟨vs, hown, hin, hV1, hV2⟩ := h
  rw [hl] at hown
  have HA := hide hin.away
  have HV := hide hin.len
  have HL := hide hl
  have HV1 := hide hV1
  have HV2 := hide hV2
  have hh := hide (Half.start k hin)
  clear hin hl hV1 hV2
  go_enter Try.func10, Try.ntmps10
  go_wp2
  go_loopw [1, 5] (fun kv i wr => ∃ j : Nat, j ≤ n ∧ kv = .int .i64 ((k + tot (zss.take j) : Nat) : Int) ∧ i = .int .i64 j ∧ Turned B U w wr ∧ wr.ownsRow B 24 1 (.slice A n c) n vs ∧ Hid (Half wr B vs k zss j)) (fun _ i _ => n - (intOf i).toNat)
  case atStart => exact ⟨0, Nat.zero_le _, rfl, rfl, Turned.refl _ _ _, hown, hh⟩
  case round =>
    obtain ⟨j, hj, rfl, rfl, hb, hown', hhf⟩ := hrel
    clear hown hh
    have htt := tot_take zss j
    by_cases hlt : j < n
    · obtain ⟨ad, u, rfl, _, hu, hc⟩ := (Reads.of_own_at hown').at_ hlt
      obtain ⟨zs, hz⟩ : ∃ zs, zss[j]? = some zs := ⟨_, List.getElem?_eq_getElem (by rw [unhide HL]; exact hlt)⟩
      have hts := tot_step hz
      have htt2 := tot_take zss (j + 1)
      have hI := unhide hhf j u zs hu hz
      rw [if_neg (by omega)] at hI
      have hun := unhide HV2 u (List.mem_of_getElem? hu)
      obtain ⟨A1, c1, rfl⟩ := hI.slice
      have H1 := hide (marki_at A1 zs.length c1 B (k + tot (zss.take j)) _ rfl zs wr hI (by omega))
      have hne := rows_apart hown' hI
      have hsi := hI.since
      have HU := hide hu
      have HZ := hide hz
      have HT := hide hts
      obtain ⟨t, ht⟩ : ∃ t, t = tot (zss.take j) := ⟨_, rfl⟩
      rw [← ht] at H1 HT htt ⊢
      have HTT := hide ht
      have hs0 : k + t + zs.length ≤ 1099511627776 := by have h1 := unhide HT; omega
      clear hu hz hts ht hI htt2
      go_wp2_with fail
      refine (unhide H1).mono ?_
      rintro e w2 ⟨rfl, hm, hg⟩
      have hb2 := hb.grown hg (fun q hq => ⟨hsi q hq, hun q hq⟩)
      have hown2 := World.ownsRow.kept hown' hg hne
      have hh2 := hide (Half.step (unhide hhf) (unhide HA) (unhide HU) (unhide HZ) (by rw [← unhide HTT]; exact hm) hg)
      clear H1 hown' hb hm hg hne hhf
      go_wp2
      go_roundw
      case rel => exact ⟨j + 1, by omega, by rw [unhide HT]; go_num, by go_num, hb2, hown2, hh2⟩
      case measure => simp [intOf]; omega
    · obtain rfl : n = j := by omega
      have e : zss.take n = zss := List.take_of_length_le (by rw [unhide HL]; exact Nat.le_refl _)
      rw [e]
      have hdn : Inner wr B vs (mkS k zss) := Half.done (by rw [unhide HL]; exact unhide hhf) (unhide HV) (unhide HA)
      have hI : Sealed wr B U (.slice A n c) (mkS k zss) := ⟨vs, by rw [mkS_length, unhide HL]; exact hown', hdn, unhide HV1, unhide HV2⟩
      clear hown' hhf hdn e
      go_wp2
      go_ret
      exact ⟨ret_int (by omega), hI, hb⟩
theorem small_of_tot {p : List (List Int)} (h : p.length + tot p ≤ 1048576) (hs : ∀ z ∈ p, z.length ≤ maxLen ∧ Small z) : ∀ z ∈ p, z.length ≤ 1048576 ∧ Small z := fun z hz => by
  obtain ⟨i, hi, rfl⟩ := List.getElem_of_mem hz
  have := tot_at (List.getElem?_eq_getElem hi)
  exact ⟨by omega, (hs _ hz).2⟩
end Go.Proofs.Ytknjgehcaadomaa
