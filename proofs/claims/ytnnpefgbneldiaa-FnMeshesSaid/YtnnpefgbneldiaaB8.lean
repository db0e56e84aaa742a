/-
  Words and contracts that the laws lean on, bundled: PermT, FmtS, Text, PermI, DrawT, MarkS, IntsA, NearW, NearC.
-/
import Derived.Test.YtnnpefgbneldiaaB1
import Derived.Lib.ItoaNum
import Derived.Test.YtnnpefgbneldiaaProg
import Derived.Test.YtnnpefgbneldiaaB2
import Derived.Lib.ItoaLen
import Derived.Laws.IdiomStrings
import Derived.WalkSpells
import Derived.WalkLawsBesides
import Derived.Test.YtnnpefgbneldiaaB3
import Derived.Laws.BytesString
import Derived.Test.YtnnpefgbneldiaaB6
import Derived.Deep.RegionHeld3
import Derived.Test.YtnnpefgbneldiaaB4
import Derived.LaidMore
import Derived.Laws.ResultCell

/-
  PLAIN: a permutation's text, and back. Nothing here speaks of the program.
-/

namespace Go.Proofs.Ytnnpefgbneldiaa
set_option maxRecDepth 100000

def dgt (z : Int) : UInt8 := UInt8.ofNat (48 + z.toNat)
def textL (l : List Int) : List UInt8 := l.map dgt
theorem textL_length (l : List Int) : (textL l).length = l.length := by simp [textL]
theorem textL_nil : textL [] = [] := rfl
theorem textL_step {l : List Int} {k : Nat} {z : Int} (h : l[k]? = some z) : textL (l.take (k + 1)) = textL (l.take k) ++ [dgt z] := by unfold textL; rw [take_snoc_i h, List.map_append, List.map_singleton]
theorem itoa_one {z : Int} (h0 : 1 ≤ z) (h1 : z ≤ 8) : Lib.itoa z = [dgt z] := by
  rw [Lib.itoa, if_neg (by omega)]
  exact Lib.decDigits_one (by omega)
/-- The text's numbers as integers. -/
def textI (l : List Int) : List Int := l.map (48 + ·)
theorem textI_length (l : List Int) : (textI l).length = l.length := by simp [textI]
theorem textI_at {l : List Int} {k : Nat} {z : Int} (h : l[k]? = some z) : (textI l)[k]? = some (48 + z) := by unfold textI; rw [List.getElem?_map, h]; rfl
theorem push_list : ∀ (ns : List Int) (s : ByteArray), (ns.foldl (fun r n => r.push (UInt8.ofNat n.toNat)) s) = ⟨s.data ++ (ns.map fun n => UInt8.ofNat n.toNat).toArray⟩
  | [], s => by simp
  | n :: ns, s => by
    rw [List.foldl_cons, push_list ns]
    simp [ByteArray.push]
theorem textI_bytes {l : List Int} (h : ∀ z ∈ l, 0 ≤ z) : (textI l).map (fun n => UInt8.ofNat n.toNat) = textL l := by
  unfold textI textL
  rw [List.map_map]
  refine List.map_congr_left fun z hz => ?_
  have := h z hz
  simp only [Function.comp, dgt]
  congr 1
  omega

def ptext (l : List Int) : ByteArray := if isP l then (if l = [] then ⟨#[45]⟩ else ⟨(textL l).toArray⟩) else ByteArray.empty
theorem ptext_no {l : List Int} (h : isP l = false) : ptext l = ByteArray.empty := by unfold ptext; rw [if_neg (by simp [h])]
theorem ptext_nil {l : List Int} (h : isP l = true) (h0 : l.length = 0) : ptext l = ⟨#[45]⟩ := by unfold ptext; rw [if_pos h, if_pos (List.eq_nil_of_length_eq_zero h0)]
theorem ptext_yes {l : List Int} (h : isP l = true) (h0 : l.length ≠ 0) : ptext l = ⟨(textL l).toArray⟩ := by
  unfold ptext
  rw [if_pos h, if_neg (fun e => h0 (by rw [e]; rfl))]

/-- A text's numbers. -/
def tnums (s : ByteArray) : List Int := s.data.toList.map fun b => (b.toNat : Int) - 48
theorem tnums_length (s : ByteArray) : (tnums s).length = s.size := by
  unfold tnums
  rw [List.length_map, Array.length_toList]; rfl
theorem tnums_at {s : ByteArray} {k : Nat} (h : k < s.size) : (tnums s)[k]? = some ((s[k].toNat : Int) - 48) := by
  have hl : s.data.toList.length = s.size := by rw [Array.length_toList]; rfl
  unfold tnums
  rw [List.getElem?_map, List.getElem?_eq_getElem (by omega)]
  rfl
theorem tnums_small {s : ByteArray} : ∀ z ∈ tnums s, -48 ≤ z ∧ z ≤ 207 := by
  intro z hz
  unfold tnums at hz
  obtain ⟨b, _, rfl⟩ := List.mem_map.1 hz
  have := b.toNat_lt
  omega
def ppOK (s : ByteArray) : Bool := decide (s = ⟨#[45]⟩) || (decide (0 < s.size) && isP (tnums s))
def ppR (s : ByteArray) : List Int := if s = ⟨#[45]⟩ then [] else if ppOK s then tnums s else []
theorem ppOK_dash : ppOK ⟨#[45]⟩ = true := by simp [ppOK]
theorem ppR_dash : ppR ⟨#[45]⟩ = [] := by simp [ppR]
theorem ppOK_else {s : ByteArray} (h : s ≠ ⟨#[45]⟩) (h0 : 0 < s.size) : ppOK s = isP (tnums s) := by simp [ppOK, h, h0]
theorem ppOK_none {s : ByteArray} (h : s ≠ ⟨#[45]⟩) (h0 : s.size = 0) : ppOK s = false := by simp [ppOK, h, h0]
theorem ppR_yes {s : ByteArray} (h : s ≠ ⟨#[45]⟩) (hk : ppOK s = true) : ppR s = tnums s := by unfold ppR; rw [if_neg h, if_pos hk]
theorem ppR_no {s : ByteArray} (h : s ≠ ⟨#[45]⟩) (hk : ppOK s = false) : ppR s = [] := by unfold ppR; rw [if_neg h, if_neg (by simp [hk])]
theorem ppR_le (s : ByteArray) : (ppR s).length ≤ 8 := by
  by_cases h : s = ⟨#[45]⟩
  · subst h; rw [ppR_dash]; simp
  · cases hk : ppOK s with
    | false => rw [ppR_no h hk]; simp
    | true =>
      rw [ppR_yes h hk]
      by_cases h0 : 0 < s.size
      · rw [ppOK_else h h0] at hk
        exact isP_le hk
      · rw [tnums_length]; omega
end Go.Proofs.Ytnnpefgbneldiaa


/-
  spec.FormatInt, by its contract: the decimal numeral.
-/

namespace Go.Proofs.Ytnnpefgbneldiaa
set_option maxRecDepth 100000
open Go.RowKit

/-- What is still to be written of m, ahead of l. -/
def decR (m : Nat) (l : List UInt8) : List UInt8 := if m = 0 then l else Lib.decDigits m ++ l
theorem decR_step {m : Nat} (h : m ≠ 0) (l : List UInt8) : decR m l = decR (m / 10) (UInt8.ofNat (48 + m % 10) :: l) := by
  unfold decR
  rw [if_neg h]
  by_cases h10 : m < 10
  · rw [if_pos (by omega), Lib.decDigits_one h10, Nat.mod_eq_of_lt h10]; rfl
  · rw [if_neg (by omega)]
    rw [Lib.decDigits, dif_neg h10, List.append_assoc]; rfl

theorem cv_one {P : Program} {src dst e : TypeId} (hs : P.underlying src = some (.slice e)) (he : P.underlying e = some (.int .u8)) (hd : P.underlying dst = some .string) (W : World) (x : Int) :
    (convert src dst (.slice (some ⟨W.heap.size, 0, none⟩) 1 1)).run P (W.alloc (.cells #[.int .u8 x] e)) = .ok (.string ⟨#[UInt8.ofNat x.toNat]⟩) (W.alloc (.cells #[.int .u8 x] e)) := by
  rw [run_convert_bytes_string _ src dst e _ 1 1 hs he hd]
  have h := run_bytesToString (P := P) (W.alloc (.cells #[.int .u8 x] e)) ⟨W.heap.size, 0, none⟩ 1 1 [x] (by rw [show (1 : Nat) = ([Value.int .u8 x] : List Value).length from rfl]; exact run_loadCells_list (P := P) _ _ [Value.int .u8 x] (fun j v hj => by
    match j, hj with
    | 0, hj => simp at hj; subst hj; simp [Addr.add]))
  exact h

theorem one_app {b b' : UInt8} (l : List UInt8) (h : b = b') : Value.string (⟨#[b]⟩ ++ ⟨l.toArray⟩) = .string ⟨(b' :: l).toArray⟩ := by
  subst h
  congr 1
theorem neg_rem {m : Int} (h : m ≤ 0) : m.tmod 10 = -((m.natAbs % 10 : Nat) : Int) := by
  obtain ⟨u, rfl⟩ : ∃ u : Nat, m = -(u : Int) := ⟨m.natAbs, by omega⟩
  rw [Int.neg_tmod, Int.natAbs_neg, Int.natAbs_natCast]; rfl
theorem neg_quo {m : Int} (h : m ≤ 0) : m.tdiv 10 = -((m.natAbs / 10 : Nat) : Int) := by
  obtain ⟨u, rfl⟩ : ∃ u : Nat, m = -(u : Int) := ⟨m.natAbs, by omega⟩
  rw [Int.neg_tdiv, Int.natAbs_neg, Int.natAbs_natCast]; rfl
theorem left_short {m n : Int} {l : List UInt8} (h0 : -9223372036854775808 ≤ n) (h1 : n ≤ 9223372036854775807) (h : decR m.natAbs l = Lib.decDigits n.natAbs) : l.length ≤ 21 := by
  have h2 := Lib.itoa_length_le n h0 h1
  have h3 : (Lib.decDigits n.natAbs).length ≤ (Lib.itoa n).length := by
    unfold Lib.itoa
    by_cases hn : n < 0
    · rw [if_pos hn]; simp
    · rw [if_neg hn, show n.natAbs = n.toNat from by omega]; exact Nat.le_refl _
  have h4 : l.length ≤ (decR m.natAbs l).length := by
    unfold decR
    split <;> simp
  rw [h] at h4
  omega

end Go.Proofs.Ytnnpefgbneldiaa


/-
  spec.PermText and impl.PermText, by their contracts.
-/

namespace Go.Proofs.Ytnnpefgbneldiaa
set_option maxRecDepth 100000
open Go.RowKit

theorem cat_list (a b : List UInt8) : (⟨a.toArray⟩ ++ ⟨b.toArray⟩ : ByteArray) = ⟨(a ++ b).toArray⟩ := by
  refine ByteArray.ext ?_
  simp
theorem str_eq {a b : ByteArray} (h : a = b) : Value.string a = .string b := by rw [h]

theorem byteInfo : (Try.prog.info? 5).map (fun i => (i.zero, i.size, i.bytes)) = some (some (.int .u8 0), 1, 1) := by kernel_rfl
def u8c (ns : List Int) : List Value := ns.map (Value.int .u8)
theorem cv_row {P : Program} {src dst e : TypeId} (hs : P.underlying src = some (.slice e)) (he : P.underlying e = some (.int .u8)) (hd : P.underlying dst = some .string) (w : World) (B g n c : Nat) (t : TypeId) (ns : List Int)
    (hown : w.ownsRow B t 1 (.slice (some ⟨g, 0, none⟩) n c) n (u8c ns)) :
    (convert src dst (.slice (some ⟨g, 0, none⟩) n c)).run P w = .ok (.string ⟨(ns.map fun n => UInt8.ofNat n.toNat).toArray⟩) w := by
  rw [run_convert_bytes_string _ src dst e _ n c hs he hd]
  have hn : n = (u8c ns).length := by have := hown.1; omega
  have h := run_bytesToString (P := P) w ⟨g, 0, none⟩ n c ns (by
    have := run_loadCells_list (P := P) (w := w) ⟨g, 0, none⟩ (u8c ns) (fun j v hj => hown.cells (g := g) rfl j v hj)
    rwa [← hn] at this)
  rw [push_list] at h
  simpa using h

end Go.Proofs.Ytnnpefgbneldiaa


/-
  PLAIN: a permutation is parsed from its text, is undone by its inverse, is its own pattern.
-/

namespace Go.Proofs.Ytnnpefgbneldiaa
set_option maxRecDepth 100000

theorem comp_inv {p : List Int} (h : isP p = true) : compOK p (invL p) = true ∧ compR p (invL p) = upTo p.length := by
  have hok := compOK_yes h (invL_isP h) (invL_length p).symm
  refine ⟨hok, ?_⟩
  rw [compR_yes hok, invL_length]
  refine List.ext_getElem? fun j => ?_
  by_cases hj : j < p.length
  · obtain ⟨i, hi, h1, h2⟩ := invL_get h hj
    rw [compL_at hj h2 (y := (j : Int) + 1) (by rw [show ((i : Int) + 1).toNat - 1 = i by omega]; exact h1)]
    unfold upTo
    rw [List.getElem?_map, List.getElem?_range hj]
    rfl
  · rw [List.getElem?_eq_none (by rw [compL_length]; omega), List.getElem?_eq_none (by rw [upTo_length]; omega)]
theorem invR_inv {p : List Int} (h : isP p = true) : invR p = invL p := by rw [invR_yes h]; rfl
theorem pat_self {p : List Int} (h : isP p = true) : patOK p = true ∧ patR p = p := by
  have hok := patOK_yes (isP_le h) (isP_true.1 h).2.2
  refine ⟨hok, ?_⟩
  rw [patR_yes hok]
  unfold patL
  refine (List.map_congr_left fun v hv => ?_).trans (List.map_id _)
  have := cnt_isP h hv
  simp only [id]; omega
theorem nums_text {p : List Int} (h : isP p = true) : tnums ⟨(textL p).toArray⟩ = p := by
  unfold tnums textL
  rw [List.map_map]
  refine (List.map_congr_left fun z hz => ?_).trans (List.map_id _)
  have hr := (isP_true.1 h).2.1 z hz
  have h8 := isP_le h
  simp only [Function.comp, id, dgt]
  rw [UInt8.toNat_ofNat']
  omega
theorem pp_text (p : List Int) : ppOK (ptext p) = isP p ∧ (isP p = true → ppR (ptext p) = p) := by
  cases h : isP p with
  | false =>
    rw [ptext_no h]
    refine ⟨?_, fun e => by cases e⟩
    exact ppOK_none (by decide) rfl
  | true =>
    by_cases h0 : p.length = 0
    · rw [ptext_nil h h0, List.eq_nil_of_length_eq_zero h0]
      exact ⟨ppOK_dash, fun _ => ppR_dash⟩
    · have hn := nums_text h
      rw [ptext_yes h h0]
      have hne : (⟨(textL p).toArray⟩ : ByteArray) ≠ ⟨#[45]⟩ := fun e => by
        rw [e] at hn
        have h1 : p = [-3] := by rw [← hn]; decide
        rw [h1] at h
        revert h
        decide
      have hsz : 0 < (⟨(textL p).toArray⟩ : ByteArray).size := by
        rw [← tnums_length, hn]; omega
      have hok : ppOK ⟨(textL p).toArray⟩ = true := by rw [ppOK_else hne hsz, hn, h]
      exact ⟨hok, fun _ => by rw [ppR_yes hne hok, hn]⟩
theorem ptext_size (p : List Int) : (ptext p).size ≤ 8 := by
  cases h : isP p with
  | false => rw [ptext_no h]; decide
  | true =>
    by_cases h0 : p.length = 0
    · rw [ptext_nil h h0]; decide
    · rw [ptext_yes h h0]
      show (textL p).toArray.size ≤ 8
      rw [List.size_toArray, textL_length]
      exact isP_le h
end Go.Proofs.Ytnnpefgbneldiaa


/-
  spec.l1Turned, spec.DrawParsePerm, by their contracts.
-/

namespace Go.Proofs.Ytnnpefgbneldiaa
set_option maxRecDepth 100000
open Go.RowKit

def Brief (L : Nat) (v : Value) : Prop := ∃ r : ByteArray, v = .string r ∧ r.size ≤ L
def digits5 : List ByteArray := [⟨#[49]⟩, ⟨#[50]⟩, ⟨#[45]⟩, ⟨#[57]⟩, ⟨#[48]⟩]
theorem digits5_short : ∀ t ∈ digits5, t.size ≤ 100 := by
  intro t ht
  simp only [digits5, List.mem_cons, List.not_mem_nil, or_false] at ht
  rcases ht with rfl | rfl | rfl | rfl | rfl <;> decide
end Go.Proofs.Ytnnpefgbneldiaa


/-
  markIntSS turns its own rows alone: the frame of a change between two blocks.
-/

namespace Go.Proofs.Ytnnpefgbneldiaa
set_option maxRecDepth 100000
open Go.RowKit

/-- Nothing outside the blocks from B up to U has turned. -/
structure Turned (B U : Nat) (w w' : World) : Prop where
  os : w'.os = w.os
  tape : w'.tape = w.tape
  output : w'.output = w.output
  size : w.heap.size ≤ w'.heap.size
  block : ∀ i, i < w.heap.size → (i < B ∨ U ≤ i) → w'.heap[i]? = w.heap[i]?
theorem Turned.refl (B U : Nat) (w : World) : Turned B U w w := ⟨rfl, rfl, rfl, Nat.le_refl _, fun _ _ _ => rfl⟩
theorem Turned.grown {B U : Nat} {w0 w w' : World} {row : Option Nat} (h : Turned B U w0 w) (hg : w.grownBy w' row) (hr : ∀ k, row = some k → B ≤ k ∧ k < U) : Turned B U w0 w' :=
  ⟨hg.os.trans h.os, hg.tape.trans h.tape, hg.output.trans h.output, Nat.le_trans h.size hg.size, fun i hi ho =>
    (hg.block i (Nat.lt_of_lt_of_le hi h.size) (fun e => by have := hr i e.symm; omega)).trans (h.block i hi ho)⟩
theorem Turned.below {B U : Nat} {w w' : World} (h : Turned B U w w') (hB : B ≤ w.heap.size) : Below B w w' := ⟨h.os, h.tape, h.output, h.size, fun i hi => h.block i (by omega) (.inl hi)⟩
theorem Row.turned {B U B0 n : Nat} {w w' : World} {v : Value} {xs : List Value} (h : Row w B0 v n xs) (hk : ∀ k, v.ownBlock = some k → k < B ∨ U ≤ k) (ht : Turned B U w w') : Row w' B0 v n xs := by
  refine ⟨h.1, ?_⟩
  rcases h.2 with hn | ⟨g, cap, cur, e, rfl, hb, hgg, rest⟩
  · exact .inl hn
  · exact .inr ⟨g, cap, cur, e, rfl, hb, (ht.block g (Array.getElem?_eq_some_iff.1 hgg).1 (hk g rfl)).trans hgg, rest⟩
theorem own_turned {B U B0 n : Nat} {w w' : World} {e : TypeId} {v : Value} {xs : List Value} (h : w.ownsRow B0 e 1 v n xs) (hk : ∀ k, v.ownBlock = some k → k < B ∨ U ≤ k) (ht : Turned B U w w') : w'.ownsRow B0 e 1 v n xs := by
  refine ⟨h.1, ?_⟩
  rcases h.2 with hn | ⟨g, cap, cur, rfl, hb, hgg, rest⟩
  · exact .inl hn
  · exact .inr ⟨g, cap, cur, rfl, hb, (ht.block g (Array.getElem?_eq_some_iff.1 hgg).1 (hk g rfl)).trans hgg, rest⟩
theorem Ints.turnLow {B U B0 U0 : Nat} {w w' : World} {v : Value} {zs : List Int} (h : Ints w B0 v zs) (hu : Until U0 v) (ht : Turned B U w w') (hU : U0 ≤ B) : Ints w' B0 v zs := Row.turned h (fun k hk => .inl (Nat.lt_of_lt_of_le (hu k hk) hU)) ht
theorem Ints.turnHigh {B U B0 : Nat} {w w' : World} {v : Value} {zs : List Int} (h : Ints w B0 v zs) (ht : Turned B U w w') (hU : U ≤ B0) : Ints w' B0 v zs := Row.turned h (fun k hk => .inr (Nat.le_trans hU (h.since k hk))) ht
theorem Sealed.turnLow {B U B0 U0 : Nat} {w w' : World} {v : Value} {zss : List (List Int)} (h : Sealed w B0 U0 v zss) (ht : Turned B U w w') (hU : U0 ≤ B) : Sealed w' B0 U0 v zss := by
  obtain ⟨vs, h1, h2, h3, h4⟩ := h
  exact ⟨vs, own_turned h1 (fun k hk => .inl (Nat.lt_of_lt_of_le (h3 k hk) hU)) ht, ⟨h2.len, fun i u zs hu hz => (h2.row i u zs hu hz).turnLow (h4 u (List.mem_of_getElem? hu)) ht hU, h2.away⟩, h3, h4⟩
theorem Sealed.turnHigh {B U B0 U0 : Nat} {w w' : World} {v : Value} {zss : List (List Int)} (h : Sealed w B0 U0 v zss) (ht : Turned B U w w') (hU : U ≤ B0) : Sealed w' B0 U0 v zss := by
  obtain ⟨vs, h1, h2, h3, h4⟩ := h
  exact ⟨vs, own_turned h1 (fun k hk => .inr (Nat.le_trans hU (h1.lt k hk).1)) ht, ⟨h2.len, fun i u zs hu hz => (h2.row i u zs hu hz).turnHigh ht hU, h2.away⟩, h3, h4⟩
theorem Turned.trans {B U : Nat} {a b c : World} (h : Turned B U a b) (k : Turned B U b c) : Turned B U a c :=
  ⟨k.os.trans h.os, k.tape.trans h.tape, k.output.trans h.output, Nat.le_trans h.size k.size, fun i hi ho => (k.block i (Nat.lt_of_lt_of_le hi h.size) ho).trans (h.block i hi ho)⟩
theorem Turned.of_below {B U S : Nat} {w w' : World} (h : Below S w w') (hS : w.heap.size ≤ S) : Turned B U w w' := ⟨h.os, h.tape, h.output, h.size, fun i hi _ => h.block i (Nat.lt_of_lt_of_le hi hS)⟩
theorem Turned.of_grown {B U : Nat} {w w' : World} {row : Option Nat} (hg : w.grownBy w' row) (hr : ∀ k, row = some k → B ≤ k ∧ k < U) : Turned B U w w' := (Turned.refl B U w).grown hg hr
theorem Whole.turned {w w' : World} {g : Nat} {t : TypeId} {cs : Array Value} {B U : Nat} (h : Whole w g t cs) (ht : Turned B U w w') (hg : g < B ∨ U ≤ g) : Whole w' g t cs := (ht.block g h.lt hg).trans h
theorem small_of_tot {p : List (List Int)} (h : p.length + tot p ≤ 1048576) (hs : ∀ z ∈ p, z.length ≤ maxLen ∧ Small z) : ∀ z ∈ p, z.length ≤ 1048576 ∧ Small z := fun z hz => by
  obtain ⟨i, hi, rfl⟩ := List.getElem_of_mem hz
  have := tot_at (List.getElem?_eq_getElem hi)
  exact ⟨by omega, (hs _ hz).2⟩
end Go.Proofs.Ytnnpefgbneldiaa


/-
  LISTS OF ROWS AS ARGUMENTS: how they read; szIntS, szIntSS, toIntSS by their contracts.
-/

namespace Go.Proofs.Ytnnpefgbneldiaa
set_option maxRecDepth 100000
open Go.RowKit Go.ChangeShapes Go.WideShapes Go.ChangeAt

/-- The slice value '.slice A n c' holds rows that read as the lists zss, all below block B. -/
structure ReadsS (w : World) (B : Nat) (A : Option Addr) (n : Nat) (zss : List (List Int)) : Prop where
  len : zss.length = n
  rows : 0 < n → ∃ ad, A = some ad ∧ ad.block < B ∧ ∀ (j : Nat) z, zss[j]? = some z → ∃ A' c', w.cell? (ad.add j) = some (.slice A' z.length c') ∧ Reads w B A' z.length (i64s z)
theorem ReadsS.below {w w' : World} {B n : Nat} {A : Option Addr} {zss : List (List Int)} (h : ReadsS w B A n zss) (hb : Below B w w') : ReadsS w' B A n zss :=
  ⟨h.len, fun hn => by
    obtain ⟨ad, e, h1, h2⟩ := h.rows hn
    refine ⟨ad, e, h1, fun j z hz => ?_⟩
    obtain ⟨A', c', h3, h4⟩ := h2 j z hz
    exact ⟨A', c', (hb.cell (by rw [block_of_add]; exact h1)).trans h3, h4.below hb⟩⟩
theorem ReadsS.at_ {w : World} {B n k : Nat} {A : Option Addr} {zss : List (List Int)} (h : ReadsS w B A n zss) (hk : k < n) : ∃ ad A' c' z, A = some ad ∧ zss[k]? = some z ∧ w.cell? (ad.add k) = some (.slice A' z.length c') ∧ Reads w B A' z.length (i64s z) := by
  obtain ⟨ad, e, h1, h2⟩ := h.rows (by omega)
  have hz : zss[k]? = some (zss[k]'(by rw [h.len]; exact hk)) := List.getElem?_eq_getElem _
  obtain ⟨A', c', h3, h4⟩ := h2 k _ hz
  exact ⟨ad, A', c', _, e, hz, h3, h4⟩
theorem list_of {β : Type} {P : Nat → β → Prop} : ∀ n : Nat, (∀ i, i < n → ∃ z, P i z) → ∃ l : List β, l.length = n ∧ ∀ (i : Nat) z, l[i]? = some z → P i z
  | 0, _ => ⟨[], rfl, fun i z h => by simp at h⟩
  | n + 1, h => by
    obtain ⟨l, h1, h2⟩ := list_of n fun i hi => h i (by omega)
    obtain ⟨z, hz⟩ := h n (by omega)
    refine ⟨l ++ [z], by simp [h1], fun i y hy => ?_⟩
    by_cases hi : i < l.length
    · rw [List.getElem?_append_left hi] at hy
      exact h2 i y hy
    · rw [List.getElem?_append_right (by omega)] at hy
      have h0 : i - l.length = 0 := by
        have := (List.getElem?_eq_some_iff.1 hy).1
        simp at this
        omega
      rw [h0] at hy
      simp at hy
      subst hy
      rw [show i = n by omega]
      exact hz
/-- An argument [][]int, as 'ReadsS'. -/
theorem open_intss_reads {H : Type} {enc : TypeId × Value → H} {P : Program} {w : World} {r : Reach} {b0 t e ei : TypeId} {v : Value} {d : DataW H} {ps : List MemPlace} (ht : P.underlying t = some (.slice e)) (he : P.underlying e = some (.slice ei)) (hei : P.underlying ei = some (.int .i64)) (hc : P.cellsOf e = 1) (hci : P.cellsOf ei = 1)
    (hval : Value.okWide P w r b0 t v) (h : DataW.Trod enc P w 0 (fun _ => true) true t v d ps) (hlt : ∀ x ∈ ps, x.block < w.heap.size) :
    ∃ (A : Option Addr) (n c : Nat) (zss : List (List Int)), v = .slice A n c ∧ ReadsS w w.heap.size A n zss ∧ n ≤ maxLen ∧ ∀ z ∈ zss, z.length ≤ maxLen ∧ Small z := by
  obtain ⟨a0, len, cap, rfl⟩ := okWide_slice ht hval
  obtain ⟨fuel, hf⟩ := h
  rcases DataW.trod_slice ht hf with ⟨hcs, hx⟩ | ⟨a, len', cap', elems, rest, m, _, hcs, hx, _, hl, hm, hlen, hel, _, _⟩
  · simp [Value.cells] at hcs
    obtain ⟨rfl, rfl, rfl⟩ := hcs
    exact ⟨none, 0, 0, [], rfl, ⟨rfl, fun h => absurd h (by omega)⟩, Nat.zero_le _, by simp⟩
  · simp [Value.cells] at hcs
    obtain ⟨rfl, rfl, rfl⟩ := hcs
    simp only [Prod.mk.injEq] at hx
    obtain ⟨_, rfl⟩ := hx
    have each : ∀ i, i < len → ∃ z : List Int, (∃ A' c', w.cell? (a.add i) = some (.slice A' z.length c') ∧ Reads w w.heap.size A' z.length (i64s z)) ∧ z.length ≤ maxLen ∧ Small z := by
      intro i hi
      have h1 := hel i hi
      rw [hc, Nat.mul_one, List.getElem?_eq_getElem (by omega), Option.bind_eq_some_iff] at h1
      obtain ⟨cs', hcs', htr⟩ := h1
      have hq : ∀ x ∈ (elems[i]'(by omega)).2, x.block < w.heap.size := fun x hx => hlt x (by
        refine List.mem_append.2 (.inr (List.mem_flatMap.2 ⟨elems[i]'(by omega), List.mem_append.2 (.inl (List.getElem_mem _)), hx⟩))
      )
      rcases open_ints he hei hci htr with ⟨rfl, _⟩ | ⟨a', len'', cap'', zs, rfl, _, hl', hm', hz, hx', hcell, hws⟩
      · exact ⟨[], ⟨none, 0, cell_of_cells?_one hcs', Reads.none_⟩, Nat.zero_le _, fun z hz => by simp at hz⟩
      · simp only [if_true] at hz
        have e1 : (zs.take len'').length = len'' := by rw [List.length_take]; omega
        refine ⟨zs.take len'', ⟨some a', cap'', by rw [e1]; exact cell_of_cells?_one hcs', ?_⟩, by omega, small_of_wf fun z hz => hws z (List.mem_of_mem_take hz)⟩
        refine ⟨by rw [i64_length], fun hn => ⟨a', rfl, ?_, fun j u hu => ?_⟩⟩
        · rw [hx'] at hq
          exact lt_of_row (j := 0) hq (by omega)
        · unfold i64s at hu
          rw [List.getElem?_map, List.getElem?_take] at hu
          by_cases hj : j < len''
          · rw [if_pos hj] at hu
            rw [hcell j (by omega), ← hu, List.getD_eq_getElem?_getD]
            have : zs[j]? = some zs[j] := List.getElem?_eq_getElem (by omega)
            rw [this]; rfl
          · rw [if_neg hj] at hu; cases hu
    obtain ⟨zss, hz1, hz2⟩ := list_of len each
    refine ⟨some a, len, cap, zss, rfl, ⟨hz1, fun hn => ⟨a, rfl, ?_, fun j z hz => (hz2 j z hz).1⟩⟩, by omega, fun z hz => ?_⟩
    · rw [hc] at hlt
      refine lt_of_row (m := (elems.length + rest.length) * 1) (j := 0) (fun x hx => hlt x (List.mem_append.2 (.inl hx))) (by omega)
    · obtain ⟨i, hi, rfl⟩ := List.getElem_of_mem hz
      exact (hz2 i _ (List.getElem?_eq_getElem hi)).2
theorem cellsRow : Try.prog.cellsOf 24 = 1 := by kernel_rfl

end Go.Proofs.Ytnnpefgbneldiaa


/-
  Structs of two rows: the words for them; eqNear, markNear, heldNear, szNear, toNear by their contracts.
-/

namespace Go.Proofs.Ytnnpefgbneldiaa
set_option maxRecDepth 100000
open Go.RowKit

/-- Two rows from block B on, apart from one another. -/
structure NearAt (w : World) (B : Nat) (pv jv : Value) (q J : List Int) : Prop where
  p : Ints w B pv q
  j : Ints w B jv J
  away : Away pv jv
theorem NearAt.below {w w' : World} {B : Nat} {pv jv : Value} {q J : List Int} (h : NearAt w B pv jv q J) (hb : Below w.heap.size w w') : NearAt w' B pv jv q J := ⟨h.p.below hb, h.j.below hb, h.away⟩
theorem NearAt.low {w : World} {B B' : Nat} {pv jv : Value} {q J : List Int} (h : NearAt w B pv jv q J) (hB : B' ≤ B) : NearAt w B' pv jv q J := ⟨h.p.low hB, h.j.low hB, h.away⟩
theorem Ints.past {w : World} {B : Nat} {v : Value} {zs : List Int} (h : Ints w B v zs) {p : Addr} (hp : p.block < B) (u : Value) : Ints (w.setCell p u) B v zs := by
  refine ⟨h.1, ?_⟩
  rcases h.2 with hn | ⟨g, cap, cur, e, rfl, hb, hgg, h1, h2, he⟩
  · exact .inl hn
  · exact .inr ⟨g, cap, cur, e, rfl, hb, (Below.heap_setCell w p u g (by omega)).trans hgg, h1, h2, he⟩
theorem NearAt.past {w : World} {B : Nat} {pv jv : Value} {q J : List Int} (h : NearAt w B pv jv q J) {p : Addr} (hp : p.block < B) (u : Value) : NearAt (w.setCell p u) B pv jv q J := ⟨h.p.past hp u, h.j.past hp u, h.away⟩
/-- .. and below block U. -/
def NSeal (w : World) (B U : Nat) (pv jv : Value) (q J : List Int) : Prop := NearAt w B pv jv q J ∧ Until U pv ∧ Until U jv
section
variable {w w' : World} {B U : Nat} {pv jv : Value} {q J : List Int}
theorem NearAt.sealed (h : NearAt w B pv jv q J) : NSeal w B w.heap.size pv jv q J := ⟨h, h.p.until_, h.j.until_⟩
theorem NSeal.opened (h : NSeal w B U pv jv q J) : NearAt w B pv jv q J := h.1
theorem NSeal.below (h : NSeal w B U pv jv q J) (hb : Below w.heap.size w w') : NSeal w' B U pv jv q J := ⟨h.1.below hb, h.2⟩
theorem NSeal.after {u : Value} {E : Nat} (h : NSeal w B U pv jv q J) (hg : w.grownBy w' u.ownBlock) (hu : Until E u) (hE : E ≤ B) : NSeal w' B U pv jv q J :=
  ⟨⟨h.1.p.kept hg (apart' h.1.p.since hu hE), h.1.j.kept hg (apart' h.1.j.since hu hE), h.1.away⟩, h.2⟩
theorem NSeal.turnLow {B0 U0 : Nat} (h : NSeal w B0 U0 pv jv q J) (ht : Turned B U w w') (hU : U0 ≤ B) : NSeal w' B0 U0 pv jv q J :=
  ⟨⟨h.1.p.turnLow h.2.1 ht hU, h.1.j.turnLow h.2.2 ht hU, h.1.away⟩, h.2⟩
theorem NSeal.turnHigh {B0 U0 : Nat} (h : NSeal w B0 U0 pv jv q J) (ht : Turned B U w w') (hU : U ≤ B0) : NSeal w' B0 U0 pv jv q J :=
  ⟨⟨h.1.p.turnHigh ht hU, h.1.j.turnHigh ht hU, h.1.away⟩, h.2⟩
end
/-- A struct of two rows, and whether. -/
def GivesNB (w : World) (q J : List Int) (b : Bool) (e : Ending) (w' : World) : Prop :=
  ∃ A c P d, e = .returned (.tuple #[.agg #[.slice A q.length c, .slice P J.length d], .bool b]) ∧ NearAt w' w.heap.size (.slice A q.length c) (.slice P J.length d) q J ∧ Below w.heap.size w w'
def GivesNr (w : World) (q J : List Int) (e : Ending) (w' : World) : Prop :=
  ∃ A c P d, e = .returned (.agg #[.slice A q.length c, .slice P J.length d]) ∧ NearAt w' w.heap.size (.slice A q.length c) (.slice P J.length d) q J ∧ Below w.heap.size w w'
theorem GivesNB.mk {w w' : World} {pv jv : Value} {q J : List Int} (b : Bool) (h : NearAt w' w.heap.size pv jv q J) (hb : Below w.heap.size w w') : GivesNB w q J b (.returned (.tuple #[.agg #[pv, jv], .bool b])) w' := by
  obtain ⟨A, c, rfl⟩ := h.p.slice
  obtain ⟨P, d, rfl⟩ := h.j.slice
  exact ⟨A, c, P, d, rfl, h, hb⟩
theorem GivesNr.mk {w w' : World} {pv jv : Value} {q J : List Int} (h : NearAt w' w.heap.size pv jv q J) (hb : Below w.heap.size w w') : GivesNr w q J (.returned (.agg #[pv, jv])) w' := by
  obtain ⟨A, c, rfl⟩ := h.p.slice
  obtain ⟨P, d, rfl⟩ := h.j.slice
  exact ⟨A, c, P, d, rfl, h, hb⟩
theorem NearAt.none_ (w : World) (B : Nat) : NearAt w B (.slice none 0 0) (.slice none 0 0) [] [] := ⟨Ints.nil w B, Ints.nil w B, .inl rfl⟩

theorem nearInfo : (Try.prog.info? 52).map (·.size) = some 2 := by kernel_rfl
end Go.Proofs.Ytnnpefgbneldiaa


/-
  spec.ConsecutiveOf, by its contract.
-/

namespace Go.Proofs.Ytnnpefgbneldiaa
set_option maxRecDepth 100000
open Go.RowKit

theorem results_near {P : Program} {fn : Func} {p u : Tmp} {ty : TypeId} (h : fn.results = #[.cell p ty, .tmp u]) (tmps : Array Value) (w : World) (g : Nat) (t : TypeId) (cs : Array Value) (fr : Nat × Nat) (d : TypeDesc)
    (hp : tmps.getD p undef = .pointer (some ⟨g, 0, none⟩)) (hg : w.heap[g]? = some (.cells cs t fr))
    (hu : P.underlying ty = some d) (hd : (match d with | .struct _ | .array _ _ => true | _ => false) = true) (hi : (P.info? ty).map (·.size) = some cs.size) :
    (results fn tmps).run P w = .ok (.tuple #[.agg cs, tmps.getD u undef]) w := by
  rw [results_cell_tmp h, hp]
  simp [asAddr, Result.andThen, run_loadVar_row w g t ty cs fr d hg hu hd hi]
theorem grownBy_setCellA (w : World) (p : Addr) (v : Value) : w.grownBy (w.setCell p v) (some p.block) := ⟨rfl, rfl, rfl, by simp, fun k _ hk => Below.heap_setCell w p v k (fun e => hk (by rw [e]))⟩
theorem away_block {v : Value} {g : Nat} (hu : Until g v) : v.ownBlock = none ∨ v.ownBlock ≠ some g := by
  cases ho : v.ownBlock with
  | none => exact .inl rfl
  | some k => exact .inr fun e => by have := hu k ho; injection e with e; omega
theorem nearB_end {w w3 : World} {B : Nat} {pv jv : Value} {q J : List Int} (b : Bool) (hIn : NearAt w3 B pv jv q J) (hB : w.heap.size < B) (hb : Below w.heap.size w w3) :
    GivesNB w q J b (.returned (.tuple #[.agg #[pv, jv], .bool b])) ((w3.setCell ⟨w.heap.size, 0, none⟩ pv).setCell ⟨w.heap.size, 1, none⟩ jv) :=
  GivesNB.mk b (((hIn.past (by simpa using hB) _).past (by simpa using hB) _).low (by omega)) ((hb.setCell (Nat.le_refl _) _).setCell (Nat.le_refl _) _)
theorem own_past {w : World} {B n k : Nat} {e : TypeId} {v : Value} {xs : List Value} (h : w.ownsRow B e k v n xs) {p : Addr} (hp : p.block < B) (u : Value) : (w.setCell p u).ownsRow B e k v n xs := by
  refine ⟨h.1, ?_⟩
  rcases h.2 with hn | ⟨g, cap, cur, rfl, hb, hgg, hr⟩
  · exact .inl hn
  · exact .inr ⟨g, cap, cur, rfl, hb, (Below.heap_setCell w p u g (by omega)).trans hgg, hr⟩
def conK (j : Nat) : List Int := (List.range j).map fun (i : Nat) => (i : Int) + 1
theorem conK_step (j : Nat) : conK (j + 1) = conK j ++ [(j : Int) + 1] := by unfold conK; rw [List.range_succ, List.map_append]; rfl
theorem con_own {w : World} {B j : Nat} {v : Value} (h : w.ownsRow B 3 1 v (j + 1) (i64s (conK j) ++ [.int .i64 ((j : Int) + 1)])) : ∃ A c, v = .slice A (j + 1) c ∧ w.ownsRow B 3 1 (.slice A (j + 1) c) (j + 1) (i64s (conK (j + 1))) := by
  have e : i64s (conK j) ++ [.int .i64 ((j : Int) + 1)] = i64s (conK (j + 1)) := by rw [conK_step, ← i64_append]; rfl
  rw [e] at h
  rcases h.2 with ⟨_, h0⟩ | ⟨g, cap, cur, rfl, hr⟩
  · omega
  · exact ⟨_, _, rfl, h⟩
def conQ (q : List Int) : List Int := if isP q then q else []
def conR (q : List Int) : List Int := if isP q then conJ q.length else []
theorem con_sizes (q : List Int) : (conQ q).length ≤ 1048576 ∧ (conR q).length ≤ 1048576 := by
  unfold conQ conR
  cases h : isP q with
  | true => have h8 := isP_le h; simp [conJ]; omega
  | false => simp
end Go.Proofs.Ytnnpefgbneldiaa
