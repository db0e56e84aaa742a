
/-
  CONTRACTS OF THE LAWS' HELPERS OVER []int: toIntS, eqIntS, markIntS, heldIntS; and the words for them.
-/
import Derived.Test.YtkjjjnkgkgdfkaaProg
import Derived.Test.YtkjjjnkgkgdfkaaMem
import Derived.WalkKit
import Derived.Deep.QuietTactic
import Derived.BigQuiet
namespace Go.Proofs.Ytkjjjnkgkgdfkaa
open Go.RowKit

/-- Numbers of 64 bits. -/
def Small (zs : List Int) : Prop := ∀ z ∈ zs, -9223372036854775808 ≤ z ∧ z ≤ 9223372036854775807
theorem i64_get {zs : List Int} {k : Nat} {z : Int} (h : zs[k]? = some z) : (i64s zs)[k]? = some (.int .i64 z) := by
  unfold i64s; rw [List.getElem?_map, h]; rfl
theorem i64_length (zs : List Int) : (i64s zs).length = zs.length := by unfold i64s; rw [List.length_map]
theorem i64_inj {xs ys : List Int} (h : i64s xs = i64s ys) : xs = ys := by
  refine List.ext_getElem? fun i => ?_
  have e := congrArg (fun l => l[i]?) h
  simp only [i64s, List.getElem?_map] at e
  cases hx : xs[i]? <;> cases hy : ys[i]? <;> simp_all
theorem take_set_i {α : Type} {xs ys : List α} {k : Nat} {u : α} (h : xs.take k = ys.take k) (hu : ys[k]? = some u) (hl : k < xs.length) : (xs.set k u).take (k + 1) = ys.take (k + 1) := by
  rw [List.take_add_one, List.take_add_one, List.take_set_of_le (Nat.le_refl _), h]
  simp [hu, hl]
theorem below_set_i {B : Nat} {w w' : World} {e : TypeId} {size : Nat} {g cap n : Nat} {xs : List Value} (hb : Below B w w') (hown : w'.ownsRow B e size (.slice (some ⟨g, 0, none⟩) n cap) n xs) (j : Nat) (u : Value) : Below B w (w'.setCell ⟨g, j, none⟩ u) :=
  hb.setCell (hown.lt g rfl).1 _
theorem intInfo : (Try.prog.info? 3).map (fun i => (i.zero, i.size, i.bytes)) = some (some (.int .i64 0), 1, 8) := by kernel_rfl

/-- A row from block B on whose first n cells are these: it may be read and written, whatever its type and its room. -/
def Row (w : World) (B : Nat) (v : Value) (n : Nat) (xs : List Value) : Prop :=
  xs.length = n ∧ ((v = .slice none 0 0 ∧ n = 0) ∨ ∃ g cap cur e, v = .slice (some ⟨g, 0, none⟩) n cap ∧ B ≤ g ∧ w.heap[g]? = some (.cells cur e (0, 0)) ∧ (n ≤ cap ∧ n ≤ cur.size) ∧ cur.toList.take n = xs ∧ e ≠ 24)
section
variable {w w' : World} {B n : Nat} {v : Value} {xs : List Value}
theorem Row.of_own {e : TypeId} (h : w.ownsRow B e 1 v n xs) (he : e ≠ 24) : Row w B v n xs := by
  refine ⟨by simpa using h.1, ?_⟩
  rcases h.2 with h0 | ⟨g, cap, cur, hv, hb, hg, hnc, _, hs, ht⟩
  · exact .inl h0
  · exact .inr ⟨g, cap, cur, e, hv, hb, hg, ⟨hnc, by omega⟩, by simpa using ht, he⟩
theorem Row.lt (h : Row w B v n xs) : ∀ k, v.ownBlock = some k → B ≤ k ∧ k < w.heap.size := by
  intro k hk
  rcases h.2 with ⟨rfl, _⟩ | ⟨g, cap, cur, e, rfl, hb, hg, _⟩
  · simp [Value.ownBlock] at hk
  · simp [Value.ownBlock] at hk
    subst hk
    exact ⟨hb, (Array.getElem?_eq_some_iff.1 hg).1⟩
theorem Row.kept {row : Option Nat} (h : Row w B v n xs) (hg : w.grownBy w' row) (hne : v.ownBlock = none ∨ v.ownBlock ≠ row) : Row w' B v n xs := by
  refine ⟨h.1, ?_⟩
  rcases h.2 with hn | ⟨g, cap, cur, e, rfl, hb, hgg, rest⟩
  · exact .inl hn
  · refine .inr ⟨g, cap, cur, e, rfl, hb, ?_, rest⟩
    rw [hg.block g (Array.getElem?_eq_some_iff.1 hgg).1 (by simpa [Value.ownBlock] using hne)]
    exact hgg
theorem Row.cells {g : Nat} (h : Row w B v n xs) (hv : v.ownBlock = some g) (j : Nat) (hj : j < n) : w.cell? ⟨g, j, none⟩ = xs[j]? := by
  rcases h.2 with ⟨rfl, _⟩ | ⟨g', cap, cur, e, rfl, hb, hg, _, ht, _⟩
  · simp [Value.ownBlock] at hv
  · simp [Value.ownBlock] at hv
    subst hv
    rw [cell_of_row w g' j cur e (0, 0) hg, ← ht, List.getElem?_take, if_pos hj]
    simp
theorem Row.frozen {g : Nat} (h : Row w B v n xs) (hv : v.ownBlock = some g) (j : Nat) : w.frozen? ⟨g, j, none⟩ = false := by
  rcases h.2 with ⟨rfl, _⟩ | ⟨g', cap, cur, e, rfl, hb, hg, _⟩
  · simp [Value.ownBlock] at hv
  · simp [Value.ownBlock] at hv
    subst hv
    exact frozen_of_row w g' j cur e hg
theorem Row.stored {g : Nat} (h : Row w B v n xs) (hv : v.ownBlock = some g) (j : Nat) (u : Value) : Row (w.setCell ⟨g, j, none⟩ u) B v n (xs.set j u) ∧ w.grownBy (w.setCell ⟨g, j, none⟩ u) (some g) := by
  rcases h.2 with ⟨rfl, _⟩ | ⟨g', cap, cur, e, rfl, hb, hg, hs, ht, he⟩
  · simp [Value.ownBlock] at hv
  · simp [Value.ownBlock] at hv
    subst hv
    refine ⟨⟨by simpa using h.1, .inr ⟨g', cap, cur.setIfInBounds j u, e, rfl, hb, heap_setCell_same w g' j cur e u hg, ⟨hs.1, by simpa using hs.2⟩, ?_, he⟩⟩, ⟨rfl, rfl, rfl, by simp, fun k _ hk => Below.heap_setCell w _ u k (fun he => hk (by rw [he]))⟩⟩
    rw [Array.toList_setIfInBounds, List.take_set, ht]
theorem Row.reads {c : Nat} {A : Option Addr} (h : Row w B (.slice A n c) n xs) : Reads w w.heap.size A n xs := by
  rcases h.2 with ⟨hv, h0⟩ | ⟨g, cap, cur, e, hv, hb, hg, hs, ht, _⟩
  · exact ⟨h.1, fun hn => by omega⟩
  · injection hv with hA _ _
    subst hA
    refine ⟨h.1, fun _ => ⟨_, rfl, (Array.getElem?_eq_some_iff.1 hg).1, fun j u hu => ?_⟩⟩
    have hj : j < n := by have := (List.getElem?_eq_some_iff.1 hu).1; have := h.1; omega
    rw [show (⟨g, 0, none⟩ : Addr).add j = ⟨g, j, none⟩ by unfold Addr.add; split <;> simp_all, h.cells (g := g) rfl j hj]
    exact hu
end
theorem Row.cap {w : World} {B n c : Nat} {A : Option Addr} {xs : List Value} (h : Row w B (.slice A n c) n xs) : n ≤ c := by
  rcases h.2 with ⟨hv, h0⟩ | ⟨g, cap, cur, e, hv, _, _, hs, _⟩
  · omega
  · injection hv with _ _ hc
    rw [hc]; exact hs.1
/-- A row of the call's own that holds these numbers. -/
def Ints (w : World) (B : Nat) (v : Value) (zs : List Int) : Prop := Row w B v zs.length (i64s zs)
theorem Ints.of_own {w : World} {B n : Nat} {v : Value} {zs : List Int} (h : w.ownsRow B 3 1 v n (i64s zs)) : Ints w B v zs := by
  have hn : zs.length = n := by have := h.1; rw [i64_length] at this; omega
  unfold Ints
  rw [hn]
  exact Row.of_own h (by decide)
theorem Ints.slice {w : World} {B : Nat} {v : Value} {zs : List Int} (h : Ints w B v zs) : ∃ A c, v = .slice A zs.length c := by
  rcases h.2 with ⟨rfl, hz⟩ | ⟨g, cap, cur, e, rfl, _⟩
  · exact ⟨none, 0, by rw [hz]⟩
  · exact ⟨_, _, rfl⟩
theorem Ints.len {w : World} {B n c : Nat} {A : Option Addr} {zs : List Int} (h : Ints w B (.slice A n c) zs) : zs.length = n := by
  obtain ⟨A', c', hv⟩ := h.slice
  injection hv with _ h2; exact h2.symm
theorem Ints.cap {w : World} {B n c : Nat} {A : Option Addr} {zs : List Int} (h : Ints w B (.slice A n c) zs) : n ≤ c := by
  obtain rfl := h.len
  exact Row.cap h
theorem Ints.reads {w : World} {B n c : Nat} {A : Option Addr} {zs : List Int} (h : Ints w B (.slice A n c) zs) : Reads w w.heap.size A n (i64s zs) := by
  have hn : n = zs.length := by
    rcases h.2 with ⟨hv, hz⟩ | ⟨g, cap, cur, e, hv, _⟩
    · injection hv with _ h2; omega
    · injection hv
  subst hn
  exact Row.reads h
theorem Ints.below {w w' : World} {B : Nat} {v : Value} {zs : List Int} (h : Ints w B v zs) (hb : Below w.heap.size w w') : Ints w' B v zs := Row.kept h (grown_of_below hb none) (by cases hv : v.ownBlock <;> simp)
theorem Ints.kept {w w' : World} {B : Nat} {v : Value} {zs : List Int} (h : Ints w B v zs) {row : Option Nat} (hg : w.grownBy w' row) (hne : v.ownBlock = none ∨ v.ownBlock ≠ row) : Ints w' B v zs := Row.kept h hg hne
theorem Ints.low {w : World} {B B' : Nat} {v : Value} {zs : List Int} (h : Ints w B v zs) (hB : B' ≤ B) : Ints w B' v zs :=
  ⟨h.1, by
    rcases h.2 with h0 | ⟨g, cap, cur, e, hv, hb, hr⟩
    · exact .inl h0
    · exact .inr ⟨g, cap, cur, e, hv, Nat.le_trans hB hb, hr⟩⟩
theorem own0 (w : World) (B : Nat) (hB : B ≤ w.heap.size) : (w.alloc (.cells #[] 3)).ownsRow B 3 1 (.slice (some ⟨w.heap.size, 0, none⟩) 0 0) 0 [] :=
  World.ownsRow_made (base := B) (e := 3) (size := 1) w #[] 0 hB (by simp [maxLen]) rfl
theorem Ints.made0 (w : World) (B : Nat) (hB : B ≤ w.heap.size) : Ints (w.alloc (.cells #[] 3)) B (.slice (some ⟨w.heap.size, 0, none⟩) 0 0) [] := Ints.of_own (zs := []) (own0 w B hB)
theorem Ints.nil (w : World) (B : Nat) : Ints w B (.slice none 0 0) [] := ⟨rfl, .inl ⟨rfl, rfl⟩⟩
/-- Where the block lies. -/
def Since (B : Nat) (v : Value) : Prop := ∀ k, v.ownBlock = some k → B ≤ k
def Until (B : Nat) (v : Value) : Prop := ∀ k, v.ownBlock = some k → k < B
theorem Ints.since {w : World} {B : Nat} {v : Value} {zs : List Int} (h : Ints w B v zs) : Since B v := fun k hk => (Row.lt h k hk).1
theorem Ints.until_ {w : World} {B : Nat} {v : Value} {zs : List Int} (h : Ints w B v zs) : Until w.heap.size v := fun k hk => (Row.lt h k hk).2
theorem Since.mono {B B' : Nat} {v : Value} (h : Since B v) (hb : B' ≤ B) : Since B' v := fun k hk => Nat.le_trans hb (h k hk)
theorem Until.mono {B B' : Nat} {v : Value} (h : Until B v) (hb : B ≤ B') : Until B' v := fun k hk => Nat.lt_of_lt_of_le (h k hk) hb
theorem apart {B B' : Nat} {u v : Value} (hu : Until B u) (hv : Since B' v) (hb : B ≤ B') : u.ownBlock = none ∨ u.ownBlock ≠ v.ownBlock := by
  cases h : u.ownBlock with
  | none => exact .inl rfl
  | some k => exact .inr fun e => by have := hu k h; have := hv k e.symm; omega
theorem apart' {B B' : Nat} {u v : Value} (hu : Since B' u) (hv : Until B v) (hb : B ≤ B') : u.ownBlock = none ∨ u.ownBlock ≠ v.ownBlock := by
  cases h : u.ownBlock with
  | none => exact .inl rfl
  | some k => exact .inr fun e => by have := hv k e.symm; have := hu k h; omega
theorem below_row {B : Nat} {w0 w w' : World} {v : Value} (hb : Below B w0 w) (hg : w.grownBy w' v.ownBlock) (hB : B ≤ w.heap.size) (hs : Since B v) : Below B w0 w' := hb.grown hg hB hs

theorem made_zeros (n : Nat) : (madeCells (Value.int .i64 0).cells (n * 1)).toList = i64s (List.replicate n 0) := by
  rw [Nat.mul_one]
  unfold i64s
  rw [List.map_replicate]
  exact toList_madeCells_one _ _

def GivesI (w : World) (zs : List Int) (e : Ending) (w' : World) : Prop := ∃ A c, e = .returned (.slice A zs.length c) ∧ Ints w' w.heap.size (.slice A zs.length c) zs ∧ Below w.heap.size w w'
def GivesIB (w : World) (zs : List Int) (b : Bool) (e : Ending) (w' : World) : Prop := ∃ A c, e = .returned (.tuple #[.slice A zs.length c, .bool b]) ∧ Ints w' w.heap.size (.slice A zs.length c) zs ∧ Below w.heap.size w w'
theorem GivesI.mk {w w' : World} {v : Value} {zs : List Int} (h : Ints w' w.heap.size v zs) (hb : Below w.heap.size w w') : GivesI w zs (.returned v) w' := by
  obtain ⟨A, c, rfl⟩ := h.slice
  exact ⟨A, c, rfl, h, hb⟩
theorem GivesIB.mk {w w' : World} {v : Value} {zs : List Int} (b : Bool) (h : Ints w' w.heap.size v zs) (hb : Below w.heap.size w w') : GivesIB w zs b (.returned (.tuple #[v, .bool b])) w' := by
  obtain ⟨A, c, rfl⟩ := h.slice
  exact ⟨A, c, rfl, h, hb⟩

def GivesB (w : World) (b : Bool) (e : Ending) (w' : World) : Prop := e = .returned (.bool b) ∧ Below w.heap.size w w'
def GivesS (w : World) (s : ByteArray) (e : Ending) (w' : World) : Prop := e = .returned (.string s) ∧ Below w.heap.size w w'
/-- A list of integers as an argument: it reads below B, it is not long, its numbers have 64 bits. -/
structure Arg (w : World) (B : Nat) (A : Option Addr) (n c : Nat) (zs : List Int) : Prop where
  reads : Reads w B A n (i64s zs)
  under : B ≤ w.heap.size
  le : n ≤ 1048576
  cap : n ≤ c
  small : Small zs
  nil : A = none → c = 0
theorem Arg.len {w : World} {B n c : Nat} {A : Option Addr} {zs : List Int} (h : Arg w B A n c zs) : zs.length = n := by have := h.reads.1; rwa [i64_length] at this
theorem Arg.below {w w' : World} {B n c : Nat} {A : Option Addr} {zs : List Int} (h : Arg w B A n c zs) (hb : Below w.heap.size w w') : Arg w' B A n c zs :=
  ⟨h.reads.below (hb.mono h.under), Nat.le_trans h.under hb.size, h.le, h.cap, h.small, h.nil⟩
theorem Arg.more {w : World} {B B' n c : Nat} {A : Option Addr} {zs : List Int} (h : Arg w B A n c zs) (hB : B ≤ B') (hu : B' ≤ w.heap.size) : Arg w B' A n c zs := ⟨h.reads.more hB, hu, h.le, h.cap, h.small, h.nil⟩
theorem Ints.arg {w : World} {B n c : Nat} {A : Option Addr} {zs : List Int} (h : Ints w B (.slice A n c) zs) (hn : n ≤ 1048576) (hc : n ≤ c) (hz : Small zs) : Arg w w.heap.size A n c zs := ⟨h.reads, Nat.le_refl _, hn, hc, hz, fun hA => by
  rcases h.2 with ⟨hv, _⟩ | ⟨g, cap, cur, e, hv, _⟩
  · injection hv
  · injection hv with h1; rw [h1] at hA; cases hA⟩
theorem small_of_wf {zs : List Int} (h : ∀ z ∈ zs, (Lit.int .i64 z).wf = true) : Small zs := fun z hz => by
  simpa [Lit.wf, IntKind.min, IntKind.max, IntKind.signed, IntKind.bits] using h z hz
theorem cellsInt : Try.prog.cellsOf 3 = 1 := by kernel_rfl

/-- The marks from k on. -/
def marksI (k n : Nat) : List Int := (List.range n).map fun j => ((k + j : Nat) : Int)
theorem marksI_length (k n : Nat) : (marksI k n).length = n := by simp [marksI]
theorem marksI_at {k n j : Nat} (h : j < n) : (marksI k n)[j]? = some ((k + j : Nat) : Int) := by simp [marksI, h]
end Go.Proofs.Ytkjjjnkgkgdfkaa
