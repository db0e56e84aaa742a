
/-
  CONTRACTS OF THE LAWS' HELPERS OVER []int: toIntS, eqIntS, markIntS, heldIntS; and the words for them.
-/
import Derived.Test.YtknjgehcaadomaaProg
import Derived.Test.YtknjgehcaadomaaMem
import Derived.WalkKit
import Derived.Deep.QuietTactic
import Derived.BigQuiet
namespace Go.Proofs.Ytknjgehcaadomaa
set_option maxRecDepth 100000
open Go.RowKit

/-- Numbers of 64 bits. -/
def Small (zs : List Int) : Prop := ∀ z ∈ zs, -9223372036854775808 ≤ z ∧ z ≤ 9223372036854775807
theorem i64_get {zs : List Int} {k : Nat} {z : Int} (h : zs[k]? = some z) : (i64s zs)[k]? = some (.int .i64 z) := by
  unfold i64s; rw [List.getElem?_map, h]; rfl
theorem i64_length (zs : List Int) : (i64s zs).length = zs.length := by unfold i64s; rw [List.length_map]
theorem i64_inj {xs ys : List Int} (h : i64s xs = i64s ys) : xs = ys := by
  refine List.ext_getElem? fun i => ?_
  have e := congrArg (fun l => l[i]?) h
  simp only [i64s, List.getElem?_map] at e
  cases hx : xs[i]? <;> cases hy : ys[i]? <;> simp_all
theorem take_set_i {α : Type} {xs ys : List α} {k : Nat} {u : α} (h : xs.take k = ys.take k) (hu : ys[k]? = some u) (hl : k < xs.length) : (xs.set k u).take (k + 1) = ys.take (k + 1) := by
  rw [List.take_add_one, List.take_add_one, List.take_set_of_le (Nat.le_refl _), h]
  simp [hu, hl]
theorem below_set_i {B : Nat} {w w' : World} {e : TypeId} {size : Nat} {g cap n : Nat} {xs : List Value} (hb : Below B w w') (hown : w'.ownsRow B e size (.slice (some ⟨g, 0, none⟩) n cap) n xs) (j : Nat) (u : Value) : Below B w (w'.setCell ⟨g, j, none⟩ u) :=
  hb.setCell (hown.lt g rfl).1 _
theorem intInfo : (Try.prog.info? 3).map (fun i => (i.zero, i.size, i.bytes)) = some (some (.int .i64 0), 1, 8) := by kernel_rfl

/-- A row from block B on whose first n cells are these: it may be read and written, whatever its type and its room. -/
def Row (w : World) (B : Nat) (v : Value) (n : Nat) (xs : List Value) : Prop :=
  xs.length = n ∧ ((v = .slice none 0 0 ∧ n = 0) ∨ ∃ g cap cur e, v = .slice (some ⟨g, 0, none⟩) n cap ∧ B ≤ g ∧ w.heap[g]? = some (.cells cur e (0, 0)) ∧ (n ≤ cap ∧ n ≤ cur.size) ∧ cur.toList.take n = xs ∧ e ≠ 24)
section
variable {w w' : World} {B n : Nat} {v : Value} {xs : List Value}
theorem Row.of_own {e : TypeId} (h : w.ownsRow B e 1 v n xs) (he : e ≠ 24) : Row w B v n xs := by
  refine ⟨by simpa using h.1, ?_⟩
  rcases h.2 with h0 | ⟨g, cap, cur, hv, hb, hg, hnc, _, hs, ht⟩
  · exact .inl h0
  · exact .inr ⟨g, cap, cur, e, hv, hb, hg, ⟨hnc, by omega⟩, by simpa using ht, he⟩
theorem Row.lt (h : Row w B v n xs) : ∀ k, v.ownBlock = some k → B ≤ k ∧ k < w.heap.size := by
  intro k hk
  rcases h.2 with ⟨rfl, _⟩ | ⟨g, cap, cur, e, rfl, hb, hg, _⟩
  · simp [Value.ownBlock] at hk
  · simp [Value.ownBlock] at hk
    subst hk
    exact ⟨hb, (Array.getElem?_eq_some_iff.1 hg).1⟩
theorem Row.kept {row : Option Nat} (h : Row w B v n xs) (hg : w.grownBy w' row) (hne : v.ownBlock = none ∨ v.ownBlock ≠ row) : Row w' B v n xs := by
  refine ⟨h.1, ?_⟩
  rcases h.2 with hn | ⟨g, cap, cur, e, rfl, hb, hgg, rest⟩
  · exact .inl hn
  · refine .inr ⟨g, cap, cur, e, rfl, hb, ?_, rest⟩
    rw [hg.block g (Array.getElem?_eq_some_iff.1 hgg).1 (by simpa [Value.ownBlock] using hne)]
    exact hgg
theorem Row.cells {g : Nat} (h : Row w B v n xs) (hv : v.ownBlock = some g) (j : Nat) (hj : j < n) : w.cell? ⟨g, j, none⟩ = xs[j]? := by
  rcases h.2 with ⟨rfl, _⟩ | ⟨g', cap, cur, e, rfl, hb, hg, _, ht, _⟩
  · simp [Value.ownBlock] at hv
  · simp [Value.ownBlock] at hv
    subst hv
    rw [cell_of_row w g' j cur e (0, 0) hg, ← ht, List.getElem?_take, if_pos hj]
    simp
theorem Row.frozen {g : Nat} (h : Row w B v n xs) (hv : v.ownBlock = some g) (j : Nat) : w.frozen? ⟨g, j, none⟩ = false := by
  rcases h.2 with ⟨rfl, _⟩ | ⟨g', cap, cur, e, rfl, hb, hg, _⟩
  · simp [Value.ownBlock] at hv
  · simp [Value.ownBlock] at hv
    subst hv
    exact frozen_of_row w g' j cur e hg
theorem Row.stored {g : Nat} (h : Row w B v n xs) (hv : v.ownBlock = some g) (j : Nat) (u : Value) : Row (w.setCell ⟨g, j, none⟩ u) B v n (xs.set j u) ∧ w.grownBy (w.setCell ⟨g, j, none⟩ u) (some g) := by
  rcases h.2 with ⟨rfl, _⟩ | ⟨g', cap, cur, e, rfl, hb, hg, hs, ht, he⟩
  · simp [Value.ownBlock] at hv
  · simp [Value.ownBlock] at hv
    subst hv
    refine ⟨⟨by simpa using h.1, .inr ⟨g', cap, cur.setIfInBounds j u, e, rfl, hb, heap_setCell_same w g' j cur e u hg, ⟨hs.1, by simpa using hs.2⟩, ?_, he⟩⟩, ⟨rfl, rfl, rfl, by simp, fun k _ hk => Below.heap_setCell w _ u k (fun he => hk (by rw [he]))⟩⟩
    rw [Array.toList_setIfInBounds, List.take_set, ht]
theorem Row.reads {c : Nat} {A : Option Addr} (h : Row w B (.slice A n c) n xs) : Reads w w.heap.size A n xs := by
  rcases h.2 with ⟨hv, h0⟩ | ⟨g, cap, cur, e, hv, hb, hg, hs, ht, _⟩
  · exact ⟨h.1, fun hn => by omega⟩
  · injection hv with hA _ _
    subst hA
    refine ⟨h.1, fun _ => ⟨_, rfl, (Array.getElem?_eq_some_iff.1 hg).1, fun j u hu => ?_⟩⟩
    have hj : j < n := by have := (List.getElem?_eq_some_iff.1 hu).1; have := h.1; omega
    rw [show (⟨g, 0, none⟩ : Addr).add j = ⟨g, j, none⟩ by unfold Addr.add; split <;> simp_all, h.cells (g := g) rfl j hj]
    exact hu
end
theorem Row.cap {w : World} {B n c : Nat} {A : Option Addr} {xs : List Value} (h : Row w B (.slice A n c) n xs) : n ≤ c := by
  rcases h.2 with ⟨hv, h0⟩ | ⟨g, cap, cur, e, hv, _, _, hs, _⟩
  · omega
  · injection hv with _ _ hc
    rw [hc]; exact hs.1
/-- A row of the call's own that holds these numbers. -/
def Ints (w : World) (B : Nat) (v : Value) (zs : List Int) : Prop := Row w B v zs.length (i64s zs)
theorem Ints.of_own {w : World} {B n : Nat} {v : Value} {zs : List Int} (h : w.ownsRow B 3 1 v n (i64s zs)) : Ints w B v zs := by
  have hn : zs.length = n := by have := h.1; rw [i64_length] at this; omega
  unfold Ints
  rw [hn]
  exact Row.of_own h (by decide)
theorem Ints.slice {w : World} {B : Nat} {v : Value} {zs : List Int} (h : Ints w B v zs) : ∃ A c, v = .slice A zs.length c := by
  rcases h.2 with ⟨rfl, hz⟩ | ⟨g, cap, cur, e, rfl, _⟩
  · exact ⟨none, 0, by rw [hz]⟩
  · exact ⟨_, _, rfl⟩
theorem Ints.len {w : World} {B n c : Nat} {A : Option Addr} {zs : List Int} (h : Ints w B (.slice A n c) zs) : zs.length = n := by
  obtain ⟨A', c', hv⟩ := h.slice
  injection hv with _ h2; exact h2.symm
theorem Ints.cap {w : World} {B n c : Nat} {A : Option Addr} {zs : List Int} (h : Ints w B (.slice A n c) zs) : n ≤ c := by
  obtain rfl := h.len
  exact Row.cap h
theorem Ints.reads {w : World} {B n c : Nat} {A : Option Addr} {zs : List Int} (h : Ints w B (.slice A n c) zs) : Reads w w.heap.size A n (i64s zs) := by
  have hn : n = zs.length := by
    rcases h.2 with ⟨hv, hz⟩ | ⟨g, cap, cur, e, hv, _⟩
    · injection hv with _ h2; omega
    · injection hv
  subst hn
  exact Row.reads h
theorem Ints.below {w w' : World} {B : Nat} {v : Value} {zs : List Int} (h : Ints w B v zs) (hb : Below w.heap.size w w') : Ints w' B v zs := Row.kept h (grown_of_below hb none) (by cases hv : v.ownBlock <;> simp)
theorem Ints.kept {w w' : World} {B : Nat} {v : Value} {zs : List Int} (h : Ints w B v zs) {row : Option Nat} (hg : w.grownBy w' row) (hne : v.ownBlock = none ∨ v.ownBlock ≠ row) : Ints w' B v zs := Row.kept h hg hne
theorem Ints.low {w : World} {B B' : Nat} {v : Value} {zs : List Int} (h : Ints w B v zs) (hB : B' ≤ B) : Ints w B' v zs :=
  ⟨h.1, by
    rcases h.2 with h0 | ⟨g, cap, cur, e, hv, hb, hr⟩
    · exact .inl h0
    · exact .inr ⟨g, cap, cur, e, hv, Nat.le_trans hB hb, hr⟩⟩
theorem own0 (w : World) (B : Nat) (hB : B ≤ w.heap.size) : (w.alloc (.cells #[] 3)).ownsRow B 3 1 (.slice (some ⟨w.heap.size, 0, none⟩) 0 0) 0 [] :=
  World.ownsRow_made (base := B) (e := 3) (size := 1) w #[] 0 hB (by simp [maxLen]) rfl
theorem Ints.made0 (w : World) (B : Nat) (hB : B ≤ w.heap.size) : Ints (w.alloc (.cells #[] 3)) B (.slice (some ⟨w.heap.size, 0, none⟩) 0 0) [] := Ints.of_own (zs := []) (own0 w B hB)
theorem Ints.nil (w : World) (B : Nat) : Ints w B (.slice none 0 0) [] := ⟨rfl, .inl ⟨rfl, rfl⟩⟩
/-- Where the block lies. -/
def Since (B : Nat) (v : Value) : Prop := ∀ k, v.ownBlock = some k → B ≤ k
def Until (B : Nat) (v : Value) : Prop := ∀ k, v.ownBlock = some k → k < B
theorem Ints.since {w : World} {B : Nat} {v : Value} {zs : List Int} (h : Ints w B v zs) : Since B v := fun k hk => (Row.lt h k hk).1
theorem Ints.until_ {w : World} {B : Nat} {v : Value} {zs : List Int} (h : Ints w B v zs) : Until w.heap.size v := fun k hk => (Row.lt h k hk).2
theorem Since.mono {B B' : Nat} {v : Value} (h : Since B v) (hb : B' ≤ B) : Since B' v := fun k hk => Nat.le_trans hb (h k hk)
theorem Until.mono {B B' : Nat} {v : Value} (h : Until B v) (hb : B ≤ B') : Until B' v := fun k hk => Nat.lt_of_lt_of_le (h k hk) hb
theorem apart {B B' : Nat} {u v : Value} (hu : Until B u) (hv : Since B' v) (hb : B ≤ B') : u.ownBlock = none ∨ u.ownBlock ≠ v.ownBlock := by
  cases h : u.ownBlock with
  | none => exact .inl rfl
  | some k => exact .inr fun e => by have := hu k h; have := hv k e.symm; omega
theorem apart' {B B' : Nat} {u v : Value} (hu : Since B' u) (hv : Until B v) (hb : B ≤ B') : u.ownBlock = none ∨ u.ownBlock ≠ v.ownBlock := by
  cases h : u.ownBlock with
  | none => exact .inl rfl
  | some k => exact .inr fun e => by have := hv k e.symm; have := hu k h; omega
theorem below_row {B : Nat} {w0 w w' : World} {v : Value} (hb : Below B w0 w) (hg : w.grownBy w' v.ownBlock) (hB : B ≤ w.heap.size) (hs : Since B v) : Below B w0 w' := hb.grown hg hB hs

theorem made_zeros (n : Nat) : (madeCells (Value.int .i64 0).cells (n * 1)).toList = i64s (List.replicate n 0) := by
  rw [Nat.mul_one]
  unfold i64s
  rw [List.map_replicate]
  exact toList_madeCells_one _ _

def GivesI (w : World) (zs : List Int) (e : Ending) (w' : World) : Prop := ∃ A c, e = .returned (.slice A zs.length c) ∧ Ints w' w.heap.size (.slice A zs.length c) zs ∧ Below w.heap.size w w'
def GivesIB (w : World) (zs : List Int) (b : Bool) (e : Ending) (w' : World) : Prop := ∃ A c, e = .returned (.tuple #[.slice A zs.length c, .bool b]) ∧ Ints w' w.heap.size (.slice A zs.length c) zs ∧ Below w.heap.size w w'
theorem GivesI.mk {w w' : World} {v : Value} {zs : List Int} (h : Ints w' w.heap.size v zs) (hb : Below w.heap.size w w') : GivesI w zs (.returned v) w' := by
  obtain ⟨A, c, rfl⟩ := h.slice
  exact ⟨A, c, rfl, h, hb⟩
theorem GivesIB.mk {w w' : World} {v : Value} {zs : List Int} (b : Bool) (h : Ints w' w.heap.size v zs) (hb : Below w.heap.size w w') : GivesIB w zs b (.returned (.tuple #[v, .bool b])) w' := by
  obtain ⟨A, c, rfl⟩ := h.slice
  exact ⟨A, c, rfl, h, hb⟩

def GivesB (w : World) (b : Bool) (e : Ending) (w' : World) : Prop := e = .returned (.bool b) ∧ Below w.heap.size w w'
def GivesS (w : World) (s : ByteArray) (e : Ending) (w' : World) : Prop := e = .returned (.string s) ∧ Below w.heap.size w w'
def GivesN (w : World) (z : Int) (e : Ending) (w' : World) : Prop := e = .returned (.int .i64 z) ∧ Below w.heap.size w w'
/-- A list of integers as an argument: it reads below B, it is not long, its numbers have 64 bits. -/
structure Arg (w : World) (B : Nat) (A : Option Addr) (n c : Nat) (zs : List Int) : Prop where
  reads : Reads w B A n (i64s zs)
  under : B ≤ w.heap.size
  le : n ≤ 1048576
  cap : n ≤ c
  small : Small zs
  nil : A = none → c = 0
theorem Arg.len {w : World} {B n c : Nat} {A : Option Addr} {zs : List Int} (h : Arg w B A n c zs) : zs.length = n := by have := h.reads.1; rwa [i64_length] at this
theorem Arg.below {w w' : World} {B n c : Nat} {A : Option Addr} {zs : List Int} (h : Arg w B A n c zs) (hb : Below w.heap.size w w') : Arg w' B A n c zs :=
  ⟨h.reads.below (hb.mono h.under), Nat.le_trans h.under hb.size, h.le, h.cap, h.small, h.nil⟩
theorem Arg.more {w : World} {B B' n c : Nat} {A : Option Addr} {zs : List Int} (h : Arg w B A n c zs) (hB : B ≤ B') (hu : B' ≤ w.heap.size) : Arg w B' A n c zs := ⟨h.reads.more hB, hu, h.le, h.cap, h.small, h.nil⟩
theorem Ints.arg {w : World} {B n c : Nat} {A : Option Addr} {zs : List Int} (h : Ints w B (.slice A n c) zs) (hn : n ≤ 1048576) (hc : n ≤ c) (hz : Small zs) : Arg w w.heap.size A n c zs := ⟨h.reads, Nat.le_refl _, hn, hc, hz, fun hA => by
  rcases h.2 with ⟨hv, _⟩ | ⟨g, cap, cur, e, hv, _⟩
  · injection hv
  · injection hv with h1; rw [h1] at hA; cases hA⟩
theorem small_of_wf {zs : List Int} (h : ∀ z ∈ zs, (Lit.int .i64 z).wf = true) : Small zs := fun z hz => by
  simpa [Lit.wf, IntKind.min, IntKind.max, IntKind.signed, IntKind.bits] using h z hz
theorem cellsInt : Try.prog.cellsOf 3 = 1 := by kernel_rfl

set_option maxHeartbeats 400000 in
/-- toIntS: a row of the call's own with the same numbers. -/
theorem toi_any (A : Option Addr) (n c B : Nat) (zs : List Int) (w : World) (hr : Reads w B A n (i64s zs)) (hB : B ≤ w.heap.size) (hn : n ≤ 1099511627776) :
    Calls Try.prog 16 #[.slice A n c] w fun e w' => e = .returned (.slice (some ⟨w.heap.size, 0, none⟩) n n) ∧ Ints w' w.heap.size (.slice (some ⟨w.heap.size, 0, none⟩) n n) zs ∧ Below w.heap.size w w' := by
  obtain ⟨i0, hi, hz0, hz1, hz2⟩ := info_parts intInfo
  go_enter Try.func16, Try.ntmps16
  go_wp2_with (first
    | (at_make; refine wpList_make_full _ rfl (.tmp 6) (.tmp 6) 24 rfl w.heap.size 3 i0 (.int .i64 0) 1 Try.underlying24 hi hz0 hz1 _ _ _ _ n rfl rfl (by first | rfl | omega) (by first | rfl | omega) (by rw [hz2]; omega) (by unfold maxLen; omega) (Nat.le_refl _) ?_; intro w1 hown hg))
  have hb1 : Below w.heap.size w w1 := (Below.refl _ _).grown hg (Nat.le_refl _) (by simp)
  clear hg
  go_loopw [4] (fun i wr => ∃ (k : Nat) (xs : List Value), k ≤ n ∧ i = .int .i64 k ∧ Below w.heap.size w wr ∧ wr.ownsRow w.heap.size 3 1 (.slice (some ⟨w.heap.size, 0, none⟩) n n) n xs ∧ Hid (xs.take k = (i64s zs).take k)) (fun i _ => n - (intOf i).toNat)
  case atStart => exact ⟨0, _, Nat.zero_le _, rfl, hb1, hown, by exact rfl⟩
  case round =>
    obtain ⟨k, xs, hk, rfl, hb, hown', hx⟩ := hrel
    clear hown hb1
    by_cases hlt : k < n
    · obtain ⟨ad, u, rfl, had, hu, hc⟩ := ((hr.more hB).below hb).at_ hlt
      obtain ⟨s, hs, rfl⟩ := i64_at hu
      have hl : xs.length = n := by simpa using hown'.1
      obtain ⟨old, hold⟩ : ∃ old, wr.cell? ⟨w.heap.size, k, none⟩ = some old := ⟨_, by rw [hown'.cellAt k (by omega)]; exact List.getElem?_eq_getElem (by omega)⟩
      have hfz := hown'.frozenAt k
      have hst := hide (take_set_i (unhide hx) hu (by omega))
      have ho2 := (hown'.stored k (.int .i64 s)).1
      have hb2 := below_set_i hb hown' k (.int .i64 s)
      have hkn : k + 1 ≤ n := by omega
      clear hx hu hs hown' hb hl
      go_wp2
      go_roundw
      case rel => exact ⟨k + 1, _, hkn, by go_num, hb2, ho2, hst⟩
      case measure => simp [intOf]; omega
    · obtain rfl : n = k := by omega
      have hlx : xs.length = n := by simpa using hown'.1
      have hlr : zs.length = n := by have := hr.1; rwa [i64_length] at this
      have : xs = i64s zs := by
        have h := unhide hx
        rwa [List.take_of_length_le (by omega), List.take_of_length_le (by rw [i64_length]; omega)] at h
      subst this
      have hI : Ints wr w.heap.size (.slice (some ⟨w.heap.size, 0, none⟩) n n) zs := Ints.of_own hown'
      clear hx hlx hlr hown'
      go_wp2
      go_ret
      exact ⟨rfl, hI, hb⟩
set_option maxHeartbeats 400000 in
/-- eqIntS: equal lists. -/
theorem eqi_any (A A' : Option Addr) (n c n' c' B B' : Nat) (zs : List Int) (w : World) (hr : Reads w B A n (i64s zs)) (hr' : Reads w B' A' n' (i64s zs)) (hn : n ≤ 1099511627776) :
    Calls Try.prog 8 #[.slice A n c, .slice A' n' c'] w fun e w' => e = .returned (.bool true) ∧ Drew w w' := by
  have e1 : zs.length = n := by have := hr.1; rwa [i64_length] at this
  have e2 : zs.length = n' := by have := hr'.1; rwa [i64_length] at this
  obtain rfl : n = n' := by omega
  clear e1 e2
  go_enter Try.func8, Try.ntmps8
  go_wp2
  go_loopw [5] (fun i wr => ∃ k : Nat, k ≤ n ∧ i = .int .i64 k ∧ Drew w wr) (fun i _ => n - (intOf i).toNat)
  case atStart => exact ⟨0, Nat.zero_le _, rfl, Drew.refl _⟩
  case round =>
    obtain ⟨k, hk, rfl, hd⟩ := hrel
    by_cases hlt : k < n
    · obtain ⟨ad, u, rfl, _, hx, hc⟩ := (hr.ofDrew hd).at_ hlt
      obtain ⟨ad', u', rfl, _, hx', hc'⟩ := (hr'.ofDrew hd).at_ hlt
      obtain ⟨s, hs, rfl⟩ := i64_at hx
      obtain ⟨s', hs', rfl⟩ := i64_at hx'
      obtain rfl : s = s' := by rw [hs] at hs'; exact Option.some.inj hs'
      clear hx hx' hs hs' hr hr'
      have HD := hide hd
      clear hd
      go_wp2
      go_quiet (fail)
      go_wp2
      go_roundw
      case rel => exact ⟨k + 1, by omega, by go_num, (unhide HD).more _⟩
      case measure => simp [intOf]; omega
    · go_wp2
      go_ret
      exact ⟨rfl, hd⟩
/-- The marks from k on. -/
def marksI (k n : Nat) : List Int := (List.range n).map fun j => ((k + j : Nat) : Int)
theorem marksI_length (k n : Nat) : (marksI k n).length = n := by simp [marksI]
theorem marksI_at {k n j : Nat} (h : j < n) : (marksI k n)[j]? = some ((k + j : Nat) : Int) := by simp [marksI, h]
set_option maxHeartbeats 800000 in
/-- markIntS at a row of the call's own. -/
theorem marki_any (A : Option Addr) (n c base k : Nat) (zs : List Int) (w : World) (hown : Ints w base (.slice A n c) zs) (hkn : k + n ≤ 1099511627776) :
    Calls Try.prog 11 #[.slice A n c, .int .i64 k] w fun e w' => e = .returned (.int .i64 ((k + n : Nat) : Int)) ∧
      Ints w' base (.slice A n c) (marksI k n) ∧ w.grownBy w' (Value.slice A n c).ownBlock := by
  have hzn : zs.length = n := by
    obtain ⟨A', c', hv⟩ := hown.slice
    injection hv with _ h2; exact h2.symm
  have hown : Row w base (.slice A n c) n (i64s zs) := by unfold Ints at hown; rwa [hzn] at hown
  clear hzn
  go_enter Try.func11, Try.ntmps11
  go_wp2
  go_loopw [1, 5] (fun kv i wr => ∃ (j : Nat) (ys : List Value), j ≤ n ∧ kv = .int .i64 ((k + j : Nat) : Int) ∧ i = .int .i64 j ∧ w.grownBy wr (Value.slice A n c).ownBlock ∧ Row wr base (.slice A n c) n ys ∧ Hid (ys.take j = (i64s (marksI k n)).take j)) (fun _ i _ => n - (intOf i).toNat)
  case atStart => exact ⟨0, _, Nat.zero_le _, rfl, rfl, World.grownBy.refl w _, hown, rfl⟩
  case round =>
    obtain ⟨j, ys, hj, rfl, rfl, hgr, hown', hy⟩ := hrel
    clear hown
    by_cases hlt : j < n
    · have hyl : ys.length = n := by simpa using hown'.1
      obtain ⟨g, hA⟩ : ∃ g, A = some ⟨g, 0, none⟩ := by
        rcases hown'.2 with ⟨_, h0⟩ | ⟨g, cap, cur, e, hv, _⟩
        · omega
        · injection hv with h1; exact ⟨g, h1⟩
      subst hA
      obtain ⟨old, hold⟩ : ∃ old, wr.cell? ⟨g, j, none⟩ = some old := ⟨_, by rw [hown'.cells (g := g) rfl j (by omega)]; exact List.getElem?_eq_getElem (by omega)⟩
      have hfz := hown'.frozen (g := g) rfl j
      have ho2 := (hown'.stored (g := g) rfl j (.int .i64 ((k + j : Nat) : Int))).1
      have hg2 := grown_then hgr (hown'.stored (g := g) rfl j (.int .i64 ((k + j : Nat) : Int))).2
      have hnext := hide (take_set_i (ys := i64s (marksI k n)) (unhide hy) (i64_get (marksI_at hlt)) (by omega))
      clear hown' hgr hy hyl
      go_wp2
      go_roundw
      case rel => exact ⟨j + 1, _, by omega, by go_num, by go_num, hg2, ho2, hnext⟩
      case measure => simp [intOf]; omega
    · obtain rfl : n = j := by omega
      have hyl : ys.length = n := by simpa using hown'.1
      have hE : ys = i64s (marksI k n) := by
        have h := unhide hy
        rwa [List.take_of_length_le (by omega), List.take_of_length_le (by rw [i64_length, marksI_length]; omega)] at h
      subst hE
      have hI : Ints wr base (.slice A n c) (marksI k n) := by unfold Ints; rw [marksI_length]; exact hown'
      clear hy hyl hown'
      go_wp2
      go_ret
      exact ⟨rfl, hI, hgr⟩
theorem marki_at (A : Option Addr) (n c base k : Nat) (K : Int) (hK : K = (k : Int)) (zs : List Int) (w : World) (hown : Ints w base (.slice A n c) zs) (hkn : k + n ≤ 1099511627776) :
    Calls Try.prog 11 #[.slice A n c, .int .i64 K] w fun e w' => e = .returned (.int .i64 (K + (n : Int))) ∧
      Ints w' base (.slice A n c) (marksI k n) ∧ w.grownBy w' (Value.slice A n c).ownBlock := by
  subst hK
  refine (marki_any A n c base k zs w hown hkn).mono ?_
  rintro e w' ⟨rfl, h1, h2⟩
  exact ⟨ret_int (by omega), h1, h2⟩
set_option maxHeartbeats 800000 in
/-- heldIntS where the marks stand. -/
theorem heldi_any (A : Option Addr) (n c B k : Nat) (w : World) (hr : Reads w B A n (i64s (marksI k n))) (hkn : k + n ≤ 1099511627776) :
    Calls Try.prog 12 #[.slice A n c, .int .i64 k] w fun e w' => e = .returned (.int .i64 ((k + n : Nat) : Int)) ∧ w = w' := by
  go_enter Try.func12, Try.ntmps12
  go_wp2
  go_loop [1, 5] (fun kv i => ∃ j : Nat, j ≤ n ∧ kv = .int .i64 ((k + j : Nat) : Int) ∧ i = .int .i64 j) (fun _ i => n - (intOf i).toNat)
  case atStart => exact ⟨0, Nat.zero_le _, rfl, rfl⟩
  case round =>
    obtain ⟨j, hj, rfl, rfl⟩ := hrel
    by_cases hlt : j < n
    · obtain ⟨ad, u, rfl, had, hu, hc⟩ := hr.at_ hlt
      obtain ⟨s, hs, rfl⟩ := i64_at hu
      obtain rfl : ((k + j : Nat) : Int) = s := by rw [marksI_at hlt] at hs; exact Option.some.inj hs
      clear hu hs
      go_wp2
      go_round
      case rel => exact ⟨j + 1, by omega, by go_num, by go_num⟩
      case measure => simp [intOf]; omega
    · obtain rfl : n = j := by omega
      go_wp2
      go_ret
      exact ⟨rfl, rfl⟩
theorem heldi_at (A : Option Addr) (n c B k : Nat) (K : Int) (hK : K = (k : Int)) (w : World) (hr : Reads w B A n (i64s (marksI k n))) (hkn : k + n ≤ 1099511627776) :
    Calls Try.prog 12 #[.slice A n c, .int .i64 K] w fun e w' => e = .returned (.int .i64 (K + (n : Int))) ∧ w = w' := by
  subst hK
  refine (heldi_any A n c B k w hr hkn).mono ?_
  rintro e w' ⟨rfl, h1⟩
  exact ⟨ret_int (by omega), h1⟩
end Go.Proofs.Ytknjgehcaadomaa
