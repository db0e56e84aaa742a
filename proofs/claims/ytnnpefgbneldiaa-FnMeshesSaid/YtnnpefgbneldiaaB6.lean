/-
  Words and contracts that the laws lean on, bundled: Strs, Draw, DrawI, Fresh, DrawL, Cmp, Put, Rev, OccS.
-/
import Derived.Test.YtnnpefgbneldiaaProg
import Derived.Test.YtnnpefgbneldiaaB2
import Derived.WalkKit
import Derived.Deep.QuietTactic
import Derived.BigQuiet
import Derived.Deep.RegionHeld3
import Derived.Laws.BitsAllLaws
import Derived.Test.YtnnpefgbneldiaaB3
import Derived.Test.YtnnpefgbneldiaaB4
import Derived.Test.YtnnpefgbneldiaaB1
import Derived.Sort.Grow
import Derived.Outline
import Derived.Lib.SliceRun

/-
  CONTRACTS OF THE LAWS' HELPERS OVER []string THAT ONLY READ: szStringS, eqStringS.
-/

namespace Go.Proofs.Ytnnpefgbneldiaa
set_option maxRecDepth 100000
open Go.RowKit

def szGo : Int → List ByteArray → Int
  | l, [] => l
  | l, s :: r => if l - s.size < 0 then -1 else szGo (l - s.size) r

theorem strs_at {ss : List ByteArray} {k : Nat} {u : Value} (h : (ss.map Value.string)[k]? = some u) : ∃ s, ss[k]? = some s ∧ u = .string s := by
  rw [List.getElem?_map] at h
  cases hs : ss[k]? with
  | none => simp [hs] at h
  | some s => simp [hs] at h; exact ⟨s, rfl, h.symm⟩
theorem drop_at {α : Type} {l : List α} {k : Nat} {x : α} (h : l[k]? = some x) : l.drop k = x :: l.drop (k + 1) := by
  obtain ⟨hk, rfl⟩ := List.getElem?_eq_some_iff.1 h
  exact List.drop_eq_getElem_cons hk

theorem below_set_own {B : Nat} {w w' : World} {e : TypeId} {size : Nat} {g cap n : Nat} {xs : List Value} (hb : Below B w w') (hown : w'.ownsRow B e size (.slice (some ⟨g, 0, none⟩) n cap) n xs) (j : Nat) (u : Value) : Below B w (w'.setCell ⟨g, j, none⟩ u) :=
  hb.setCell (hown.lt g rfl).1 _

theorem strInfo : (Try.prog.info? 9).map (fun i => (i.zero, i.size, i.bytes)) = some (some (.string ByteArray.empty), 1, 16) := by kernel_rfl

theorem take_set_eq {α : Type} {xs ys : List α} {k : Nat} {u : α} (h : xs.take k = ys.take k) (hu : ys[k]? = some u) (hl : k < xs.length) : (xs.set k u).take (k + 1) = ys.take (k + 1) := by
  rw [List.take_add_one, List.take_add_one, List.take_set_of_le (Nat.le_refl _), h]
  simp [hu, hl]

end Go.Proofs.Ytnnpefgbneldiaa


/-
  THE CURSOR OVER A DRAW (l1New, l1Byte, l1Below, l1Once, l1Pick, l1PickInt), by contracts: whatever is drawn lies in its range; nothing but the cursor's own block turns.
-/

namespace Go.Proofs.Ytnnpefgbneldiaa
set_option maxRecDepth 100000
open Go.RowKit

/-- A block that is known whole. -/
def Blk (w : World) (g : Nat) (t : TypeId) (cs : Array Value) : Prop := w.heap[g]? = some (.cells cs t (0, 0))
section
variable {w w' : World} {g : Nat} {t : TypeId} {cs : Array Value}
theorem Blk.lt (h : Blk w g t cs) : g < w.heap.size := by
  rcases Nat.lt_or_ge g w.heap.size with hlt | hge
  · exact hlt
  · unfold Blk at h; rw [Array.getElem?_eq_none hge] at h; cases h
theorem Blk.cell (h : Blk w g t cs) (i : Nat) : w.cell? ⟨g, i, none⟩ = cs[i]? := cell_of_row w g i cs t (0, 0) h
theorem Blk.frozen (h : Blk w g t cs) (i : Nat) : w.frozen? ⟨g, i, none⟩ = false := by
  unfold Blk at h
  simp [World.frozen?, h]
theorem Blk.new (w : World) (t : TypeId) (cs : Array Value) : Blk (w.alloc (.cells cs t)) w.heap.size t cs := heap_alloc_new w _
theorem Blk.drewN (h : Blk w g t cs) (n : Nat) : Blk (w.drewN n) g t cs := h
theorem Blk.alloc (h : Blk w g t cs) (o : Obj) : Blk (w.alloc o) g t cs := (Below.heap_alloc w o g h.lt).trans h
theorem Blk.set_ (h : Blk w g t cs) (i : Nat) (u : Value) : Blk (w.setCell ⟨g, i, none⟩ u) g t (cs.setIfInBounds i u) := by
  unfold Blk at h ⊢
  simp [World.setCell, Array.getElem?_modify, h]
theorem Blk.grown {row : Option Nat} (h : Blk w g t cs) (hb : w.grownBy w' row) (hg : some g ≠ row) : Blk w' g t cs := (hb.block g h.lt hg).trans h
theorem Blk.below (h : Blk w g t cs) (hb : Below w.heap.size w w') : Blk w' g t cs := h.grown (grown_of_below hb none) (by simp)
end

/-- THE CURSOR: block cb holds the bytes' slice, the place, the mixed number. -/
def Cur (w : World) (B cb : Nat) : Prop := ∃ (A : Option Addr) (n c k : Nat) (bs : List UInt8) (h : Int),
  Blk w cb 89 #[.slice A n c, .int .i64 k, .int .i64 h] ∧ Reads w B A n (u8s bs) ∧ n ≤ 1048576 ∧ k ≤ n ∧ B ≤ cb
theorem Cur.keep {w w' : World} {B cb : Nat} (h : Cur w B cb) (hg : w.grownBy w' none) : Cur w' B cb := by
  obtain ⟨A, n, c, k, bs, x, hb, hr, hn, hk, hB⟩ := h
  exact ⟨A, n, c, k, bs, x, hb.grown hg (by simp), hr.grown hg (by have := hb.lt; omega) (by simp), hn, hk, hB⟩
theorem Cur.below {w w' : World} {B cb : Nat} (h : Cur w B cb) (hg : Below w.heap.size w w') : Cur w' B cb := h.keep (grown_of_below hg none)
theorem Cur.drewN {w : World} {B cb : Nat} (h : Cur w B cb) (n : Nat) : Cur (w.drewN n) B cb := h
theorem Cur.lt {w : World} {B cb : Nat} (h : Cur w B cb) : cb < w.heap.size := by
  obtain ⟨_, _, _, _, _, _, hb, _⟩ := h
  exact hb.lt

/-- What a draw leaves. -/
def Drawn (B cb : Nat) (w : World) (P : Value → Prop) (e : Ending) (w' : World) : Prop := ∃ v, e = .returned v ∧ P v ∧ Cur w' B cb ∧ w.grownBy w' (some cb)
def IntIn (lo hi : Int) (v : Value) : Prop := ∃ x : Int, v = .int .i64 x ∧ lo ≤ x ∧ x ≤ hi

theorem and255 (x : Int) : 0 ≤ bits .and .i64 x 255 ∧ bits .and .i64 x 255 ≤ 255 := by
  have h : (BitVec.ofInt 64 x &&& BitVec.ofInt 64 255).toNat ≤ 255 := by
    rw [BitVec.toNat_and]
    exact Nat.le_trans Nat.and_le_right (by decide)
  show 0 ≤ IntKind.i64.wrap ((BitVec.ofInt 64 x &&& BitVec.ofInt 64 255).toNat : Int) ∧ IntKind.i64.wrap ((BitVec.ofInt 64 x &&& BitVec.ofInt 64 255).toNat : Int) ≤ 255
  rw [IntKind.wrap_i64]
  omega
theorem grown_set {w : World} {g : Nat} (i : Nat) (u : Value) : w.grownBy (w.setCell ⟨g, i, none⟩ u) (some g) :=
  ⟨rfl, rfl, rfl, by simp, fun k _ hk => heap_setCell_other w ⟨g, i, none⟩ k u (fun e => hk (by simp [e]))⟩
theorem grown_drewN {a w : World} {row : Option Nat} (h : a.grownBy w row) (n : Nat) : a.grownBy (w.drewN n) row := ⟨h.os, h.tape, h.output, h.size, h.block⟩

theorem cur_byte {w : World} {B cb n c k : Nat} {A : Option Addr} {bs : List UInt8} {h : Int} (hb : Blk w cb 89 #[.slice A n c, .int .i64 k, .int .i64 h]) (hr : Reads w B A n (u8s bs)) (hn : n ≤ 1048576) (hk : k + 1 ≤ n) (hB : B ≤ cb) (h' : Int) (m : Nat) :
    Cur (((w.setCell ⟨cb, 2, none⟩ (.int .i64 h')).drewN m).setCell ⟨cb, 1, none⟩ (.int .i64 ((k : Int) + 1))) B cb := by
  refine ⟨A, n, c, k + 1, bs, h', ?_, ?_, hn, hk, hB⟩
  · exact ((hb.set_ 2 (.int .i64 h')).drewN m).set_ 1 (.int .i64 ((k : Int) + 1))
  · exact ((hr.setCell (p := ⟨cb, 2, none⟩) hB _).drewN m).setCell (p := ⟨cb, 1, none⟩) hB _
theorem cur_past {w : World} {B cb n c k : Nat} {A : Option Addr} {bs : List UInt8} {h : Int} (hb : Blk w cb 89 #[.slice A n c, .int .i64 k, .int .i64 h]) (hr : Reads w B A n (u8s bs)) (hn : n ≤ 1048576) (hk : k ≤ n) (hB : B ≤ cb) (h' : Int) (m : Nat) :
    Cur ((w.setCell ⟨cb, 2, none⟩ (.int .i64 h')).drewN m) B cb := by
  refine ⟨A, n, c, k, bs, h', ?_, ?_, hn, hk, hB⟩
  · exact (hb.set_ 2 (.int .i64 h')).drewN m
  · exact (hr.setCell (p := ⟨cb, 2, none⟩) hB _).drewN m

set_option maxRecDepth 100000 in
set_option maxHeartbeats 800000 in
theorem byte_any (B cb : Nat) (w : World) (hc : Cur w B cb) : Calls Try.prog 92 #[.pointer (some ⟨cb, 0, none⟩)] w (Drawn B cb w (IntIn 0 255)) := by
  obtain ⟨A, n, c, k, bs, h, hb, hr, hn, hk, hB⟩ := hc
  have c0 : w.cell? ⟨cb, 0, none⟩ = some (.slice A n c) := hb.cell 0
  have c1 : w.cell? ⟨cb, 1, none⟩ = some (.int .i64 k) := hb.cell 1
  have c2 : w.cell? ⟨cb, 2, none⟩ = some (.int .i64 h) := hb.cell 2
  have f1 := hb.frozen 1
  have f2 := hb.frozen 2
  by_cases hlt : k < n
  · obtain ⟨ad, u, rfl, had, hu, hx⟩ := hr.at_ hlt
    obtain ⟨b, hbk, rfl⟩ := u8_at hu
    have hx2 : ∀ v, (w.setCell ⟨cb, 2, none⟩ v).cell? (ad.add k) = some (.int .u8 b.toNat) := fun v => by
      rw [World.cell?_setCell_other w _ _ _ (fun e => by have := congrArg Addr.block e; rw [block_of_add] at this; simp at this; omega)]
      exact hx
    clear hu hx hbk
    have HB := hide hb
    have HR := hide hr
    clear hb hr
    go_enter Try.func92, Try.ntmps92
    go_wp2
    go_quiet (fail)
    go_wp2
    go_quiet (fail)
    go_wp2
    go_quiet (fail)
    go_wp2
    go_ret
    exact ⟨_, rfl, ⟨_, rfl, (and255 _).1, (and255 _).2⟩, cur_byte (unhide HB) (unhide HR) hn hlt hB _ _, grown_then (grown_drewN (grown_set 2 _) _) (grown_set 1 _)⟩
  · have HB := hide hb
    have HR := hide hr
    clear hb hr
    go_enter Try.func92, Try.ntmps92
    go_wp2
    go_quiet (fail)
    go_wp2
    go_quiet (fail)
    go_wp2
    go_ret
    exact ⟨_, rfl, ⟨_, rfl, (and255 _).1, (and255 _).2⟩, (cur_past (unhide HB) (unhide HR) hn hk hB _ _).drewN _, grown_drewN (grown_drewN (grown_set 2 _) _) _⟩

set_option maxRecDepth 100000 in
set_option maxHeartbeats 800000 in
/-- l1Below: 0 to n - 1; 0 where n is not above 0. -/
theorem below_any (B cb : Nat) (n : Int) (hn : n ≤ 1073741824) (w : World) (hc : Cur w B cb) :
    Calls Try.prog 57 #[.pointer (some ⟨cb, 0, none⟩), .int .i64 n] w (Drawn B cb w (IntIn 0 (if 0 < n then n - 1 else 0))) := by
  have H := hide (fun w hc => byte_any B cb w hc)
  have HC := hide hc
  clear hc
  by_cases h0 : 0 < n
  · rw [if_pos h0]
    by_cases h1 : n ≤ 256
    · go_enter Try.func57, Try.ntmps57
      go_wp2_with fail
      refine (unhide H _ (unhide HC)).mono ?_
      rintro e w1 ⟨v, rfl, ⟨x, rfl, hx0, hx1⟩, hc1, hg1⟩
      have HC1 := hide hc1
      have HG1 := hide hg1
      clear hc1 hg1
      have hm0 : 0 ≤ x % n := Int.emod_nonneg _ (by omega)
      have hm1 : x % n ≤ n - 1 := by have := Int.emod_lt_of_pos x h0; omega
      go_wp2
      go_ret
      exact ⟨_, rfl, ⟨_, rfl, hm0, hm1⟩, unhide HC1, unhide HG1⟩
    · go_enter Try.func57, Try.ntmps57
      go_wp2_with fail
      refine (unhide H _ (unhide HC)).mono ?_
      rintro e w1 ⟨v, rfl, ⟨x, rfl, hx0, hx1⟩, hc1, hg1⟩
      have HC1 := hide hc1
      have HG1 := hide hg1
      clear hc1 hg1
      go_wp2_with fail
      refine (unhide H _ (unhide HC1)).mono ?_
      rintro e w2 ⟨v, rfl, ⟨y, rfl, hy0, hy1⟩, hc2, hg2⟩
      have HC2 := hide hc2
      have HG2 := hide (grown_then (unhide HG1) hg2)
      clear hc2 hg2
      go_wp2_with fail
      refine (unhide H _ (unhide HC2)).mono ?_
      rintro e w3 ⟨v, rfl, ⟨z, rfl, hz0, hz1⟩, hc3, hg3⟩
      have HC3 := hide hc3
      have HG3 := hide (grown_then (unhide HG2) hg3)
      clear hc3 hg3
      go_wp2_with fail
      refine (unhide H _ (unhide HC3)).mono ?_
      rintro e w4 ⟨v, rfl, ⟨u, rfl, hu0, hu1⟩, hc4, hg4⟩
      have HC4 := hide hc4
      have HG4 := hide (grown_then (unhide HG3) hg4)
      clear hc4 hg4
      have hm0 : 0 ≤ (x * 16777216 + y * 65536 + z * 256 + u) % n := Int.emod_nonneg _ (by omega)
      have hm1 : (x * 16777216 + y * 65536 + z * 256 + u) % n ≤ n - 1 := by have := Int.emod_lt_of_pos (x * 16777216 + y * 65536 + z * 256 + u) h0; omega
      go_wp2
      go_ret
      exact ⟨_, rfl, ⟨_, rfl, hm0, hm1⟩, unhide HC4, unhide HG4⟩
  · rw [if_neg h0]
    go_enter Try.func57, Try.ntmps57
    go_wp2
    go_ret
    exact ⟨_, rfl, ⟨_, rfl, Int.le_refl _, Int.le_refl _⟩, unhide HC, World.grownBy.refl _ _⟩

def IsBool (v : Value) : Prop := ∃ b : Bool, v = .bool b
def StrOf (ss : List ByteArray) (v : Value) : Prop := ∃ s, s ∈ ss ∧ v = .string s

theorem once_any (B cb : Nat) (n : Int) (hn : n ≤ 1073741824) (w : World) (hc : Cur w B cb) :
    Calls Try.prog 59 #[.pointer (some ⟨cb, 0, none⟩), .int .i64 n] w (Drawn B cb w IsBool) := by
  have H := hide (below_any B cb n hn w hc)
  clear hc
  go_enter Try.func59, Try.ntmps59
  go_wp2_with fail
  refine (unhide H).mono ?_
  rintro e w1 ⟨v, rfl, ⟨x, rfl, hx0, hx1⟩, hc1, hg1⟩
  have HC1 := hide hc1
  have HG1 := hide hg1
  clear hc1 hg1 hx0 hx1 H
  go_wp2
  go_ret
  exact ⟨_, rfl, ⟨_, rfl⟩, unhide HC1, unhide HG1⟩

def IntOf (zs : List Int) (v : Value) : Prop := ∃ z, z ∈ zs ∧ v = .int .i64 z
set_option maxHeartbeats 800000 in
theorem pickInt_any (B cb g : Nat) (n c : Nat) (zs : List Int) (w : World) (hc : Cur w B cb) (hl : Blk w g 3 (zs.map (Value.int .i64)).toArray) (hne : g ≠ cb) (hn : zs.length = n) (h0 : 0 < n) (h1 : n ≤ 1048576) :
    Calls Try.prog 64 #[.pointer (some ⟨cb, 0, none⟩), .slice (some ⟨g, 0, none⟩) n c] w (Drawn B cb w (IntOf zs)) := by
  have H := hide (below_any B cb n (by omega) w hc)
  have HL := hide hl
  have HN := hide hn
  clear hc hl hn
  go_enter Try.func64, Try.ntmps64
  go_wp2_with fail
  refine (unhide H).mono ?_
  rintro e w1 ⟨v, rfl, ⟨x, rfl, hx0, hx1⟩, hc1, hg1⟩
  rw [if_pos (by omega)] at hx1
  obtain ⟨k, rfl⟩ : ∃ k : Nat, x = k := ⟨x.toNat, by omega⟩
  have hk : k < n := by omega
  have hcell : w1.cell? ⟨g, k, none⟩ = some (.int .i64 (zs[k]'(by have := unhide HN; omega))) := by
    rw [((unhide HL).grown hg1 (by simp; omega)).cell k]
    simp [show k < zs.length by have := unhide HN; omega]
  have hmem : zs[k]'(by have := unhide HN; omega) ∈ zs := List.getElem_mem _
  generalize zs[k]'(by have := unhide HN; omega) = z at hcell hmem
  have HM := hide hmem
  have HC1 := hide hc1
  have HG1 := hide hg1
  clear hc1 hg1 hmem H
  go_wp2
  go_ret
  exact ⟨_, rfl, ⟨_, unhide HM, rfl⟩, unhide HC1, unhide HG1⟩

/-- A new cursor. -/
def NewCur (B : Nat) (w : World) (e : Ending) (w' : World) : Prop := ∃ cb, e = .returned (.pointer (some ⟨cb, 0, none⟩)) ∧ w.heap.size ≤ cb ∧ Cur w' B cb ∧ Below w.heap.size w w'
set_option maxRecDepth 100000 in
set_option maxHeartbeats 800000 in
theorem new_any (A : Option Addr) (n c B : Nat) (bs : List UInt8) (w : World) (hr : Reads w B A n (u8s bs)) (hn : n ≤ 1048576) (hB : B ≤ w.heap.size) :
    Calls Try.prog 56 #[.slice A n c] w (NewCur B w) := by
  go_enter Try.func56, Try.ntmps56
  go_wp2
  go_loop [3, 4] (fun hv i => ∃ (k : Nat) (x : Int), k ≤ n ∧ i = .int .i64 k ∧ hv = .int .i64 x) (fun _ i => n - (intOf i).toNat)
  case atStart => exact ⟨0, _, Nat.zero_le _, rfl, rfl⟩
  case round =>
    obtain ⟨k, x, hk, rfl, rfl⟩ := hrel
    by_cases hlt : k < n
    · obtain ⟨ad, u, rfl, had, hu, hx⟩ := hr.at_ hlt
      obtain ⟨b, hbk, rfl⟩ := u8_at hu
      clear hu hbk
      by_cases h4 : k < 4000
      · go_wp2
        go_round
        case rel => exact ⟨k + 1, _, by omega, by go_num, rfl⟩
        case measure => simp [intOf]; omega
      · go_wp2
        go_ret
        exact ⟨w.heap.size, rfl, Nat.le_refl _, ⟨some ad, n, c, 0, bs, x, Blk.new _ _ _, hr.alloc hB _, hn, Nat.zero_le _, hB⟩, (Below.refl _ _).alloc (Nat.le_refl _) _⟩
    · go_wp2
      go_ret
      exact ⟨w.heap.size, rfl, Nat.le_refl _, ⟨A, n, c, 0, bs, x, Blk.new _ _ _, hr.alloc hB _, hn, Nat.zero_le _, hB⟩, (Below.refl _ _).alloc (Nat.le_refl _) _⟩
end Go.Proofs.Ytnnpefgbneldiaa


/-
  DRAWS OF ROWS OF INTEGERS: spec.l2Draw, spec.l2Any, spec.l2Bent, by their contracts.
-/

namespace Go.Proofs.Ytnnpefgbneldiaa
set_option maxRecDepth 100000
open Go.RowKit

/-- What a call that draws has done so far: the cursor stands in block cb; of the blocks that were there the cursor's alone may have turned. -/
structure Side (B cb : Nat) (w wr : World) : Prop where
  cur : Cur wr B cb
  lt : cb < w.heap.size
  gr : w.grownBy wr (some cb)
theorem Cur.base {w : World} {B cb : Nat} (h : Cur w B cb) : B ≤ cb := by
  obtain ⟨_, _, _, _, _, _, _, _, _, _, hB⟩ := h
  exact hB
theorem Side.start {B cb : Nat} {w : World} (h : Cur w B cb) : Side B cb w w := ⟨h, h.lt, World.grownBy.refl w _⟩
theorem Side.size {B cb : Nat} {w wr : World} (h : Side B cb w wr) : w.heap.size ≤ wr.heap.size := h.gr.size
theorem Cur.low {w w' : World} {B cb L : Nat} (h : Cur w B cb) (hL : cb < L) (hb : Below L w w') : Cur w' B cb := by
  obtain ⟨A, n, c, k, bs, x, h1, hr, hn, hk, hB⟩ := h
  exact ⟨A, n, c, k, bs, x, (hb.block cb hL).trans h1, hr.below (hb.mono (by omega)), hn, hk, hB⟩
/-- Work of the call's own. -/
theorem Side.low {B cb : Nat} {w wr w' : World} (h : Side B cb w wr) (hb : Below w.heap.size wr w') : Side B cb w w' :=
  ⟨h.cur.low h.lt hb, h.lt, ⟨hb.os.trans h.gr.os, hb.tape.trans h.gr.tape, hb.output.trans h.gr.output, Nat.le_trans h.gr.size hb.size, fun i hi hne => (hb.block i hi).trans (h.gr.block i hi hne)⟩⟩
theorem Side.below {B cb : Nat} {w wr w' : World} (h : Side B cb w wr) (hb : Below wr.heap.size wr w') : Side B cb w w' := h.low (hb.mono h.size)
/-- A draw. -/
theorem Side.drawn {B cb : Nat} {w wr w' : World} (h : Side B cb w wr) (hc : Cur w' B cb) (hg : wr.grownBy w' (some cb)) : Side B cb w w' := ⟨hc, h.lt, grown_then h.gr hg⟩
theorem own_drawn {w w' : World} {B cb n : Nat} {e : TypeId} {v : Value} {xs : List Value} (h : w.ownsRow B e 1 v n xs) (hg : w.grownBy w' (some cb)) (hc : cb < B) : w'.ownsRow B e 1 v n xs := by
  refine h.kept hg ?_
  cases hv : v.ownBlock with
  | none => exact .inl rfl
  | some k => exact .inr (fun e => by have := (h.lt k hv).1; injection e with e; omega)
theorem Ints.drawn {w w' : World} {B cb : Nat} {v : Value} {zs : List Int} (h : Ints w B v zs) (hg : w.grownBy w' (some cb)) (hc : cb < B) : Ints w' B v zs := by
  refine h.kept hg ?_
  cases hv : v.ownBlock with
  | none => exact .inl rfl
  | some k => exact .inr (fun e => by have := h.since k hv; injection e with e; omega)
theorem Inner.drawn {w w' : World} {B cb : Nat} {vs : List Value} {zss : List (List Int)} (h : Inner w B vs zss) (hg : w.grownBy w' (some cb)) (hc : cb < B) : Inner w' B vs zss :=
  ⟨h.len, fun i u zs hu hz => (h.row i u zs hu hz).drawn hg hc, h.away⟩
theorem IntsS.drawn {w w' : World} {B cb : Nat} {v : Value} {zss : List (List Int)} (h : IntsS w B v zss) (hg : w.grownBy w' (some cb)) (hc : cb < B) : IntsS w' B v zss := by
  obtain ⟨vs, h1, h2⟩ := h
  exact ⟨vs, own_drawn h1 hg hc, h2.drawn hg hc⟩

/-- What is drawn is short and its numbers have 64 bits. -/
def Lite (L : Nat) (zs : List Int) : Prop := zs.length ≤ L ∧ Small zs
/-- A row that was drawn, with room to grow. -/
def DrawnO (B cb : Nat) (w : World) (L : Nat) (e : Ending) (w' : World) : Prop :=
  ∃ A c zs, e = .returned (.slice A zs.length c) ∧ Lite L zs ∧ w'.ownsRow w.heap.size 3 1 (.slice A zs.length c) zs.length (i64s zs) ∧ Cur w' B cb ∧ w.grownBy w' (some cb)
/-- .. of a known length. -/
def DrawnE (B cb : Nat) (w : World) (L : Nat) (e : Ending) (w' : World) : Prop :=
  ∃ A c zs, e = .returned (.slice A L c) ∧ zs.length = L ∧ Small zs ∧ w'.ownsRow w.heap.size 3 1 (.slice A L c) L (i64s zs) ∧ Cur w' B cb ∧ w.grownBy w' (some cb)
theorem DrawnE.mk {B cb L : Nat} {w w' : World} {v : Value} {zs : List Int} (hI : w'.ownsRow w.heap.size 3 1 v L (i64s zs)) (hn : zs.length = L) (hl : Small zs) (h : Side B cb w w') : DrawnE B cb w L (.returned v) w' := by
  obtain ⟨A, c, rfl, _⟩ := Reads.of_own hI
  exact ⟨A, c, zs, rfl, hn, hl, hI, h.cur, h.gr⟩
theorem DrawnO.mk {B cb L : Nat} {w w' : World} {v : Value} {zs : List Int} (hI : w'.ownsRow w.heap.size 3 1 v zs.length (i64s zs)) (hl : Lite L zs) (h : Side B cb w w') : DrawnO B cb w L (.returned v) w' := by
  obtain ⟨A, c, rfl, _⟩ := Reads.of_own hI
  exact ⟨A, c, zs, rfl, hl, hI, h.cur, h.gr⟩
/-- A row that was drawn. -/
def DrawnI (B cb : Nat) (w : World) (L : Nat) (e : Ending) (w' : World) : Prop :=
  ∃ A c zs, e = .returned (.slice A zs.length c) ∧ Lite L zs ∧ Ints w' w.heap.size (.slice A zs.length c) zs ∧ Cur w' B cb ∧ w.grownBy w' (some cb)
theorem DrawnI.mk {B cb L : Nat} {w w' : World} {v : Value} {zs : List Int} (hI : Ints w' w.heap.size v zs) (hl : Lite L zs) (h : Side B cb w w') : DrawnI B cb w L (.returned v) w' := by
  obtain ⟨A, c, rfl⟩ := hI.slice
  exact ⟨A, c, zs, rfl, hl, hI, h.cur, h.gr⟩
theorem Lite.more {L L' : Nat} {zs : List Int} (h : Lite L zs) (hL : L ≤ L') : Lite L' zs := ⟨Nat.le_trans h.1 hL, h.2⟩
theorem Lite.arg {w : World} {B n c L : Nat} {A : Option Addr} {zs : List Int} (h : Lite L zs) (hI : Ints w B (.slice A n c) zs) (hL : L ≤ 1048576) : Arg w w.heap.size A n c zs :=
  hI.arg (by have := hI.len; have := h.1; omega) hI.cap h.2
theorem small_nil : Small [] := fun z hz => by simp at hz
theorem small_put {zs : List Int} {at_ : Nat} {k : Int} (h : Small zs) (hk : -9223372036854775808 ≤ k ∧ k ≤ 9223372036854775807) : Small (zs.take at_ ++ [k] ++ zs.drop at_) := fun z hz => by
  rcases List.mem_append.1 hz with hz | hz
  · rcases List.mem_append.1 hz with hz | hz
    · exact h z (List.mem_of_mem_take hz)
    · rw [List.mem_singleton] at hz; subst hz; exact hk
  · exact h z (List.mem_of_mem_drop hz)

theorem own_base {w : World} {B B' n : Nat} {e : TypeId} {v : Value} {xs : List Value} (h : w.ownsRow B e 1 v n xs) (hB : B' ≤ B) : w.ownsRow B' e 1 v n xs := by
  refine ⟨h.1, ?_⟩
  rcases h.2 with h2 | ⟨g, cap, cur, e, hb, h2⟩
  · exact .inl h2
  · exact .inr ⟨g, cap, cur, e, Nat.le_trans hB hb, h2⟩
theorem take_i64 (zs : List Int) (s : Nat) : (i64s zs).take s = i64s (zs.take s) := by unfold i64s; rw [List.map_take]
theorem drop_i64 (zs : List Int) (s : Nat) : (i64s zs).drop s = i64s (zs.drop s) := by unfold i64s; rw [List.map_drop]
theorem i64_snoc2 (xs : List Int) (z : Int) : i64s xs ++ [Value.int .i64 z] = i64s (xs ++ [z]) := by unfold i64s; simp

set_option maxHeartbeats 1600000 in
theorem l2drawE_any (B cb m : Nat) (hm : m ≤ 16) (w : World) (hc : Cur w B cb) :
    Calls Try.prog 60 #[.pointer (some ⟨cb, 0, none⟩), .int .i64 m] w (DrawnE B cb w m) := by
  obtain ⟨i0, hi, hz0, hz1, hz2⟩ := info_parts intInfo
  have hS0 := Side.start hc
  have hst := own0 w w.heap.size (Nat.le_refl _)
  have hS := hS0.below ((Below.refl w.heap.size w).alloc (Nat.le_refl _) (.cells #[] 3))
  clear hS0 hc
  go_enter Try.func60, Try.ntmps60
  go_wp2
  go_loopw [5, 6, 7, 8] (fun v i _ _ wr => ∃ (k : Nat) (zs : List Int) (g cap : Nat), k ≤ m ∧ i = .int .i64 ((k : Int) + 1) ∧ v = .slice (some ⟨g, 0, none⟩) k cap ∧ zs.length = k ∧ k ≤ cap ∧ w.heap.size ≤ g ∧ Hid (Small zs) ∧ Side B cb w wr ∧ wr.ownsRow w.heap.size 3 1 (.slice (some ⟨g, 0, none⟩) k cap) k (i64s zs)) (fun _ i _ _ _ => m + 1 - (intOf i).toNat)
  case atStart => exact ⟨0, [], w.heap.size, 0, Nat.zero_le _, rfl, rfl, rfl, Nat.le_refl _, Nat.le_refl _, small_nil, hS, hst⟩
  case round =>
    obtain ⟨k, zs, g, cap, hk, rfl, rfl, hzl, hkc, hgb, hsm, hS, hown⟩ := hrel
    clear hst
    by_cases hlt : k < m
    · have H1 := hide (below_any B cb ((k : Int) + 1) (by omega) wr hS.cur)
      have hlt' : (k : Int) + 1 ≤ (m : Int) := by omega
      have HZL := hide hzl
      clear hzl
      go_wp2_with fail
      refine (unhide H1).mono ?_
      rintro e w1 ⟨v, rfl, ⟨x, rfl, hx0, hx1⟩, hc1, hg1⟩
      rw [if_pos (by omega)] at hx1
      obtain ⟨s, rfl⟩ : ∃ s : Nat, x = s := ⟨x.toNat, by omega⟩
      have hsk : s ≤ k := by omega
      have hown1 := own_drawn hown hg1 hS.lt
      have hS1 := hS.drawn hc1 hg1
      clear H1 hown hc1 hg1 hS hx0 hx1
      by_cases hsc : s < cap
      · have hsc' : (s : Int) < (cap : Int) := by omega
        have hsk' : (s : Int) ≤ (k : Int) := by omega
        have hE := own0 w1 w1.heap.size (Nat.le_refl _)
        have hal := (Below.refl w1.heap.size w1).alloc (Nat.le_refl _) (.cells #[] 3)
        have hsz1 := hS1.size
        have hA : Arg (w1.alloc (.cells #[] 3)) w1.heap.size (some ⟨g, s, none⟩) (k - s) (cap - s) (zs.drop s) := by
          refine ⟨by rw [← drop_i64]; exact (own_rest hown1 hsk).below hal, by simp, by omega, by omega, fun z hz => unhide hsm z (List.mem_of_mem_drop hz), fun e => by cases e⟩
        go_wp2_with (first
          | (at_builtin; refine wpList_append_arg rfl (.tmp 20) (.tmp 23) rfl w1.heap.size w1.heap.size 0 (k - s) (cap - s) w1 _ (some ⟨g, s, none⟩) [] (zs.drop s) rfl rfl hE hA (by omega) hal hal.size ?_))
        intro v2 w2 hown2 hb2 hg2
        clear hE hA hal hg2
        have hown3 := own_cut (own_below hown1 hb2) hsk
        rw [take_i64] at hown3
        have hS2 := hS1.below hb2
        have hgw1 := (hown1.lt g rfl).2
        clear hown1 hS1
        go_wp2_with (first
          | (at_builtin; refine wpList_append_one rfl (.tmp 27) (.tmp 29) 24 rfl w.heap.size 3 i0 (.int .i64 0) 8 Try.underlying24 hi hz0 hz1 hz2 rfl w2 w2 _ _ _ rfl hown3 (.int .i64 ((k : Int) + 1)) rfl rfl rfl (by omega) (by unfold maxLen; omega) (Below.refl _ _) hS2.size ?_))
        intro v4 w4 hown4 hb4 hg4
        have hI2 : Ints w4 w1.heap.size v2 (zs.drop s) := by
          have h : Ints w2 w1.heap.size v2 (zs.drop s) := Ints.of_own hown2
          refine h.kept hg4 ?_
          cases hv : v2.ownBlock with
          | none => exact .inl rfl
          | some q => exact .inr (fun e => by have := h.since q hv; simp [Value.ownBlock] at e; omega)
        obtain ⟨A2, c2, rfl, _⟩ := Reads.of_own hown2
        have hdl : (zs.drop s).length = k - s := by have h := hown2.1; rw [i64_length] at h; omega
        have hA4 := hI2.arg (by omega) hI2.cap (show Small (zs.drop s) from fun z hz => unhide hsm z (List.mem_of_mem_drop hz))
        rw [i64_snoc2] at hown4
        have hS4 := hS2.low hb4
        clear hown2 hI2 hown3 hS2 hg4 hb2
        go_wp2_with (first
          | (at_builtin; refine wpList_append_arg rfl (.tmp 30) (.tmp 31) rfl w.heap.size w4.heap.size (s + 1) (k - s) c2 w4 _ A2 (zs.take s ++ [(k : Int) + 1]) (zs.drop s) rfl rfl hown4 hA4 (by omega) (Below.refl _ _) hS4.size ?_))
        intro v5 w5 hown5 hb5 hg5
        obtain ⟨g5, c5, rfl, hg5b, hc5⟩ := own_first hown5 (by omega)
        have hS5 := hS4.low hb5
        have hk1 : s + 1 + (k - s) = k + 1 := by omega
        rw [hk1] at hown5 hc5 ⊢
        have hsm5 := hide (small_put (at_ := s) (k := (k : Int) + 1) (unhide hsm) (by omega))
        have hlen5 : (zs.take s ++ [(k : Int) + 1] ++ zs.drop s).length = k + 1 := by
          have := unhide HZL
          simp only [List.length_append, List.length_take, List.length_drop, List.length_singleton]; omega
        clear hown4 hA4 hS4 hb4 hb5 hg5
        go_wp2
        go_roundw
        case rel => exact ⟨k + 1, _, g5, c5, by omega, by go_num, rfl, hlen5, hc5, hg5b, hsm5, hS5, by rw [List.append_assoc]; exact hown5⟩
        case measure => simp [intOf]; omega
      · have hsk2 : s = k := by omega
        have hkc2 : k = cap := by omega
        subst hsk2
        subst hkc2
        have hsk' : (s : Int) ≤ (s : Int) := by omega
        have hE := own0 w1 w1.heap.size (Nat.le_refl _)
        have hal := (Below.refl w1.heap.size w1).alloc (Nat.le_refl _) (.cells #[] 3)
        have hsz1 := hS1.size
        have hA : Arg (w1.alloc (.cells #[] 3)) w1.heap.size (some ⟨g, 0, none⟩) (0) (0) (zs.drop s) := by
          have hz0 : zs.drop s = [] := List.drop_of_length_le (by have := unhide HZL; omega)
          rw [hz0]
          exact ⟨⟨rfl, fun h => absurd h (by omega)⟩, by simp, by omega, by omega, small_nil, fun e => by cases e⟩
        go_wp2_with (first
          | (at_builtin; refine wpList_append_arg rfl (.tmp 20) (.tmp 23) rfl w1.heap.size w1.heap.size 0 (0) (0) w1 _ (some ⟨g, 0, none⟩) [] (zs.drop s) rfl rfl hE hA (by omega) hal hal.size ?_))
        intro v2 w2 hown2 hb2 hg2
        clear hE hA hal hg2
        have hown3 := own_cut (own_below hown1 hb2) hsk
        rw [take_i64] at hown3
        have hS2 := hS1.below hb2
        have hgw1 := (hown1.lt g rfl).2
        clear hown1 hS1
        go_wp2_with (first
          | (at_builtin; refine wpList_append_one rfl (.tmp 27) (.tmp 29) 24 rfl w.heap.size 3 i0 (.int .i64 0) 8 Try.underlying24 hi hz0 hz1 hz2 rfl w2 w2 _ _ _ rfl hown3 (.int .i64 ((s : Int) + 1)) rfl rfl rfl (by omega) (by unfold maxLen; omega) (Below.refl _ _) hS2.size ?_))
        intro v4 w4 hown4 hb4 hg4
        have hI2 : Ints w4 w1.heap.size v2 (zs.drop s) := by
          have h : Ints w2 w1.heap.size v2 (zs.drop s) := Ints.of_own hown2
          refine h.kept hg4 ?_
          cases hv : v2.ownBlock with
          | none => exact .inl rfl
          | some q => exact .inr (fun e => by have := h.since q hv; simp [Value.ownBlock] at e; omega)
        obtain ⟨A2, c2, rfl, _⟩ := Reads.of_own hown2
        have hdl : (zs.drop s).length = 0 := by have h := hown2.1; rw [i64_length] at h; omega
        have hA4 := hI2.arg (by omega) hI2.cap (show Small (zs.drop s) from fun z hz => unhide hsm z (List.mem_of_mem_drop hz))
        rw [i64_snoc2] at hown4
        have hS4 := hS2.low hb4
        clear hown2 hI2 hown3 hS2 hg4 hb2
        go_wp2_with (first
          | (at_builtin; refine wpList_append_arg rfl (.tmp 30) (.tmp 31) rfl w.heap.size w4.heap.size (s + 1) (0) c2 w4 _ A2 (zs.take s ++ [(s : Int) + 1]) (zs.drop s) rfl rfl hown4 hA4 (by omega) (Below.refl _ _) hS4.size ?_))
        intro v5 w5 hown5 hb5 hg5
        obtain ⟨g5, c5, rfl, hg5b, hc5⟩ := own_first hown5 (by omega)
        have hS5 := hS4.low hb5
        have hk1 : s + 1 + (0) = s + 1 := by omega
        rw [hk1] at hown5 hc5 ⊢
        have hsm5 := hide (small_put (at_ := s) (k := (s : Int) + 1) (unhide hsm) (by omega))
        have hlen5 : (zs.take s ++ [(s : Int) + 1] ++ zs.drop s).length = s + 1 := by
          have := unhide HZL
          simp only [List.length_append, List.length_take, List.length_drop, List.length_singleton]; omega
        clear hown4 hA4 hS4 hb4 hb5 hg5
        go_wp2
        go_roundw
        case rel => exact ⟨s + 1, _, g5, c5, by omega, by go_num, rfl, hlen5, hc5, hg5b, hsm5, hS5, by rw [List.append_assoc]; exact hown5⟩
        case measure => simp [intOf]; omega
    · obtain rfl : k = m := by omega
      have hlt' : ¬ (k : Int) + 1 ≤ (k : Int) := by omega
      have HS := hide hS
      have HZ := hide hzl
      clear hzl hS
      go_wp2
      go_ret
      exact DrawnE.mk hown (unhide HZ) (unhide hsm) (unhide HS)
theorem l2draw_any (B cb m : Nat) (hm : m ≤ 16) (w : World) (hc : Cur w B cb) :
    Calls Try.prog 60 #[.pointer (some ⟨cb, 0, none⟩), .int .i64 m] w (DrawnO B cb w m) := by
  refine (l2drawE_any B cb m hm w hc).mono ?_
  rintro e w1 ⟨A, c, zs, rfl, hl, hs, hown, hc1, hg1⟩
  refine ⟨A, c, zs, by rw [hl], ⟨by omega, hs⟩, ?_, hc1, hg1⟩
  rw [hl]
  exact hown

set_option maxHeartbeats 800000 in
theorem l2any_any (B cb : Nat) (w : World) (hc : Cur w B cb) : Calls Try.prog 93 #[.pointer (some ⟨cb, 0, none⟩)] w (DrawnO B cb w 8) := by
  have hal := (Below.refl w.heap.size w).alloc (Nat.le_refl _) (.cells ([0, 1, 2, 3, 4, 5, 5, 6, 6, 7, 8].map (Value.int .i64)).toArray 3)
  have hS := (Side.start hc).below hal
  have hne : w.heap.size ≠ cb := by have := hc.lt; omega
  have H1 := hide (pickInt_any B cb w.heap.size 11 11 [0, 1, 2, 3, 4, 5, 5, 6, 6, 7, 8] _ hS.cur (Blk.new w _ _) hne rfl (by omega) (by omega))
  clear hal hc
  simp only [List.map_cons, List.map_nil] at hS H1
  go_enter Try.func93, Try.ntmps93
  go_wp2_with fail
  refine (unhide H1).mono ?_
  rintro e w1 ⟨v, rfl, ⟨x, hx, rfl⟩, hc1, hg1⟩
  have hx8 : 0 ≤ x ∧ x ≤ 8 := by
    simp only [List.mem_cons, List.not_mem_nil, or_false] at hx
    omega
  obtain ⟨m, rfl⟩ : ∃ m : Nat, x = m := ⟨x.toNat, by omega⟩
  have hm : m ≤ 8 := by omega
  have hS1 := hS.drawn hc1 hg1
  have H2 := hide (l2draw_any B cb m (by omega) w1 hc1)
  clear H1 hx hx8 hS hc1 hg1
  go_wp2_with fail
  refine (unhide H2).mono ?_
  rintro e w2 ⟨A2, c2, zs, rfl, hl, hown, hc2, hg2⟩
  have hS2 := hS1.drawn hc2 hg2
  have hown2 := own_base hown hS1.size
  have HL := hide (hl.more hm)
  have HS := hide hS2
  clear H2 hl hc2 hg2 hS2 hown
  go_wp2
  go_ret
  exact ⟨A2, c2, zs, rfl, unhide HL, hown2, (unhide HS).cur, (unhide HS).gr⟩

set_option maxHeartbeats 1600000 in
theorem l2bent_any (B cb : Nat) (w : World) (hc : Cur w B cb) : Calls Try.prog 61 #[.pointer (some ⟨cb, 0, none⟩)] w (DrawnI B cb w 9) := by
  obtain ⟨i0, hi, hz0, hz1, hz2⟩ := info_parts intInfo
  have hS := Side.start hc
  have H1 := hide (l2any_any B cb w hc)
  clear hc
  go_enter Try.func61, Try.ntmps61
  go_wp2_with fail
  refine (unhide H1).mono ?_
  rintro e w1 ⟨A, c, zs, rfl, hl, hown, hc1, hg1⟩
  have hS1 := hS.drawn hc1 hg1
  have H2 := hide (below_any B cb 14 (by omega) w1 hc1)
  have HL := hide hl
  have hl8 := hl.1
  clear H1 hS hc1 hg1 hl
  go_wp2_with fail
  refine (unhide H2).mono ?_
  rintro e w2 ⟨v, rfl, ⟨x, rfl, hx0, hx1⟩, hc2, hg2⟩
  have hS2 := hS1.drawn hc2 hg2
  have hown2 := own_drawn hown hg2 hS1.lt
  clear H2 hown hS1 hg2
  by_cases h0 : x = 0
  · subst h0
    have H3 := hide (below_any B cb 12 (by omega) w2 hc2)
    clear hc2
    go_wp2_with fail
    refine (unhide H3).mono ?_
    rintro e w3 ⟨v, rfl, ⟨y, rfl, hy0, hy1⟩, hc3, hg3⟩
    rw [if_pos (by omega)] at hy1
    have hS3 := hS2.drawn hc3 hg3
    have hown3 := own_drawn hown2 hg3 hS2.lt
    have hsz := hS3.size
    clear H3 hown2 hS2 hc3 hg3
    go_wp2_with (first
      | (at_builtin; refine wpList_append_one rfl (.tmp 10) (.tmp 14) 24 rfl w.heap.size 3 i0 (.int .i64 0) 8 Try.underlying24 hi hz0 hz1 hz2 rfl w3 w3 _ _ _ rfl hown3 (.int .i64 (y - 1)) rfl rfl rfl (by omega) (by unfold maxLen; omega) (Below.refl _ _) hsz ?_))
    intro v4 w4 hown4 hb4 _
    rw [i64_snoc2] at hown4
    have hI : Ints w4 w.heap.size v4 (zs ++ [y - 1]) := by
      have h := hown4
      rw [show zs.length + 1 = (zs ++ [y - 1]).length by simp] at h
      exact Ints.of_own h
    have hS4 := hS3.low hb4
    have HL2 := hide (show Lite 9 (zs ++ [y - 1]) from ⟨by simp; omega, fun z hz => by
      rcases List.mem_append.1 hz with hz | hz
      · exact (unhide HL).2 z hz
      · rw [List.mem_singleton] at hz; subst hz; omega⟩)
    have HS := hide hS4
    clear hown3 hS3 hown4 hb4 hS4
    go_wp2
    go_ret
    exact DrawnI.mk hI (unhide HL2) (unhide HS)
  · have HS := hide hS2
    have HL2 := hide ((unhide HL).more (show 8 ≤ 9 by omega))
    by_cases h1 : x = 1
    · subst h1
      by_cases hlen : 0 < zs.length
      · obtain ⟨g, c', hv, hgb, hcc⟩ := own_first hown2 hlen
        injection hv with hv1 hv2 hv3
        subst hv1
        subst hv3
        have H3 := hide (below_any B cb 11 (by omega) w2 hc2)
        have hlen' : (0 : Int) < (zs.length : Int) := by omega
        clear hc2
        go_wp2_with fail
        refine (unhide H3).mono ?_
        rintro e w3 ⟨v, rfl, ⟨y, rfl, hy0, hy1⟩, hc3, hg3⟩
        rw [if_pos (by omega)] at hy1
        have hS3 := hS2.drawn hc3 hg3
        have hown3 := own_drawn hown2 hg3 hS2.lt
        obtain ⟨old, hold⟩ : ∃ old, w3.cell? ⟨g, 0, none⟩ = some old := ⟨_, by rw [hown3.cellAt 0 (by omega)]; exact List.getElem?_eq_getElem (by rw [i64_length]; exact hlen)⟩
        have hfz := hown3.frozenAt 0
        have hst := hown3.stored 0 (.int .i64 (y - 1))
        have hb4 := (Below.refl w.heap.size w3).setCell (p := ⟨g, 0, none⟩) hgb (.int .i64 (y - 1))
        have hS4 := hS3.low hb4
        have hI : Ints (w3.setCell ⟨g, 0, none⟩ (.int .i64 (y - 1))) w.heap.size (.slice (some ⟨g, 0, none⟩) zs.length c) (zs.set 0 (y - 1)) := by
          have h := hst.1
          rw [show (i64s zs).set 0 (.int .i64 (y - 1)) = i64s (zs.set 0 (y - 1)) by unfold i64s; rw [List.map_set]] at h
          have h9 := Ints.of_own (zs := zs.set 0 (y - 1)) (n := zs.length) h
          exact h9
        have HL3 := hide (show Lite 9 (zs.set 0 (y - 1)) from ⟨by rw [List.length_set]; omega, fun z hz => by
          rcases List.mem_or_eq_of_mem_set hz with hz | hz
          · exact (unhide HL).2 z hz
          · subst hz; omega⟩)
        have HS4 := hide hS4
        clear H3 hown2 hS2 hc3 hg3 hown3 hS3 hst hb4 hS4
        go_wp2
        go_ret
        exact DrawnI.mk hI (unhide HL3) (unhide HS4)
      · obtain rfl : zs = [] := List.eq_nil_of_length_eq_zero (by omega)
        have hI : Ints w2 w.heap.size (.slice A 0 c) [] := Ints.of_own hown2
        clear hown2 hc2 hS2 hlen
        go_wp2
        go_ret
        exact DrawnI.mk hI (unhide HL2) (unhide HS)
    · have hI : Ints w2 w.heap.size (.slice A zs.length c) zs := Ints.of_own hown2
      clear hown2 hc2 hS2
      go_wp2
      go_ret
      exact DrawnI.mk hI (unhide HL2) (unhide HS)
end Go.Proofs.Ytnnpefgbneldiaa


/-
  WORDS: a row that lies apart from all rows of a list; it is put behind the list, or at a place of it. Nothing here speaks of a function of the program.
-/

namespace Go.Proofs.Ytnnpefgbneldiaa
set_option maxRecDepth 100000
open Go.RowKit

/-- A list of rows and a row that lies apart from all of it. -/
def Fresh (w : World) (B : Nat) (v : Value) (zss : List (List Int)) (u : Value) : Prop := ∃ vs, w.ownsRow B 24 1 v zss.length vs ∧ Inner w B vs zss ∧ ∀ x ∈ vs, Away x u
theorem wpList_push_fresh_keep {ops : Array Oper} {rest : List Oper} {o : Oper} {a : Act} {W : World} {Q : Exit → Act → World → Prop} (hgd : o.guard = none) (sl x : Operand)
    (ho : o.op = .call { callee := .builtin .append, args := #[sl, x], argTypes := #[40, 40] })
    (base : Nat) (wr : World) (v u : Value) (zss : List (List Int)) (zs : List Int) (hs : a.eval sl = v) (hx : a.eval x = .slice (some ⟨wr.heap.size, 0, none⟩) 1 1) (hW : W = wr.alloc (.cells #[u] 24))
    (hS : Fresh wr base v zss u) (hu : Ints wr base u zs) (hn : zss.length ≤ 1048576) (hbase : base ≤ wr.heap.size)
    (K : ∀ v' w', IntsS w' base v' (zss ++ [zs]) → Below base wr w' → KeepI wr w' → wpList Try.prog ops Q rest (a.put o.dst v') w') : wpList Try.prog ops Q (o :: rest) a W := by
  obtain ⟨i0, hi, hz0, hz1, hz2⟩ := info_parts rowsInfo
  obtain ⟨vs, hown, hin, ha⟩ := hS
  obtain ⟨A1, c1, rfl⟩ := hu.slice
  refine wpList_append_one hgd sl x 40 ho base 24 i0 (.slice none 0 0) 24 Try.underlying40 hi hz0 hz1 hz2 rfl wr wr v _ _ hs hown _ hx hW rfl (by omega) (by unfold maxLen; omega) (Below.refl _ _) hbase fun v' w' h1 h2 h3 => K v' w' ?_ h2 (KeepI.of_grown hown h3)
  have hk := KeepI.of_grown hown h3
  refine ⟨vs ++ [.slice A1 zs.length c1], by rw [List.length_append]; exact h1, ?_⟩
  exact (hin.keepI hk).push (hu.keepI hk) ha

theorem IntsS.putFresh {w : World} {B g n cap k : Nat} {zss : List (List Int)} {z : List Int} {u : Value} (h : Fresh w B (.slice (some ⟨g, 0, none⟩) n cap) zss u) (hu : Ints w B u z) :
    IntsS (w.setCell ⟨g, k, none⟩ u) B (.slice (some ⟨g, 0, none⟩) n cap) (zss.set k z) ∧ KeepI w (w.setCell ⟨g, k, none⟩ u) := by
  obtain ⟨vs, h2, h3, ha⟩ := h
  have hl : n = zss.length := by
    rcases h2.2 with ⟨hv, hz⟩ | ⟨g', cap', cur, hv, _⟩
    · injection hv with _ h3; omega
    · injection hv
  subst hl
  have st := h2.stored k u
  have hk := KeepI.of_grown h2 st.2
  refine ⟨⟨vs.set k u, by rw [List.length_set]; exact st.1, ?_⟩, hk⟩
  exact (h3.keepI hk).set k (hu.keepI hk) ha
/-- A list of two rows that was just built. -/
theorem IntsS.two {w : World} {B : Nat} {u v : Value} {p q : List Int} (hp : Ints w B u p) (hq : Ints w B v q) (ha : Away u v) (hB : B ≤ w.heap.size) :
    IntsS (w.alloc (.cells #[u, v] 24)) B (.slice (some ⟨w.heap.size, 0, none⟩) 2 2) [p, q] := by
  have hal := (Below.refl w.heap.size w).alloc (Nat.le_refl _) (.cells #[u, v] 24)
  refine ⟨[u, v], ⟨rfl, .inr ⟨w.heap.size, 2, #[u, v], rfl, hB, heap_alloc_new w _, Nat.le_refl _, by unfold maxLen; omega, rfl, rfl⟩⟩, ?_⟩
  have h1 := (Inner.nil (w.alloc (.cells #[u, v] 24)) B).push (hp.below hal) (fun x hx => by simp at hx)
  exact h1.push (hq.below hal) (fun x hx => by simp at hx; subst hx; exact ha)
theorem away_since {w : World} {B : Nat} {u v : Value} {zs : List Int} (hu : Ints w B u zs) (hv : Since w.heap.size v) : Away u v := by
  unfold Away
  cases h : u.ownBlock with
  | none => exact .inl rfl
  | some k =>
    refine .inr fun e => ?_
    have h1 := hv k e.symm
    have h2 := hu.until_ k h
    omega

theorem Fresh.two {w : World} {B : Nat} {u v r : Value} {p q : List Int} (hp : Ints w B u p) (hq : Ints w B v q) (ha : Away u v) (hr1 : Away u r) (hr2 : Away v r) (hB : B ≤ w.heap.size) :
    Fresh (w.alloc (.cells #[u, v] 24)) B (.slice (some ⟨w.heap.size, 0, none⟩) 2 2) [p, q] r := by
  have hal := (Below.refl w.heap.size w).alloc (Nat.le_refl _) (.cells #[u, v] 24)
  refine ⟨[u, v], ⟨rfl, .inr ⟨w.heap.size, 2, #[u, v], rfl, hB, heap_alloc_new w _, Nat.le_refl _, by unfold maxLen; omega, rfl, rfl⟩⟩, ?_, ?_⟩
  · have h1 := (Inner.nil (w.alloc (.cells #[u, v] 24)) B).push (hp.below hal) (fun x hx => by simp at hx)
    exact h1.push (hq.below hal) (fun x hx => by simp at hx; subst hx; exact ha)
  · intro x hx
    simp only [List.mem_cons, List.not_mem_nil, or_false] at hx
    rcases hx with rfl | rfl
    · exact hr1
    · exact hr2
end Go.Proofs.Ytnnpefgbneldiaa


/-
  DRAWS OF LISTS: spec.l3List, by its contract.
-/

namespace Go.Proofs.Ytnnpefgbneldiaa
set_option maxRecDepth 100000
open Go.RowKit

theorem IntsS.fresh {w0 w : World} {B cb : Nat} {v u : Value} {zss : List (List Int)} {zs : List Int} (h : IntsS w0 B v zss) (hg : w0.grownBy w (some cb)) (hc : cb < B) (hu : Ints w w0.heap.size u zs) : Fresh w B v zss u := by
  obtain ⟨vs, h1, h2⟩ := h
  exact ⟨vs, own_drawn h1 hg hc, h2.drawn hg hc, h2.away_new hu.since (Nat.le_refl _)⟩
theorem wpList_push_fresh {ops : Array Oper} {rest : List Oper} {o : Oper} {a : Act} {W : World} {Q : Exit → Act → World → Prop} (hgd : o.guard = none) (sl x : Operand)
    (ho : o.op = .call { callee := .builtin .append, args := #[sl, x], argTypes := #[40, 40] })
    (base : Nat) (wr : World) (v u : Value) (zss : List (List Int)) (zs : List Int) (hs : a.eval sl = v) (hx : a.eval x = .slice (some ⟨wr.heap.size, 0, none⟩) 1 1) (hW : W = wr.alloc (.cells #[u] 24))
    (hS : Fresh wr base v zss u) (hu : Ints wr base u zs) (hn : zss.length ≤ 1048576) (hbase : base ≤ wr.heap.size)
    (K : ∀ v' w', IntsS w' base v' (zss ++ [zs]) → Below base wr w' → wpList Try.prog ops Q rest (a.put o.dst v') w') : wpList Try.prog ops Q (o :: rest) a W := by
  obtain ⟨i0, hi, hz0, hz1, hz2⟩ := info_parts rowsInfo
  obtain ⟨vs, hown, hin, ha⟩ := hS
  obtain ⟨A1, c1, rfl⟩ := hu.slice
  refine wpList_append_one hgd sl x 40 ho base 24 i0 (.slice none 0 0) 24 Try.underlying40 hi hz0 hz1 hz2 rfl wr wr v _ _ hs hown _ hx hW rfl (by omega) (by unfold maxLen; omega) (Below.refl _ _) hbase fun v' w' h1 h2 h3 => K v' w' ?_ h2
  have hk := KeepI.of_grown hown h3
  refine ⟨vs ++ [.slice A1 zs.length c1], by rw [List.length_append]; exact h1, ?_⟩
  exact (hin.keepI hk).push (hu.keepI hk) ha
theorem IntsS.putDrawn {w0 w : World} {B cb g n cap k : Nat} {zss : List (List Int)} {z : List Int} {u : Value} (h : IntsS w0 B (.slice (some ⟨g, 0, none⟩) n cap) zss) (hg : w0.grownBy w (some cb)) (hc : cb < B) (hu : Ints w w0.heap.size u z) (hB : B ≤ w0.heap.size) :
    IntsS (w.setCell ⟨g, k, none⟩ u) B (.slice (some ⟨g, 0, none⟩) n cap) (zss.set k z) := by
  have hl := h.len
  subst hl
  obtain ⟨vs, h2, h3⟩ := h
  have o := own_drawn h2 hg hc
  have ha := h3.away_new hu.since (Nat.le_refl _)
  have st := o.stored k u
  have hk := KeepI.of_grown o st.2
  refine ⟨vs.set k u, by rw [List.length_set]; exact st.1, ?_⟩
  exact ((h3.drawn hg hc).keepI hk).set k ((hu.low hB).keepI hk) ha
/-- A list of rows that was drawn. -/
def DrawnSS (B cb : Nat) (w : World) (e : Ending) (w' : World) : Prop :=
  ∃ A c zss, e = .returned (.slice A zss.length c) ∧ zss.length ≤ 4 ∧ (∀ z ∈ zss, Lite 9 z) ∧ IntsS w' w.heap.size (.slice A zss.length c) zss ∧ Cur w' B cb ∧ w.grownBy w' (some cb)
theorem DrawnSS.mk {B cb : Nat} {w w' : World} {v : Value} {zss : List (List Int)} (hI : IntsS w' w.heap.size v zss) (hn : zss.length ≤ 4) (hl : ∀ z ∈ zss, Lite 9 z) (h : Side B cb w w') : DrawnSS B cb w (.returned v) w' := by
  obtain ⟨A, c, rfl⟩ := hI.slice
  exact ⟨A, c, zss, rfl, hn, hl, hI, h.cur, h.gr⟩

/-- What stood before the cursor was made is as it was. -/
theorem Side.under {B cb : Nat} {w w1 w2 : World} (h : Side B cb w1 w2) (hb : Below w.heap.size w w1) (hc : w.heap.size ≤ cb) : Below w.heap.size w w2 :=
  hb.grown h.gr hb.size (fun k hk => by injection hk with hk; omega)
/-- A row that was drawn from the bytes. -/
def DrewI (w : World) (L : Nat) (e : Ending) (w' : World) : Prop := ∃ A c zs, e = .returned (.slice A zs.length c) ∧ Lite L zs ∧ Ints w' w.heap.size (.slice A zs.length c) zs ∧ Below w.heap.size w w'
def DrewII (w : World) (L : Nat) (e : Ending) (w' : World) : Prop :=
  ∃ A c p A' c' q, e = .returned (.tuple #[.slice A p.length c, .slice A' q.length c']) ∧ Lite L p ∧ Lite L q ∧ Ints w' w.heap.size (.slice A p.length c) p ∧ Ints w' w.heap.size (.slice A' q.length c') q ∧ Below w.heap.size w w'
def DrewSB (w : World) (e : Ending) (w' : World) : Prop :=
  ∃ A c zss b, e = .returned (.tuple #[.slice A zss.length c, .bool b]) ∧ zss.length ≤ 4 ∧ (∀ z ∈ zss, Lite 9 z) ∧ IntsS w' w.heap.size (.slice A zss.length c) zss ∧ Below w.heap.size w w'
theorem DrewI.mk {L : Nat} {w w' : World} {v : Value} {zs : List Int} (hI : Ints w' w.heap.size v zs) (hl : Lite L zs) (h : Below w.heap.size w w') : DrewI w L (.returned v) w' := by
  obtain ⟨A, c, rfl⟩ := hI.slice
  exact ⟨A, c, zs, rfl, hl, hI, h⟩
theorem DrewII.mk {L : Nat} {w w' : World} {v v' : Value} {p q : List Int} (hp : Ints w' w.heap.size v p) (hq : Ints w' w.heap.size v' q) (hl : Lite L p) (hl' : Lite L q) (h : Below w.heap.size w w') : DrewII w L (.returned (.tuple #[v, v'])) w' := by
  obtain ⟨A, c, rfl⟩ := hp.slice
  obtain ⟨A', c', rfl⟩ := hq.slice
  exact ⟨A, c, p, A', c', q, rfl, hl, hl', hp, hq, h⟩

end Go.Proofs.Ytnnpefgbneldiaa


/-
  spec.l2Before, spec.l2Same; cmp.Compare, slices.Compare, cmp.Or, slices.Equal and impl.comparePerms, by their contracts.
-/

namespace Go.Proofs.Ytnnpefgbneldiaa
set_option maxRecDepth 100000
open Go.RowKit

/-! plain -/
/-- slices.Compare's answer. -/
def lexV : List Int → List Int → Int
  | [], [] => 0
  | [], _ :: _ => -1
  | _ :: _, [] => 1
  | x :: xs, y :: ys => if x = y then lexV xs ys else if x < y then -1 else 1
theorem lexV_at : ∀ {p q : List Int} {k : Nat} {x y : Int}, p.take k = q.take k → p[k]? = some x → q[k]? = some y → x ≠ y → lexV p q = if x < y then -1 else 1
  | a :: p, b :: q, 0, x, y, _, hx, hy, hne => by
    simp at hx hy
    subst hx; subst hy
    rw [lexV, if_neg hne]
  | a :: p, b :: q, k + 1, x, y, h, hx, hy, hne => by
    simp at h
    obtain ⟨rfl, h⟩ := h
    rw [lexV, if_pos rfl]
    exact lexV_at h (by simpa using hx) (by simpa using hy) hne
  | [], _, k, _, _, _, hx, _, _ => by simp at hx
  | _ :: _, [], k, _, _, _, _, hy, _ => by simp at hy
theorem lexV_end : ∀ {p q : List Int} {k : Nat}, p.take k = q.take k → (k = p.length ∨ k = q.length) → k ≤ p.length → k ≤ q.length → lexV p q = if p.length < q.length then -1 else if q.length < p.length then 1 else 0
  | [], [], _, _, _, _, _ => by simp [lexV]
  | [], y :: q, _, _, _, _, _ => by simp [lexV]
  | x :: p, [], _, _, _, _, _ => by simp [lexV]
  | x :: p, y :: q, 0, _, h, _, _ => by simp at h
  | x :: p, y :: q, k + 1, h, hk, h1, h2 => by
    simp at h
    obtain ⟨rfl, h⟩ := h
    rw [lexV, if_pos rfl, lexV_end h (by simpa using hk) (by simpa using h1) (by simpa using h2)]
    simp
theorem lexV_lexL : ∀ {p q : List Int}, p.length = q.length → decide (lexV p q < 0) = lexL p q
  | [], [], _ => rfl
  | [], _ :: _, h => by simp at h
  | _ :: _, [], h => by simp at h
  | x :: p, y :: q, h => by
    rw [lexV, lexL]
    by_cases e : x = y
    · rw [if_pos e, if_pos e]
      exact lexV_lexL (by simpa using h)
    · rw [if_neg e, if_neg e]
      by_cases hl : x < y <;> simp [hl]
theorem lexV_small : ∀ (p q : List Int), -1 ≤ lexV p q ∧ lexV p q ≤ 1
  | [], [] => by simp [lexV]
  | [], _ :: _ => by simp [lexV]
  | _ :: _, [] => by simp [lexV]
  | x :: p, y :: q => by
    rw [lexV]
    split
    · exact lexV_small p q
    · split <;> omega
def cmpI (x y : Int) : Int := if x < y then -1 else if y < x then 1 else 0
/-- impl.comparePerms's answer. -/
def cmpV (p q : List Int) : Int := if cmpI p.length q.length = 0 then lexV p q else cmpI p.length q.length
theorem cmpV_befL (p q : List Int) : decide (cmpV p q < 0) = befL p q := by
  unfold cmpV cmpI befL
  by_cases h1 : (p.length : Int) < q.length
  · rw [if_pos h1, if_neg (by omega), if_neg (by omega)]
    simp; omega
  · rw [if_neg h1]
    by_cases h2 : (q.length : Int) < p.length
    · rw [if_pos h2, if_neg (by omega), if_neg (by omega)]
      simp; omega
    · rw [if_neg h2, if_pos rfl, if_pos (by omega)]
      exact lexV_lexL (by omega)
theorem cmpV_small (p q : List Int) : -1 ≤ cmpV p q ∧ cmpV p q ≤ 1 := by
  have h := lexV_small p q
  have h2 : -1 ≤ cmpI p.length q.length ∧ cmpI p.length q.length ≤ 1 := by
    unfold cmpI
    split
    · omega
    · split <;> omega
  unfold cmpV
  split
  · exact h
  · exact h2

theorem below_sgrow (w : World) (k : Nat) (os : Array Obj) : Below w.heap.size w (Sort.grow (w.drewN k) os) :=
  ⟨rfl, rfl, rfl, by unfold Sort.grow; simp [World.drewN], fun i hi => by unfold Sort.grow; exact Array.getElem?_append_left hi⟩

/-! contracts -/
set_option maxHeartbeats 400000 in
theorem l2bef_any (A A' : Option Addr) (n c B n' c' B' : Nat) (p q : List Int) (b : Bool) (hb : befL p q = b) (w : World) (h : Arg w B A n c p) (h' : Arg w B' A' n' c' q) :
    Calls Try.prog 88 #[.slice A n c, .slice A' n' c'] w fun e w' => e = .returned (.bool b) ∧ Drew w w' := by
  have hl := h.len
  have hl' := h'.len
  have hn := h.le
  have hn' := h'.le
  have hr := h.reads
  have hr' := h'.reads
  clear h h'
  by_cases he : n = n'
  · subst he
    rw [befL_eq (by omega)] at hb
    have HB := hide hb
    have HL := hide hl
    have HL' := hide hl'
    clear hb hl hl'
    go_enter Try.func88, Try.ntmps88
    go_wp2
    go_loopw [5] (fun i wr => ∃ k : Nat, k ≤ n ∧ i = .int .i64 k ∧ Drew w wr ∧ Hid (p.take k = q.take k)) (fun i _ => n - (intOf i).toNat)
    case atStart => exact ⟨0, Nat.zero_le _, rfl, Drew.refl _, by exact (rfl : p.take 0 = q.take 0)⟩
    case round =>
      obtain ⟨k, hk, rfl, hd, hs⟩ := hrel
      by_cases hlt : k < n
      · obtain ⟨ad, u, rfl, _, hu, hc⟩ := (hr.ofDrew hd).at_ hlt
        obtain ⟨ad', u', rfl, _, hu', hc'⟩ := (hr'.ofDrew hd).at_ hlt
        obtain ⟨x, hx, rfl⟩ := i64_at hu
        obtain ⟨y, hy, rfl⟩ := i64_at hu'
        have HD := hide hd
        clear hu hu' hr hr' hd
        by_cases hxy : x = y
        · subst hxy
          have hnext := hide (take_same_step (unhide hs) hx hy)
          clear hx hy hs
          go_wp2
          go_quiet (fail)
          go_wp2
          go_roundw
          case rel => exact ⟨k + 1, by omega, by go_num, (unhide HD).more _, hnext⟩
          case measure => simp [intOf]; omega
        · have hat := (unhide HB).symm.trans (lexL_at (unhide hs) hx hy hxy)
          have hne : (x == y) = false := by simpa using hxy
          clear hx hy hs HB hxy
          have hcc := hc
          have hcc' := hc'
          have HAT := hide hat
          clear hat
          go_wp2
          go_quiet (fail)
          go_wp2
          go_quiet (fail)
          go_wp2
          go_ret
          exact ⟨ret_bool (unhide HAT).symm, ((unhide HD).more _).more _⟩
      · obtain rfl : n = k := by omega
        obtain rfl : b = false := (unhide HB).symm.trans (lexL_end (unhide hs) (unhide HL) (unhide HL'))
        clear HB hs
        go_wp2
        go_ret
        exact ⟨rfl, hd⟩
  · rw [befL_ne (by omega), hl, hl'] at hb
    have hne : ((n : Int) == (n' : Int)) = false := by simp; omega
    have HB := hide hb
    clear hb hl hl' hr hr'
    go_enter Try.func88, Try.ntmps88
    go_wp2
    go_ret
    exact ⟨ret_bool (by rw [← unhide HB]), Drew.refl _⟩
theorem nan_any (x : Int) (w : World) : Calls Try.prog 124 #[.int .i64 x] w fun e w' => e = .returned (.bool false) ∧ w = w' := by
  go_enter Try.func124, Try.ntmps124
  go_wp2
  go_ret
  exact ⟨rfl, rfl⟩
theorem cmp_lt (x y : Int) (h : x < y) (w : World) : Calls Try.prog 104 #[.int .i64 x, .int .i64 y] w fun e w' => e = .returned (.int .i64 (-1)) ∧ w = w' := by
  go_enter Try.func104, Try.ntmps104
  go_wp2_with ((with_reducible refine (nan_any _ _).mono ?_); rintro e w' ⟨rfl, rfl⟩)
  go_ret
  exact ⟨rfl, rfl⟩
theorem cmp_gt (x y : Int) (h : y < x) (w : World) : Calls Try.prog 104 #[.int .i64 x, .int .i64 y] w fun e w' => e = .returned (.int .i64 1) ∧ w = w' := by
  have h' : ¬ x < y := by omega
  go_enter Try.func104, Try.ntmps104
  go_wp2_with ((with_reducible refine (nan_any _ _).mono ?_); rintro e w' ⟨rfl, rfl⟩)
  go_ret
  exact ⟨rfl, rfl⟩
theorem cmp_eq (x : Int) (w : World) : Calls Try.prog 104 #[.int .i64 x, .int .i64 x] w fun e w' => e = .returned (.int .i64 0) ∧ w = w' := by
  have h' : ¬ x < x := by omega
  go_enter Try.func104, Try.ntmps104
  go_wp2_with ((with_reducible refine (nan_any _ _).mono ?_); rintro e w' ⟨rfl, rfl⟩)
  go_ret
  exact ⟨rfl, rfl⟩
theorem cmp_any (x y : Int) (w : World) : Calls Try.prog 104 #[.int .i64 x, .int .i64 y] w fun e w' => e = .returned (.int .i64 (cmpI x y)) ∧ w = w' := by
  unfold cmpI
  by_cases h1 : x < y
  · rw [if_pos h1]; exact cmp_lt x y h1 w
  · rw [if_neg h1]
    by_cases h2 : y < x
    · rw [if_pos h2]; exact cmp_gt x y h2 w
    · rw [if_neg h2]
      obtain rfl : x = y := by omega
      exact cmp_eq x w
set_option maxHeartbeats 400000 in
theorem compare_any (A A' : Option Addr) (n c B n' c' B' : Nat) (p q : List Int) (w : World) (h : Arg w B A n c p) (h' : Arg w B' A' n' c' q) :
    Calls Try.prog 81 #[.slice A n c, .slice A' n' c'] w fun e w' => e = .returned (.int .i64 (lexV p q)) ∧ w = w' := by
  obtain ⟨b, hb⟩ : ∃ b, lexV p q = b := ⟨_, rfl⟩
  have hl := h.len
  have hl' := h'.len
  have hn := h.le
  have hn' := h'.le
  have hr := h.reads
  have hr' := h'.reads
  clear h h'
  rw [hb]
  have HB := hide hb
  have HL := hide hl
  have HL' := hide hl'
  clear hb hl hl'
  go_enter Try.func81, Try.ntmps81
  go_wp2
  go_loop [5, 6, 7, 8, 11] (fun _ _ _ _ i => ∃ k : Nat, k ≤ n ∧ k ≤ n' ∧ i = .int .i64 k ∧ Hid (p.take k = q.take k)) (fun _ _ _ _ i => n - (intOf i).toNat)
  case atStart => exact ⟨0, Nat.zero_le _, Nat.zero_le _, rfl, by exact (rfl : p.take 0 = q.take 0)⟩
  case round =>
    obtain ⟨k, hk, hk', rfl, hs⟩ := hrel
    by_cases hlt : k < n
    · obtain ⟨ad, u, rfl, _, hu, hc⟩ := hr.at_ hlt
      obtain ⟨x, hx, rfl⟩ := i64_at hu
      by_cases hlt' : k < n'
      · obtain ⟨ad', u', rfl, _, hu', hc'⟩ := hr'.at_ hlt'
        obtain ⟨y, hy, rfl⟩ := i64_at hu'
        clear hu hu' hr hr'
        by_cases hxy : x = y
        · subst hxy
          have hnext := hide (take_same_step (unhide hs) hx hy)
          clear hx hy hs
          go_wp2_with ((with_reducible refine (cmp_eq _ _).mono ?_); rintro e w' ⟨rfl, rfl⟩)
          go_round
          case rel => exact ⟨k + 1, by omega, by omega, by go_num, hnext⟩
          case measure => simp [intOf]; omega
        · have hat := (unhide HB).symm.trans (lexV_at (unhide hs) hx hy hxy)
          by_cases hl : x < y
          · obtain rfl : b = -1 := by rw [hat]; simp [hl]
            clear hx hy hs HB hxy hat
            go_wp2_with ((with_reducible refine (cmp_lt _ _ hl _).mono ?_); rintro e w' ⟨rfl, rfl⟩)
            go_ret
            exact ⟨rfl, rfl⟩
          · have hg : y < x := by omega
            obtain rfl : b = 1 := by rw [hat]; simp [hl]
            clear hx hy hs HB hxy hat hl
            go_wp2_with ((with_reducible refine (cmp_gt _ _ hg _).mono ?_); rintro e w' ⟨rfl, rfl⟩)
            go_ret
            exact ⟨rfl, rfl⟩
      · obtain rfl : n' = k := by omega
        have hat := (unhide HB).symm.trans (lexV_end (unhide hs) (.inr (unhide HL').symm) (by rw [unhide HL]; omega) (by rw [unhide HL']; omega))
        rw [unhide HL, unhide HL', if_neg (by omega), if_pos hlt] at hat
        subst hat
        clear hu hx hs HB hr hr'
        go_wp2
        go_ret
        exact ⟨rfl, rfl⟩
    · obtain rfl : n = k := by omega
      have hat := (unhide HB).symm.trans (lexV_end (unhide hs) (.inl (unhide HL).symm) (by rw [unhide HL]; omega) (by rw [unhide HL']; omega))
      rw [unhide HL, unhide HL'] at hat
      clear HB hs hr hr'
      by_cases hlt' : n < n'
      · rw [if_pos hlt'] at hat
        subst hat
        go_wp2
        go_ret
        exact ⟨rfl, rfl⟩
      · rw [if_neg hlt', if_neg (by omega)] at hat
        subst hat
        go_wp2
        go_ret
        exact ⟨rfl, rfl⟩
end Go.Proofs.Ytnnpefgbneldiaa


/-
  spec.l3Put, by its contract.
-/

namespace Go.Proofs.Ytnnpefgbneldiaa
set_option maxRecDepth 100000
open Go.RowKit

theorem Inner.put {w : World} {B s : Nat} {vs : List Value} {zss : List (List Int)} {u : Value} {z : List Int} (h : Inner w B vs zss) (hs : s ≤ zss.length) (hu : Ints w B u z) (ha : ∀ x ∈ vs, Away x u) : Inner w B (vs.take s ++ [u] ++ vs.drop s) (zss.take s ++ [z] ++ zss.drop s) := by
  have hl := h.len
  refine ⟨by simp; omega, fun i x ys hx hy => ?_, ?_⟩
  · by_cases h1 : i < s
    · rw [List.append_assoc, List.getElem?_append_left (by rw [List.length_take]; omega), List.getElem?_take_of_lt h1] at hx hy
      exact h.row i x ys hx hy
    · by_cases h2 : i = s
      · subst h2
        rw [List.append_assoc, List.getElem?_append_right (by rw [List.length_take]; omega), List.length_take, Nat.min_eq_left (by omega)] at hx hy
        simp at hx hy
        subst hx; subst hy
        exact hu
      · rw [List.getElem?_append_right (by simp; omega)] at hx hy
        simp only [List.length_append, List.length_take, List.length_singleton] at hx hy
        rw [List.getElem?_drop] at hx hy
        rw [Nat.min_eq_left (by omega)] at hx hy
        exact h.row _ x ys hx hy
  · have ht := h.away
    rw [← List.take_append_drop s vs, List.pairwise_append] at ht
    obtain ⟨h1, h2, h3⟩ := ht
    rw [List.append_assoc, List.pairwise_append]
    refine ⟨h1, ?_, fun a ha' b hb => ?_⟩
    · rw [List.singleton_append, List.pairwise_cons]
      exact ⟨fun b hb => (ha b (List.mem_of_mem_drop hb)).symm, h2⟩
    · rw [List.singleton_append, List.mem_cons] at hb
      rcases hb with rfl | hb
      · exact ha a (List.mem_of_mem_take ha')
      · exact h3 a ha' b hb
theorem own_news {w : World} {B n : Nat} {v : Value} {vs : List Value} {zss : List (List Int)} (_h : w.ownsRow B 24 1 v n vs) (hin : Inner w B vs zss) : ∀ u ∈ vs, u.oneCell' = true := fun u hu => by
  obtain ⟨zs, hz⟩ := hin.mem hu
  obtain ⟨A, c, rfl⟩ := hz.slice
  rfl

/-- A list of rows that lies at a block's head. -/
def PutS (w : World) (B : Nat) (v : Value) (zss : List (List Int)) : Prop := IntsS w B v zss ∧ ∃ g cap, v = .slice (some ⟨g, 0, none⟩) zss.length cap
def PutEnds (w : World) (B : Nat) (zss : List (List Int)) (e : Ending) (w' : World) : Prop := ∃ v', e = .returned v' ∧ PutS w' B v' zss ∧ Below B w w' ∧ KeepI w w'

theorem Arg.drew {w : World} {B n c : Nat} {A : Option Addr} {zs : List Int} (h : Arg w B A n c zs) : Arg w.drew B A n c zs := ⟨h.reads.drew, h.under, h.le, h.cap, h.small, h.nil⟩
theorem own_shape {w : World} {B n : Nat} {e : TypeId} {v : Value} {xs : List Value} (h : w.ownsRow B e 1 v n xs) (hv : v ≠ .slice none 0 0) : ∃ g cap, v = .slice (some ⟨g, 0, none⟩) n cap ∧ B ≤ g ∧ n ≤ cap := by
  rcases h.2 with ⟨h0, _⟩ | ⟨g, cap, cur, h1, h2, _, h3, _⟩
  · exact absurd h0 hv
  · exact ⟨g, cap, h1, h2, h3⟩

set_option maxHeartbeats 1600000 in
theorem l3putS_any (B : Nat) (zss : List (List Int)) (g n cap : Nat) (A : Option Addr) (m c B' : Nat) (p : List Int) (w : World) (hS : IntsS w B (.slice (some ⟨g, 0, none⟩) n cap) zss) (hp : Arg w B' A m c p) (hB : B ≤ w.heap.size)
    (hall : ∀ z ∈ zss, z.length ≤ 1048576 ∧ Small z) (hn : n ≤ 1048576) :
    Calls Try.prog 84 #[.slice (some ⟨g, 0, none⟩) n cap, .slice A m c] w (PutEnds w B (putL zss p)) := by
  have hl := hS.len
  have HL := hide hl
  have HALL := hide hall
  clear hl hall
  go_enter Try.func84, Try.ntmps84
  go_wp2
  go_loopw [5] (fun i wr => ∃ k : Nat, k ≤ n ∧ i = .int .i64 k ∧ Drew w wr ∧ Hid (scanL zss p n = scanL zss p k)) (fun i _ => (intOf i).toNat)
  case atStart => exact ⟨n, Nat.le_refl _, rfl, Drew.refl _, by exact rfl⟩
  case round =>
    obtain ⟨k, hk, rfl, hd, hsc⟩ := hrel
    cases k with
    | zero =>
      have hput : Hid (putL zss p = zss.take 0 ++ [p] ++ zss.drop 0) := by
        have h := unhide hsc
        rw [← unhide HL] at h
        show putL zss p = _
        unfold putL
        rw [h, scanL, if_neg (by omega)]
      have hbW := hd.below w.heap.size
      have hkw := hd.keepI
      have hp := hp.below hbW
      have hS := hS.below hbW
      have hks : 0 ≤ n := Nat.zero_le n
      clear hsc
      obtain ⟨vs, hown, hin⟩ := hS
      rw [unhide HL] at hown
      have hgl := (hown.lt g rfl).2
      have hst := ownS0 wr wr.heap.size (Nat.le_refl _)
      have hbel := (Below.refl wr.heap.size wr).alloc (Nat.le_refl _) (.cells #[] 24)
      have hrest := ((own_rest hown hks).below hbel)
      have hones : ∀ u ∈ vs.drop (0), u.oneCell' = true := fun u hu => own_news hown hin u (List.mem_of_mem_drop hu)
      have HONES := hide hones
      go_wp2_with (at_builtin; refine wpList_append_rows rfl (.tmp 34) (.tmp 37) rfl wr.heap.size wr.heap.size 0 (n) (cap) wr _ (some ⟨g, 0, none⟩) [] (vs.drop (0)) rfl rfl hst hrest (fun h => by cases h) hones (by omega) (by omega) hbel hbel.size ?_; intro v6 w6 hown6 hb6 hg6 hnil6)
      rw [Nat.zero_add, List.nil_append] at hown6
      obtain ⟨g6, cap6, rfl, hg6l, hcap6⟩ := own_shape hown6 (fun h => by cases hnil6 h)
      have hA6 := hp.below hb6
      have hst6 := own0 w6 w6.heap.size (Nat.le_refl _)
      have hbel6 := (Below.refl w6.heap.size w6).alloc (Nat.le_refl _) (.cells #[] 3)
      have hA7 := (hA6.below hbel6).drew
      have hs6 := hbel6.size
      have hown7 := own_below hown hb6
      have hin7 := hin.keepI (KeepI.of_below hb6)
      have hkw6 := hkw.trans (KeepI.of_below hb6)
      have hbw6 := (hbW.mono hB).trans (hb6.mono (Nat.le_trans hB hbW.size))
      clear hst hbel hrest hones hp hkw hin hown hg6 hnil6
      go_region_held3 (fun _ => True) (trivial)
        (first
         | ((refine step_append_arg (by rfl) (.tmp 42) (.tmp 43) (by rfl) w6.heap.size B' 0 m c w6 _ A [] p (by rfl) (by rfl) hst6 hA7 (by omega) hbel6.drew hs6 ?_); intro v7 w7 hw7 hb7 hg7; clear hg7;
            have hI7 : Ints w7 w6.heap.size v7 p := Ints.of_own hw7;
            obtain ⟨A7, c7, rfl⟩ := hI7.slice;
            have hone7 : ∀ u ∈ [Value.slice A7 p.length c7], u.oneCell' = true := (fun u hu => by (rw [List.mem_singleton] at hu; subst hu; rfl));
            have haw7 := hin7.away_new hI7.since (Nat.le_refl _);
            have hin8 := hin7.keepI (KeepI.of_below hb7);
            have hown8 := own_cut (own_below hown7 hb7) hks;
            have hrest8 := own_below hown6 hb7;
            have hkw8 := hkw6.trans (KeepI.of_below hb7);
            have hbw8 := hbw6.trans (hb7.mono (Nat.le_trans hB (Nat.le_trans hbW.size hb6.size)));
            have hsz8 : B ≤ w7.heap.size := Nat.le_trans hB (Nat.le_trans hbW.size (Nat.le_trans hb6.size hb7.size));
            have hx8 := reads_new w7 (.slice A7 p.length c7) 24;
            have hal := (Below.refl w7.heap.size w7).alloc (Nat.le_refl _) (.cells #[.slice A7 p.length c7] 24);
            clear hst6 hbel6 hA7 hs6 hown7 hown6 hin7 hkw6 hbw6 hw7 hb7)
         | ((refine step_append_rows (by rfl) (.tmp 41) (.tmp 45) (by rfl) B (w7.heap.size + 1) (0) 1 1 w _ (some ⟨w7.heap.size, 0, none⟩) (vs.take (0)) [.slice A7 p.length c7] (by rfl) (by rfl) (own_below hown8 hal) hx8 (fun h => by cases h) hone7 (by omega) (by omega) (hbw8.trans (hal.mono hsz8)) (Nat.le_trans hsz8 hal.size) ?_); intro v9 w9 hown9 hb9 hg9 hnil9;
            have hk9 := (hkw8.trans (KeepI.of_below hal)).trans (KeepI.of_grown (own_below hown8 hal) hg9);
            have hin9 := (hin8.keepI (KeepI.of_below hal)).keepI (KeepI.of_grown (own_below hown8 hal) hg9);
            have hI9 := (hI7.keepI (KeepI.of_below hal)).keepI (KeepI.of_grown (own_below hown8 hal) hg9);
            have hrest9 := (own_below hrest8 hal).kept hg9 (.inr (fun e => by (have e2 : g6 = g := by simpa [Value.ownBlock] using e); omega));
            have hsz9 := Nat.le_trans hsz8 (Nat.le_trans hal.size hg9.size);
            clear hown8 hrest8 hkw8 hbw8 hsz8 hx8 hal hin8 hI7 hone7 hg9)
         | ((refine step_append_rows (by rfl) (.tmp 46) (.tmp 47) (by rfl) B w9.heap.size (0 + 1) (n) cap6 w _ (some ⟨g6, 0, none⟩) (vs.take (0) ++ [.slice A7 p.length c7]) (vs.drop (0)) (by rfl) (by rfl) hown9 (Reads.of_own_at hrest9) (fun h => by cases h) (unhide HONES) (by omega) (by omega) hb9 hsz9 ?_); intro v10 w10 hown10 hb10 hg10 hnil10;
            have hk10 := hk9.trans (KeepI.of_grown hown9 hg10);
            have hin10 := hin9.keepI (KeepI.of_grown hown9 hg10);
            have hI10 := hI9.keepI (KeepI.of_grown hown9 hg10);
            clear hk9 hin9 hI9 hown9 hrest9))
      have hfin : PutS w10 B v10 (putL zss p) := by
        have hz := unhide HL
        have hin := hin10.put (s := 0) (by rw [hz]; exact hks) (hI10.low (Nat.le_trans hB (Nat.le_trans hbW.size hb6.size))) haw7
        have hlen : (zss.take (0) ++ [p] ++ zss.drop (0)).length = 0 + 1 + (n) := by
          simp only [List.length_append, List.length_take, List.length_drop, List.length_singleton]
          omega
        rw [unhide hput]
        obtain ⟨g10, cap10, h10, _, _⟩ := own_shape hown10 (fun h => by cases hnil9 (hnil10 h))
        exact ⟨⟨_, by rw [hlen]; exact hown10, hin⟩, g10, cap10, by rw [hlen]; exact h10⟩
      clear hown10 hin10 hI10 hnil9 hnil10 haw7
      go_wp2
      go_ret
      exact ⟨v10, rfl, hfin, hb10, hk10⟩
    | succ k =>
      obtain ⟨ad, A1, c1, z, he, hz, hcell, hI⟩ := (hS.below (hd.below _)).at_ (show k < n by omega)
      injection he with he
      subst he
      have hcell : wr.cell? ⟨g, k, none⟩ = some (.slice A1 z.length c1) := by
        rwa [show (⟨g, 0, none⟩ : Addr).add k = ⟨g, k, none⟩ by unfold Addr.add; split <;> simp_all] at hcell
      have hzP := unhide HALL z (List.mem_of_getElem? hz)
      have hAz := hI.arg hzP.1 hI.cap hzP.2
      obtain ⟨b, hb⟩ : ∃ b, befL p z = b := ⟨_, rfl⟩
      have hpW := hp.below (hd.below _)
      have H1 := hide (l2bef_any A A1 m c B' z.length c1 wr.heap.size p z b hb wr hpW hAz)
      have hki : ((k + 1 : Nat) : Int) - 1 = (k : Int) := by omega
      cases b with
      | true =>
        have hnext := hide ((unhide hsc).trans (scanL_yes hz hb))
        clear hz hb hI hAz hsc hpW hS hp
        go_wp2_with fail
        refine (unhide H1).mono ?_
        rintro e w1 ⟨rfl, hd1⟩
        have hd2 := hd.trans hd1
        clear H1 hd hd1
        go_wp2
        go_roundw
        case rel => exact ⟨k, by omega, by go_num, hd2, hnext⟩
        case measure => simp [intOf]
      | false =>
        have hsc1 := (unhide hsc).trans (scanL_no hz hb)
        rw [← unhide HL] at hsc1
        obtain ⟨b2, hb2⟩ : ∃ b, decide (z = p) = b := ⟨_, rfl⟩
        have H2 := hide (fun w' (hb' : Below wr.heap.size wr w') => l2same_any A1 A z.length c1 wr.heap.size m c B' z p b2 hb2 w' ((hI.below hb').arg hzP.1 (hI.below hb').cap hzP.2 |>.more (Nat.le_refl _) (Nat.le_refl _) |> fun h => ⟨hI.reads.below hb', hb'.size, h.le, h.cap, h.small, h.nil⟩) (hpW.below hb'))
        have hput : Hid (putL zss p = if b2 = true then zss else zss.take (k + 1) ++ [p] ++ zss.drop (k + 1)) := by
          show putL zss p = _
          unfold putL
          rw [hsc1, show k + 1 - 1 = k by omega, getD_of hz]
          cases b2 with
          | true => rw [if_pos ⟨by omega, of_decide_eq_true hb2⟩, if_pos rfl]
          | false => rw [if_neg (fun h => of_decide_eq_false hb2 h.2), if_neg (by simp)]
        clear hz hb hI hAz hsc hsc1 hb2 hpW
        go_wp2_with fail
        refine (unhide H1).mono ?_
        rintro e w1 ⟨rfl, hd1⟩
        have H3 := hide (unhide H2 w1 (hd1.below _))
        have hcell1 := (hd1.cell ⟨g, k, none⟩).trans hcell
        replace hd := hd.trans hd1
        clear H1 H2 hd1 hcell
        go_wp2_with fail
        refine (unhide H3).mono ?_
        rintro e w2 ⟨rfl, hd2⟩
        replace hd := hd.trans hd2
        have hbW := hd.below w.heap.size
        have hkw := hd.keepI
        replace hp := hp.below hbW
        replace hS := hS.below hbW
        clear H3 hd2 hcell1
        cases b2 with
        | true =>
          replace hput := hide ((unhide hput).trans (if_pos rfl))
          go_wp2
          go_ret
          rw [← unhide hput] at hS
          exact ⟨.slice (some ⟨g, 0, none⟩) n cap, rfl, ⟨hS, g, cap, by rw [hS.len]⟩, hbW.mono hB, hkw⟩
        | false =>
          replace hput := hide ((unhide hput).trans (if_neg (by simp)))
          have hcn : n ≤ cap := by
            obtain ⟨vs, hown, _⟩ := hS
            rw [unhide HL] at hown
            rcases hown.2 with ⟨hv, _⟩ | ⟨g', cap', cur, hv, _, _, h3, _⟩
            · cases hv
            · injection hv with _ _ h4; omega
          by_cases hcap : cap = k + 1
          · subst hcap
            obtain rfl : n = k + 1 := by omega
            have hbd0 : (0 : Int) ≤ (k : Int) + 1 := by omega
            have hbd1 : (k : Int) + 1 ≤ ((k + 1 : Nat) : Int) := by omega
            have hks : k + 1 ≤ k + 1 := Nat.le_refl _
            obtain ⟨vs, hown, hin⟩ := hS
            rw [unhide HL] at hown
            have hgl := (hown.lt g rfl).2
            have hst := ownS0 w2 w2.heap.size (Nat.le_refl _)
            have hbel := (Below.refl w2.heap.size w2).alloc (Nat.le_refl _) (.cells #[] 24)
            have hrest : Reads (w2.alloc (.cells #[] 24)) w2.heap.size (some ⟨g, 0, none⟩) 0 (vs.drop (k + 1)) := ⟨by rw [List.length_drop]; have := hown.1; omega, fun h => by omega⟩
            have hones : ∀ u ∈ vs.drop (k + 1), u.oneCell' = true := fun u hu => own_news hown hin u (List.mem_of_mem_drop hu)
            have HONES := hide hones
            go_wp2_with (at_builtin; refine wpList_append_rows rfl (.tmp 34) (.tmp 37) rfl w2.heap.size w2.heap.size 0 (0) (0) w2 _ (some ⟨g, 0, none⟩) [] (vs.drop (k + 1)) rfl rfl hst hrest (fun h => by cases h) hones (by omega) (by omega) hbel hbel.size ?_; intro v6 w6 hown6 hb6 hg6 hnil6)
            rw [Nat.zero_add, List.nil_append] at hown6
            obtain ⟨g6, cap6, rfl, hg6l, hcap6⟩ := own_shape hown6 (fun h => by cases hnil6 h)
            have hA6 := hp.below hb6
            have hst6 := own0 w6 w6.heap.size (Nat.le_refl _)
            have hbel6 := (Below.refl w6.heap.size w6).alloc (Nat.le_refl _) (.cells #[] 3)
            have hA7 := (hA6.below hbel6).drew
            have hs6 := hbel6.size
            have hown7 := own_below hown hb6
            have hin7 := hin.keepI (KeepI.of_below hb6)
            have hkw6 := hkw.trans (KeepI.of_below hb6)
            have hbw6 := (hbW.mono hB).trans (hb6.mono (Nat.le_trans hB hbW.size))
            clear hst hbel hrest hones hp hkw hin hown hg6 hnil6
            go_region_held3 (fun _ => True) (trivial)
              (first
               | ((refine step_append_arg (by rfl) (.tmp 42) (.tmp 43) (by rfl) w6.heap.size B' 0 m c w6 _ A [] p (by rfl) (by rfl) hst6 hA7 (by omega) hbel6.drew hs6 ?_); intro v7 w7 hw7 hb7 hg7; clear hg7;
                  have hI7 : Ints w7 w6.heap.size v7 p := Ints.of_own hw7;
                  obtain ⟨A7, c7, rfl⟩ := hI7.slice;
                  have hone7 : ∀ u ∈ [Value.slice A7 p.length c7], u.oneCell' = true := (fun u hu => by (rw [List.mem_singleton] at hu; subst hu; rfl));
                  have haw7 := hin7.away_new hI7.since (Nat.le_refl _);
                  have hin8 := hin7.keepI (KeepI.of_below hb7);
                  have hown8 := own_cut (own_below hown7 hb7) hks;
                  have hrest8 := own_below hown6 hb7;
                  have hkw8 := hkw6.trans (KeepI.of_below hb7);
                  have hbw8 := hbw6.trans (hb7.mono (Nat.le_trans hB (Nat.le_trans hbW.size hb6.size)));
                  have hsz8 : B ≤ w7.heap.size := Nat.le_trans hB (Nat.le_trans hbW.size (Nat.le_trans hb6.size hb7.size));
                  have hx8 := reads_new w7 (.slice A7 p.length c7) 24;
                  have hal := (Below.refl w7.heap.size w7).alloc (Nat.le_refl _) (.cells #[.slice A7 p.length c7] 24);
                  clear hst6 hbel6 hA7 hs6 hown7 hown6 hin7 hkw6 hbw6 hw7 hb7)
               | ((refine step_append_rows (by rfl) (.tmp 41) (.tmp 45) (by rfl) B (w7.heap.size + 1) (k + 1) 1 1 w _ (some ⟨w7.heap.size, 0, none⟩) (vs.take (k + 1)) [.slice A7 p.length c7] (by rfl) (by rfl) (own_below hown8 hal) hx8 (fun h => by cases h) hone7 (by omega) (by omega) (hbw8.trans (hal.mono hsz8)) (Nat.le_trans hsz8 hal.size) ?_); intro v9 w9 hown9 hb9 hg9 hnil9;
                  have hk9 := (hkw8.trans (KeepI.of_below hal)).trans (KeepI.of_grown (own_below hown8 hal) hg9);
                  have hin9 := (hin8.keepI (KeepI.of_below hal)).keepI (KeepI.of_grown (own_below hown8 hal) hg9);
                  have hI9 := (hI7.keepI (KeepI.of_below hal)).keepI (KeepI.of_grown (own_below hown8 hal) hg9);
                  have hrest9 := (own_below hrest8 hal).kept hg9 (.inr (fun e => by (have e2 : g6 = g := by simpa [Value.ownBlock] using e); omega));
                  have hsz9 := Nat.le_trans hsz8 (Nat.le_trans hal.size hg9.size);
                  clear hown8 hrest8 hkw8 hbw8 hsz8 hx8 hal hin8 hI7 hone7 hg9)
               | ((refine step_append_rows (by rfl) (.tmp 46) (.tmp 47) (by rfl) B w9.heap.size (k + 1 + 1) (0) cap6 w _ (some ⟨g6, 0, none⟩) (vs.take (k + 1) ++ [.slice A7 p.length c7]) (vs.drop (k + 1)) (by rfl) (by rfl) hown9 (Reads.of_own_at hrest9) (fun h => by cases h) (unhide HONES) (by omega) (by omega) hb9 hsz9 ?_); intro v10 w10 hown10 hb10 hg10 hnil10;
                  have hk10 := hk9.trans (KeepI.of_grown hown9 hg10);
                  have hin10 := hin9.keepI (KeepI.of_grown hown9 hg10);
                  have hI10 := hI9.keepI (KeepI.of_grown hown9 hg10);
                  clear hk9 hin9 hI9 hown9 hrest9))
            have hfin : PutS w10 B v10 (putL zss p) := by
              have hz := unhide HL
              have hin := hin10.put (s := k + 1) (by rw [hz]; exact hks) (hI10.low (Nat.le_trans hB (Nat.le_trans hbW.size hb6.size))) haw7
              have hlen : (zss.take (k + 1) ++ [p] ++ zss.drop (k + 1)).length = k + 1 + 1 + (0) := by
                simp only [List.length_append, List.length_take, List.length_drop, List.length_singleton]
                omega
              rw [unhide hput]
              obtain ⟨g10, cap10, h10, _, _⟩ := own_shape hown10 (fun h => by cases hnil9 (hnil10 h))
              exact ⟨⟨_, by rw [hlen]; exact hown10, hin⟩, g10, cap10, by rw [hlen]; exact h10⟩
            clear hown10 hin10 hI10 hnil9 hnil10 haw7
            go_wp2
            go_ret
            exact ⟨v10, rfl, hfin, hb10, hk10⟩
          · have hbd0 : (0 : Int) ≤ (k : Int) + 1 := by omega
            have hbd1 : (k : Int) + 1 ≤ (cap : Int) := by omega
            have hks : k + 1 ≤ n := hk
            clear hcn
            obtain ⟨vs, hown, hin⟩ := hS
            rw [unhide HL] at hown
            have hgl := (hown.lt g rfl).2
            have hst := ownS0 w2 w2.heap.size (Nat.le_refl _)
            have hbel := (Below.refl w2.heap.size w2).alloc (Nat.le_refl _) (.cells #[] 24)
            have hrest := ((own_rest hown hks).below hbel)
            have hones : ∀ u ∈ vs.drop (k + 1), u.oneCell' = true := fun u hu => own_news hown hin u (List.mem_of_mem_drop hu)
            have HONES := hide hones
            go_wp2_with (at_builtin; refine wpList_append_rows rfl (.tmp 34) (.tmp 37) rfl w2.heap.size w2.heap.size 0 (n - (k + 1)) (cap - (k + 1)) w2 _ (some ⟨g, k + 1, none⟩) [] (vs.drop (k + 1)) rfl rfl hst hrest (fun h => by cases h) hones (by omega) (by omega) hbel hbel.size ?_; intro v6 w6 hown6 hb6 hg6 hnil6)
            rw [Nat.zero_add, List.nil_append] at hown6
            obtain ⟨g6, cap6, rfl, hg6l, hcap6⟩ := own_shape hown6 (fun h => by cases hnil6 h)
            have hA6 := hp.below hb6
            have hst6 := own0 w6 w6.heap.size (Nat.le_refl _)
            have hbel6 := (Below.refl w6.heap.size w6).alloc (Nat.le_refl _) (.cells #[] 3)
            have hA7 := (hA6.below hbel6).drew
            have hs6 := hbel6.size
            have hown7 := own_below hown hb6
            have hin7 := hin.keepI (KeepI.of_below hb6)
            have hkw6 := hkw.trans (KeepI.of_below hb6)
            have hbw6 := (hbW.mono hB).trans (hb6.mono (Nat.le_trans hB hbW.size))
            clear hst hbel hrest hones hp hkw hin hown hg6 hnil6
            go_region_held3 (fun _ => True) (trivial)
              (first
               | ((refine step_append_arg (by rfl) (.tmp 42) (.tmp 43) (by rfl) w6.heap.size B' 0 m c w6 _ A [] p (by rfl) (by rfl) hst6 hA7 (by omega) hbel6.drew hs6 ?_); intro v7 w7 hw7 hb7 hg7; clear hg7;
                  have hI7 : Ints w7 w6.heap.size v7 p := Ints.of_own hw7;
                  obtain ⟨A7, c7, rfl⟩ := hI7.slice;
                  have hone7 : ∀ u ∈ [Value.slice A7 p.length c7], u.oneCell' = true := (fun u hu => by (rw [List.mem_singleton] at hu; subst hu; rfl));
                  have haw7 := hin7.away_new hI7.since (Nat.le_refl _);
                  have hin8 := hin7.keepI (KeepI.of_below hb7);
                  have hown8 := own_cut (own_below hown7 hb7) hks;
                  have hrest8 := own_below hown6 hb7;
                  have hkw8 := hkw6.trans (KeepI.of_below hb7);
                  have hbw8 := hbw6.trans (hb7.mono (Nat.le_trans hB (Nat.le_trans hbW.size hb6.size)));
                  have hsz8 : B ≤ w7.heap.size := Nat.le_trans hB (Nat.le_trans hbW.size (Nat.le_trans hb6.size hb7.size));
                  have hx8 := reads_new w7 (.slice A7 p.length c7) 24;
                  have hal := (Below.refl w7.heap.size w7).alloc (Nat.le_refl _) (.cells #[.slice A7 p.length c7] 24);
                  clear hst6 hbel6 hA7 hs6 hown7 hown6 hin7 hkw6 hbw6 hw7 hb7)
               | ((refine step_append_rows (by rfl) (.tmp 41) (.tmp 45) (by rfl) B (w7.heap.size + 1) (k + 1) 1 1 w _ (some ⟨w7.heap.size, 0, none⟩) (vs.take (k + 1)) [.slice A7 p.length c7] (by rfl) (by rfl) (own_below hown8 hal) hx8 (fun h => by cases h) hone7 (by omega) (by omega) (hbw8.trans (hal.mono hsz8)) (Nat.le_trans hsz8 hal.size) ?_); intro v9 w9 hown9 hb9 hg9 hnil9;
                  have hk9 := (hkw8.trans (KeepI.of_below hal)).trans (KeepI.of_grown (own_below hown8 hal) hg9);
                  have hin9 := (hin8.keepI (KeepI.of_below hal)).keepI (KeepI.of_grown (own_below hown8 hal) hg9);
                  have hI9 := (hI7.keepI (KeepI.of_below hal)).keepI (KeepI.of_grown (own_below hown8 hal) hg9);
                  have hrest9 := (own_below hrest8 hal).kept hg9 (.inr (fun e => by (have e2 : g6 = g := by simpa [Value.ownBlock] using e); omega));
                  have hsz9 := Nat.le_trans hsz8 (Nat.le_trans hal.size hg9.size);
                  clear hown8 hrest8 hkw8 hbw8 hsz8 hx8 hal hin8 hI7 hone7 hg9)
               | ((refine step_append_rows (by rfl) (.tmp 46) (.tmp 47) (by rfl) B w9.heap.size (k + 1 + 1) (n - (k + 1)) cap6 w _ (some ⟨g6, 0, none⟩) (vs.take (k + 1) ++ [.slice A7 p.length c7]) (vs.drop (k + 1)) (by rfl) (by rfl) hown9 (Reads.of_own_at hrest9) (fun h => by cases h) (unhide HONES) (by omega) (by omega) hb9 hsz9 ?_); intro v10 w10 hown10 hb10 hg10 hnil10;
                  have hk10 := hk9.trans (KeepI.of_grown hown9 hg10);
                  have hin10 := hin9.keepI (KeepI.of_grown hown9 hg10);
                  have hI10 := hI9.keepI (KeepI.of_grown hown9 hg10);
                  clear hk9 hin9 hI9 hown9 hrest9))
            have hfin : PutS w10 B v10 (putL zss p) := by
              have hz := unhide HL
              have hin := hin10.put (s := k + 1) (by rw [hz]; exact hks) (hI10.low (Nat.le_trans hB (Nat.le_trans hbW.size hb6.size))) haw7
              have hlen : (zss.take (k + 1) ++ [p] ++ zss.drop (k + 1)).length = k + 1 + 1 + (n - (k + 1)) := by
                simp only [List.length_append, List.length_take, List.length_drop, List.length_singleton]
                omega
              rw [unhide hput]
              obtain ⟨g10, cap10, h10, _, _⟩ := own_shape hown10 (fun h => by cases hnil9 (hnil10 h))
              exact ⟨⟨_, by rw [hlen]; exact hown10, hin⟩, g10, cap10, by rw [hlen]; exact h10⟩
            clear hown10 hin10 hI10 hnil9 hnil10 haw7
            go_wp2
            go_ret
            exact ⟨v10, rfl, hfin, hb10, hk10⟩
theorem l3put_any (B : Nat) (zss : List (List Int)) (g n cap : Nat) (A : Option Addr) (m c B' : Nat) (p : List Int) (w : World) (hS : IntsS w B (.slice (some ⟨g, 0, none⟩) n cap) zss) (hp : Arg w B' A m c p) (hB : B ≤ w.heap.size)
    (hall : ∀ z ∈ zss, isP z = true) (hn : n ≤ 1048576) :
    Calls Try.prog 84 #[.slice (some ⟨g, 0, none⟩) n cap, .slice A m c] w (PutEnds w B (putL zss p)) :=
  l3putS_any B zss g n cap A m c B' p w hS hp hB (fun z hz => ⟨by have := isP_le (hall z hz); omega, isP_small (hall z hz)⟩) hn
end Go.Proofs.Ytnnpefgbneldiaa


/-
  spec.l3Reverse, spec.l3Complement, spec.ReversePerm, spec.ComplementPerm; slices.Clone, impl.ComplementPerm, by their contracts.
-/

namespace Go.Proofs.Ytnnpefgbneldiaa
set_option maxRecDepth 100000
open Go.RowKit

theorem rev_step {zs : List Int} {k : Nat} {z : Int} (h : zs[k]? = some z) : (zs.drop k).reverse = (zs.drop (k + 1)).reverse ++ [z] := by
  have hk : k < zs.length := (List.getElem?_eq_some_iff.1 h).1
  rw [List.drop_eq_getElem_cons hk, List.reverse_cons]
  rw [List.getElem?_eq_getElem hk] at h
  rw [Option.some.inj h]
theorem i64_snoc (xs : List Int) (z : Int) : i64s xs ++ [Value.int .i64 z] = i64s (xs ++ [z]) := by unfold i64s; simp
set_option maxHeartbeats 400000 in
theorem l3rev_any (A : Option Addr) (n c B : Nat) (zs : List Int) (w : World) (h : Arg w B A n c zs) :
    Calls Try.prog 71 #[.slice A n c] w (GivesI w zs.reverse) := by
  obtain ⟨i0, hi, hz0, hz1, hz2⟩ := info_parts intInfo
  have hl := h.len
  have hr := h.reads
  have hB := h.under
  have hn := h.le
  have HL := hide hl
  have hst := own0 w w.heap.size (Nat.le_refl _)
  have hbel := (Below.refl w.heap.size w).alloc (Nat.le_refl _) (.cells #[] 3)
  clear h hl
  go_enter Try.func71, Try.ntmps71
  go_wp2
  go_loopw [3, 4] (fun v i wr => ∃ k : Nat, k ≤ n ∧ i = .int .i64 ((k : Int) - 1) ∧ Below w.heap.size w wr ∧ wr.ownsRow w.heap.size 3 1 v (n - k) (i64s (zs.drop k).reverse)) (fun _ i _ => (intOf i + 1).toNat)
  case atStart =>
    refine ⟨n, Nat.le_refl _, rfl, hbel, ?_⟩
    rw [Nat.sub_self, List.drop_of_length_le (by rw [unhide HL]; exact Nat.le_refl _)]
    exact hst
  case round =>
    obtain ⟨k, hk, rfl, hbw, hown⟩ := hrel
    clear hst hbel
    cases k with
    | succ k =>
      obtain ⟨ad, u, rfl, had, hu, hc⟩ := ((hr.more hB).below hbw).at_ (show k < n by omega)
      obtain ⟨z, hz, rfl⟩ := i64_at hu
      have hstep := hide (rev_step hz)
      have hi1 : (((k + 1 : Nat) : Int) - 1) = (k : Int) := by omega
      have hnk : n - (k + 1) + 1 = n - k := by omega
      rw [hi1]
      clear hu hz hi1
      go_wp2_with (first
        | (at_builtin; refine wpList_append_one rfl (.tmp 13) (.tmp 18) 24 rfl w.heap.size 3 i0 (.int .i64 0) 8 Try.underlying24 hi hz0 hz1 hz2 rfl w wr _ _ _ rfl hown (.int .i64 z) rfl rfl rfl (by omega) (by simp only [maxLen]; omega) hbw hbw.size ?_; intro v2 w2 hown2 hb2 hg2; clear hg2))
      rw [i64_snoc, ← unhide hstep, hnk] at hown2
      clear hown hbw hstep
      go_roundw
      case rel => exact ⟨k, by omega, by go_num, hb2, hown2⟩
      case measure => simp [intOf]
    | zero =>
      have hI : Ints wr w.heap.size u3 zs.reverse := by
        have h := hown
        rw [Nat.sub_zero, List.drop_zero, ← unhide HL] at h
        rw [← List.length_reverse] at h
        exact Ints.of_own h
      clear hown
      go_wp2
      go_ret
      exact GivesI.mk hI hbw
set_option maxHeartbeats 400000 in
theorem clone_any (A : Option Addr) (n c B : Nat) (zs : List Int) (w : World) (h : Arg w B A n c zs) :
    Calls Try.prog 78 #[.slice A n c] w (GivesI w zs) := by
  obtain ⟨i0, hi, hz0, hz1, hz2⟩ := info_parts intInfo
  have hl := h.len
  have hn := h.le
  have hr := h.reads
  have q22 : ∀ (w : World) (a : Option Addr) (n c n' c' : Nat), (binOp .eql 24 (.slice a n c) (.slice none n' c')).run Try.prog w = .ok (.bool a.isNone) w := fun w a n c n' c' => Lib.run_eql_slice_nil w _ _ a n c n' c' Try.underlying24
  cases A with
  | none =>
    obtain rfl : n = 0 := by
      by_cases h0 : 0 < n
      · obtain ⟨ad, he, _⟩ := hr.2 h0
        cases he
      · omega
    obtain rfl := List.eq_nil_of_length_eq_zero hl
    clear h hr hl
    go_enter Try.func78, Try.ntmps78
    go_wp2
    go_ret
    exact GivesI.mk (Ints.nil _ _) (Below.refl _ _)
  | some ad =>
    have hcl : ∀ j u, (i64s zs)[j]? = some u → w.cell? (ad.add j) = some u := fun j u hu => by
      have hj : j < n := by have := (List.getElem?_eq_some_iff.1 hu).1; rw [i64_length, hl] at this; exact this
      obtain ⟨ad', he, _, hc⟩ := hr.2 (by omega)
      injection he with he
      subst he
      exact hc j u hu
    have hbl : 0 < n → ad.block < w.heap.size := fun h0 => by
      obtain ⟨ad', he, hb', _⟩ := hr.2 h0
      injection he with he
      subst he
      exact Nat.lt_of_lt_of_le hb' h.under
    have hcl2 : ∀ j u, (i64s zs)[j]? = some u → (w.alloc (.cells #[] 3)).cell? (ad.add j) = some u := fun j u hu => by
      have hj : j < n := by have := (List.getElem?_eq_some_iff.1 hu).1; rw [i64_length, hl] at this; exact this
      rw [World.cell?_alloc_lt]
      · exact hcl j u hu
      · rw [block_of_add]; exact hbl (by omega)
    have hone : ∀ u ∈ i64s zs, u.oneCell' = true := fun u hu => by
      unfold i64s at hu
      obtain ⟨z, _, rfl⟩ := List.mem_map.1 hu
      rfl
    have hln : (i64s zs).length = n * 1 := by rw [i64_length, hl]; omega
    have HCL := hide hcl2
    have HONE := hide hone
    have HLN := hide hln
    have HL := hide hl
    have hst := own0 w w.heap.size (Nat.le_refl _)
    have hbel := (Below.refl w.heap.size w).alloc (Nat.le_refl _) (.cells #[] 3)
    clear h hr hl hcl hcl2 hbl hone hln
    go_enter Try.func78, Try.ntmps78
    go_wp2_with (at_builtin; refine wpList_append_own _ rfl (.tmp 5) (.tmp 6) 24 rfl w.heap.size 3 i0 (.int .i64 0) 1 8 Try.underlying24 hi hz0 hz1 hz2 rfl (by decide) _ _ _ rfl hst ad n c (i64s zs) rfl ?_ ?_ ?_ ?_ ?_ ?_ ?_)
    · exact unhide HLN
    · exact unhide HCL
    · exact unhide HONE
    · unfold maxLen; omega
    · omega
    · simp
    intro v1 w1 hown1 hg1 _
    have hb1 : Below w.heap.size w w1 := hbel.grown hg1 (by simp) (fun q hq => by simp [Value.ownBlock] at hq; omega)
    have hI : Ints w1 w.heap.size v1 zs := by
      have h := hown1
      rw [← unhide HL] at h
      exact Ints.of_own h
    clear hg1 hown1
    go_wp2
    go_ret
    exact GivesI.mk hI hb1
theorem srev_any (A : Option Addr) (n c B : Nat) (zs : List Int) (w : World) (h : Arg w B A n c zs) :
    Calls Try.prog 33 #[.slice A n c] w (GivesI w (revR zs)) := by
  obtain ⟨b, hb⟩ : ∃ b, isP zs = b := ⟨_, rfl⟩
  have H1 := hide (sisperm_any A n c B zs b hb w h.reads h.le h.cap)
  have H2 := hide (fun w' (hb' : Below w.heap.size w w') => l3rev_any A n c B zs w' (h.below hb'))
  cases b with
  | false =>
    rw [revR_no hb]
    clear hb h H2
    go_enter Try.func33, Try.ntmps33
    go_wp2_with fail
    refine (unhide H1).mono ?_
    rintro e w1 ⟨rfl, hd⟩
    have hb := hd.below w.heap.size
    clear hd H1
    go_wp2
    go_ret
    exact GivesI.mk (Ints.made0 w1 w.heap.size hb.size) (hb.alloc hb.size _)
  | true =>
    rw [revR_yes hb]
    clear hb h
    go_enter Try.func33, Try.ntmps33
    go_wp2_with fail
    refine (unhide H1).mono ?_
    rintro e w1 ⟨rfl, hd⟩
    have hb := hd.below w.heap.size
    have H3 := hide (unhide H2 w1 hb)
    clear hd H1 H2
    go_wp2_with fail
    refine (unhide H3).mono ?_
    rintro e w2 ⟨A2, c2, rfl, own2, hb2⟩
    clear H3
    rw [List.length_reverse] at own2
    go_wp2
    go_ret
    exact GivesI.mk (own2.low hb.size) (below_after hb hb2)
end Go.Proofs.Ytnnpefgbneldiaa


/-
  spec.l7At, spec.l7Fits, spec.l7Find, spec.OccurrencesOf, spec.CountPattern, spec.HasPattern, by their contracts.
-/

namespace Go.Proofs.Ytnnpefgbneldiaa
set_option maxRecDepth 100000
open Go.RowKit

theorem Arg.stay {w w' : World} {B B' n c : Nat} {A : Option Addr} {zs : List Int} (h : Arg w B A n c zs) (hb : Below B' w w') (hB : B ≤ B') : Arg w' B A n c zs :=
  ⟨h.reads.below (hb.mono hB), Nat.le_trans h.under hb.size, h.le, h.cap, h.small, h.nil⟩
theorem Arg.at_ {w : World} {B n c k : Nat} {A : Option Addr} {zs : List Int} (h : Arg w B A n c zs) (hk : k < n) : ∃ ad, A = some ad ∧ ad.block < B ∧ zs[k]? = some (at0 zs k) ∧ w.cell? (ad.add k) = some (.int .i64 (at0 zs k)) := by
  obtain ⟨ad, u, hA, hb, hu, hc⟩ := h.reads.at_ hk
  obtain ⟨z, hz, rfl⟩ := i64_at hu
  have e := at0_of hz
  subst e
  exact ⟨ad, hA, hb, hz, hc⟩
theorem isP_rng {p : List Int} (h : isP p = true) {k : Nat} (hk : k < p.length) : 1 ≤ at0 p k ∧ at0 p k ≤ (p.length : Int) := by
  have := (isP_true.1 h).2.1 _ (at0_mem hk)
  exact this
theorem place_nat {n : Nat} {x : Int} (h : 1 ≤ x ∧ x ≤ (n : Int)) : ∃ X : Nat, x = ((X + 1 : Nat) : Int) ∧ X < n := ⟨x.toNat - 1, by omega, by omega⟩

set_option maxHeartbeats 1600000 in
theorem l7fits_any (A A' A2 : Option Addr) (n c B n' c' B' n2 c2 B2 : Nat) (p q pl : List Int) (b : Bool) (hb : fitL p q pl = b) (w : World) (h : Arg w B A n c p) (h' : Arg w B' A' n' c' q) (h2 : Arg w B2 A2 n2 c2 pl) (hr : PlOK p.length pl) (hlt : 0 < n2) (hle : n2 ≤ n') :
    Calls Try.prog 125 #[.slice A n c, .slice A' n' c', .slice A2 n2 c2] w fun e w' => e = .returned (.bool b) ∧ Drew w w' := by
  have hl := h.len
  have hl' := h'.len
  have hl2 := h2.len
  obtain ⟨L, rfl⟩ : ∃ L, n2 = L + 1 := ⟨n2 - 1, by omega⟩
  have hn2 := h2.le
  have hL1 : ((L + 1 : Nat) : Int) - 1 = (L : Int) := by omega
  have HB := hide hb
  have HL := hide hl2
  have HR := hide hr
  clear hb hr
  go_enter Try.func125, Try.ntmps125
  go_wp2
  go_loopw [8] (fun i wr => ∃ k : Nat, k ≤ L ∧ i = .int .i64 k ∧ Drew w wr ∧ Hid (∀ j, j < k → decide (at0 q j < at0 q L) = decide (at0 (nums p pl) j < at0 (nums p pl) L))) (fun i _ => L - (intOf i).toNat)
  case atStart => exact ⟨0, Nat.zero_le _, rfl, Drew.refl _, fun j hj => by omega⟩
  case round =>
    obtain ⟨k, hk, rfl, hd, hx⟩ := hrel
    by_cases hkl : k < L
    · have hdb := hd.below w.heap.size
      obtain ⟨ad', rfl, _, _, ca⟩ := (h'.below hdb).at_ (show k < n' by omega)
      obtain ⟨_, he, _, _, cb⟩ := (h'.below hdb).at_ (show L < n' by omega)
      obtain rfl := Option.some.inj he
      obtain ⟨ad2, rfl, _, _, cx⟩ := (h2.below hdb).at_ (show k < L + 1 by omega)
      obtain ⟨_, he2, _, _, cy⟩ := (h2.below hdb).at_ (show L < L + 1 by omega)
      obtain rfl := Option.some.inj he2
      obtain ⟨X, hX, hXn⟩ := place_nat ((unhide HR).rng (i := k) (by omega))
      obtain ⟨Y, hY, hYn⟩ := place_nat ((unhide HR).rng (i := L) (by omega))
      obtain ⟨ad, rfl, _, _, cc⟩ := (h.below hdb).at_ (show X < n by omega)
      obtain ⟨_, he3, _, _, cd⟩ := (h.below hdb).at_ (show Y < n by omega)
      obtain rfl := Option.some.inj he3
      have e1 : at0 (nums p pl) k = at0 p X := by rw [nums_at0 (by omega), hX]; simp
      have e2 : at0 (nums p pl) L = at0 p Y := by rw [nums_at0 (by omega), hY]; simp
      rw [hX] at cx
      rw [hY] at cy
      have k1 : ((X + 1 : Nat) : Int) - 1 = (X : Int) := by omega
      have k2 : ((Y + 1 : Nat) : Int) - 1 = (Y : Int) := by omega
      have hnn := h.le
      have w1 : IntKind.i64.wrap (X : Int) = X := by rw [IntKind.wrap_i64]; omega
      have w2 : IntKind.i64.wrap (Y : Int) = Y := by rw [IntKind.wrap_i64]; omega
      have HE := hide (And.intro e1 e2)
      have HD := hide hd
      have HX := hide (And.intro hX hY)
      clear e1 e2 hd hdb hX hY he he2 he3
      obtain ⟨a, ha⟩ : ∃ a, at0 q k = a := ⟨_, rfl⟩
      obtain ⟨b', hb'⟩ : ∃ b', at0 q L = b' := ⟨_, rfl⟩
      obtain ⟨y, hy⟩ : ∃ y, at0 p X = y := ⟨_, rfl⟩
      obtain ⟨z, hz⟩ : ∃ z, at0 p Y = z := ⟨_, rfl⟩
      have HA := hide (And.intro ha (And.intro hb' (And.intro hy hz)))
      rw [ha] at ca
      rw [hb'] at cb
      rw [hy] at cc
      rw [hz] at cd
      clear ha hb' hy hz
      by_cases t1 : a < b'
      · have d1 := decide_eq_true t1
        by_cases t2 : y < z
        · have d2 := decide_eq_true t2
          have hnext : Hid (∀ j, j < k + 1 → decide (at0 q j < at0 q L) = decide (at0 (nums p pl) j < at0 (nums p pl) L)) := hide (fun j hj => by
            by_cases hjk : j < k
            · exact unhide hx j hjk
            · obtain rfl : j = k := by omega
              rw [(unhide HE).1, (unhide HE).2, (unhide HA).1, (unhide HA).2.1, (unhide HA).2.2.1, (unhide HA).2.2.2, decide_eq_true t1, decide_eq_true t2])
          clear hx
          go_wp2
          go_quiet (fail)
          go_wp2
          go_roundw
          case rel => exact ⟨k + 1, by omega, by go_num, (unhide HD).more _, hnext⟩
          case measure => simp [intOf]; omega
        · have d2 := decide_eq_false t2
          obtain rfl : b = false := (unhide HB).symm.trans (fitL_no (k := k) (by rw [unhide HL]; omega) (by rw [unhide HL, Nat.add_sub_cancel, (unhide HE).1, (unhide HE).2, (unhide HA).1, (unhide HA).2.1, (unhide HA).2.2.1, (unhide HA).2.2.2, decide_eq_true t1, decide_eq_false t2]; decide))
          clear hx HB
          go_wp2
          go_quiet (fail)
          go_wp2
          go_ret
          exact ⟨rfl, (unhide HD).more _⟩
      · have d1 := decide_eq_false t1
        by_cases t2 : y < z
        · have d2 := decide_eq_true t2
          obtain rfl : b = false := (unhide HB).symm.trans (fitL_no (k := k) (by rw [unhide HL]; omega) (by rw [unhide HL, Nat.add_sub_cancel, (unhide HE).1, (unhide HE).2, (unhide HA).1, (unhide HA).2.1, (unhide HA).2.2.1, (unhide HA).2.2.2, decide_eq_false t1, decide_eq_true t2]; decide))
          clear hx HB
          go_wp2
          go_quiet (fail)
          go_wp2
          go_ret
          exact ⟨rfl, (unhide HD).more _⟩
        · have d2 := decide_eq_false t2
          have hnext : Hid (∀ j, j < k + 1 → decide (at0 q j < at0 q L) = decide (at0 (nums p pl) j < at0 (nums p pl) L)) := hide (fun j hj => by
            by_cases hjk : j < k
            · exact unhide hx j hjk
            · obtain rfl : j = k := by omega
              rw [(unhide HE).1, (unhide HE).2, (unhide HA).1, (unhide HA).2.1, (unhide HA).2.2.1, (unhide HA).2.2.2, decide_eq_false t1, decide_eq_false t2])
          clear hx
          go_wp2
          go_quiet (fail)
          go_wp2
          go_roundw
          case rel => exact ⟨k + 1, by omega, by go_num, (unhide HD).more _, hnext⟩
          case measure => simp [intOf]; omega
    · obtain rfl : L = k := by omega
      obtain rfl : b = true := (unhide HB).symm.trans (fitL_yes fun k hk => by
        rw [unhide HL, Nat.add_sub_cancel] at hk ⊢
        exact unhide hx k hk)
      clear hx HB
      go_wp2
      go_ret
      exact ⟨rfl, hd⟩
end Go.Proofs.Ytnnpefgbneldiaa
