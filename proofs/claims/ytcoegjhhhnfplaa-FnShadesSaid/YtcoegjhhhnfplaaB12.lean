/-
  Words and contracts that the laws lean on, bundled: Strs, Draw, DrawI, DrawL, Draw9, Big.
-/
import Derived.Test.YtcoegjhhhnfplaaProg
import Derived.Test.YtcoegjhhhnfplaaB2
import Derived.WalkKit
import Derived.Deep.QuietTactic
import Derived.BigQuiet
import Derived.Deep.RegionHeld3
import Derived.Laws.BitsAllLaws
import Derived.Test.YtcoegjhhhnfplaaB3
import Derived.Test.YtcoegjhhhnfplaaB4
import Derived.Test.YtcoegjhhhnfplaaB5
import Derived.Test.YtcoegjhhhnfplaaB9
import Derived.Test.YtcoegjhhhnfplaaB8
import Derived.Deep.RegionLaw

/-
  CONTRACTS OF THE LAWS' HELPERS OVER []string THAT ONLY READ: szStringS, eqStringS.
-/

namespace Go.Proofs.Ytcoegjhhhnfplaa
set_option maxRecDepth 100000
open Go.RowKit

def szGo : Int → List ByteArray → Int
  | l, [] => l
  | l, s :: r => if l - s.size < 0 then -1 else szGo (l - s.size) r

theorem strs_at {ss : List ByteArray} {k : Nat} {u : Value} (h : (ss.map Value.string)[k]? = some u) : ∃ s, ss[k]? = some s ∧ u = .string s := by
  rw [List.getElem?_map] at h
  cases hs : ss[k]? with
  | none => simp [hs] at h
  | some s => simp [hs] at h; exact ⟨s, rfl, h.symm⟩
theorem drop_at {α : Type} {l : List α} {k : Nat} {x : α} (h : l[k]? = some x) : l.drop k = x :: l.drop (k + 1) := by
  obtain ⟨hk, rfl⟩ := List.getElem?_eq_some_iff.1 h
  exact List.drop_eq_getElem_cons hk

theorem below_set_own {B : Nat} {w w' : World} {e : TypeId} {size : Nat} {g cap n : Nat} {xs : List Value} (hb : Below B w w') (hown : w'.ownsRow B e size (.slice (some ⟨g, 0, none⟩) n cap) n xs) (j : Nat) (u : Value) : Below B w (w'.setCell ⟨g, j, none⟩ u) :=
  hb.setCell (hown.lt g rfl).1 _

theorem strInfo : (Try.prog.info? 9).map (fun i => (i.zero, i.size, i.bytes)) = some (some (.string ByteArray.empty), 1, 16) := by kernel_rfl

theorem take_set_eq {α : Type} {xs ys : List α} {k : Nat} {u : α} (h : xs.take k = ys.take k) (hu : ys[k]? = some u) (hl : k < xs.length) : (xs.set k u).take (k + 1) = ys.take (k + 1) := by
  rw [List.take_add_one, List.take_add_one, List.take_set_of_le (Nat.le_refl _), h]
  simp [hu, hl]

end Go.Proofs.Ytcoegjhhhnfplaa


/-
  THE CURSOR OVER A DRAW (l1New, l1Byte, l1Below, l1Once, l1Pick, l1PickInt), by contracts: whatever is drawn lies in its range; nothing but the cursor's own block turns.
-/

namespace Go.Proofs.Ytcoegjhhhnfplaa
set_option maxRecDepth 100000
open Go.RowKit

/-- A block that is known whole. -/
def Blk (w : World) (g : Nat) (t : TypeId) (cs : Array Value) : Prop := w.heap[g]? = some (.cells cs t (0, 0))
section
variable {w w' : World} {g : Nat} {t : TypeId} {cs : Array Value}
theorem Blk.lt (h : Blk w g t cs) : g < w.heap.size := by
  rcases Nat.lt_or_ge g w.heap.size with hlt | hge
  · exact hlt
  · unfold Blk at h; rw [Array.getElem?_eq_none hge] at h; cases h
theorem Blk.cell (h : Blk w g t cs) (i : Nat) : w.cell? ⟨g, i, none⟩ = cs[i]? := cell_of_row w g i cs t (0, 0) h
theorem Blk.frozen (h : Blk w g t cs) (i : Nat) : w.frozen? ⟨g, i, none⟩ = false := by
  unfold Blk at h
  simp [World.frozen?, h]
theorem Blk.new (w : World) (t : TypeId) (cs : Array Value) : Blk (w.alloc (.cells cs t)) w.heap.size t cs := heap_alloc_new w _
theorem Blk.drewN (h : Blk w g t cs) (n : Nat) : Blk (w.drewN n) g t cs := h
theorem Blk.alloc (h : Blk w g t cs) (o : Obj) : Blk (w.alloc o) g t cs := (Below.heap_alloc w o g h.lt).trans h
theorem Blk.set_ (h : Blk w g t cs) (i : Nat) (u : Value) : Blk (w.setCell ⟨g, i, none⟩ u) g t (cs.setIfInBounds i u) := by
  unfold Blk at h ⊢
  simp [World.setCell, Array.getElem?_modify, h]
theorem Blk.grown {row : Option Nat} (h : Blk w g t cs) (hb : w.grownBy w' row) (hg : some g ≠ row) : Blk w' g t cs := (hb.block g h.lt hg).trans h
theorem Blk.below (h : Blk w g t cs) (hb : Below w.heap.size w w') : Blk w' g t cs := h.grown (grown_of_below hb none) (by simp)
end

/-- THE CURSOR: block cb holds the bytes' slice, the place, the mixed number. -/
def Cur (w : World) (B cb : Nat) : Prop := ∃ (A : Option Addr) (n c k : Nat) (bs : List UInt8) (h : Int),
  Blk w cb 94 #[.slice A n c, .int .i64 k, .int .i64 h] ∧ Reads w B A n (u8s bs) ∧ n ≤ 1048576 ∧ k ≤ n ∧ B ≤ cb
theorem Cur.keep {w w' : World} {B cb : Nat} (h : Cur w B cb) (hg : w.grownBy w' none) : Cur w' B cb := by
  obtain ⟨A, n, c, k, bs, x, hb, hr, hn, hk, hB⟩ := h
  exact ⟨A, n, c, k, bs, x, hb.grown hg (by simp), hr.grown hg (by have := hb.lt; omega) (by simp), hn, hk, hB⟩
theorem Cur.below {w w' : World} {B cb : Nat} (h : Cur w B cb) (hg : Below w.heap.size w w') : Cur w' B cb := h.keep (grown_of_below hg none)
theorem Cur.drewN {w : World} {B cb : Nat} (h : Cur w B cb) (n : Nat) : Cur (w.drewN n) B cb := h
theorem Cur.lt {w : World} {B cb : Nat} (h : Cur w B cb) : cb < w.heap.size := by
  obtain ⟨_, _, _, _, _, _, hb, _⟩ := h
  exact hb.lt

/-- What a draw leaves. -/
def Drawn (B cb : Nat) (w : World) (P : Value → Prop) (e : Ending) (w' : World) : Prop := ∃ v, e = .returned v ∧ P v ∧ Cur w' B cb ∧ w.grownBy w' (some cb)
def IntIn (lo hi : Int) (v : Value) : Prop := ∃ x : Int, v = .int .i64 x ∧ lo ≤ x ∧ x ≤ hi

theorem and255 (x : Int) : 0 ≤ bits .and .i64 x 255 ∧ bits .and .i64 x 255 ≤ 255 := by
  have h : (BitVec.ofInt 64 x &&& BitVec.ofInt 64 255).toNat ≤ 255 := by
    rw [BitVec.toNat_and]
    exact Nat.le_trans Nat.and_le_right (by decide)
  show 0 ≤ IntKind.i64.wrap ((BitVec.ofInt 64 x &&& BitVec.ofInt 64 255).toNat : Int) ∧ IntKind.i64.wrap ((BitVec.ofInt 64 x &&& BitVec.ofInt 64 255).toNat : Int) ≤ 255
  rw [IntKind.wrap_i64]
  omega
theorem grown_set {w : World} {g : Nat} (i : Nat) (u : Value) : w.grownBy (w.setCell ⟨g, i, none⟩ u) (some g) :=
  ⟨rfl, rfl, rfl, by simp, fun k _ hk => heap_setCell_other w ⟨g, i, none⟩ k u (fun e => hk (by simp [e]))⟩
theorem grown_drewN {a w : World} {row : Option Nat} (h : a.grownBy w row) (n : Nat) : a.grownBy (w.drewN n) row := ⟨h.os, h.tape, h.output, h.size, h.block⟩

theorem cur_byte {w : World} {B cb n c k : Nat} {A : Option Addr} {bs : List UInt8} {h : Int} (hb : Blk w cb 94 #[.slice A n c, .int .i64 k, .int .i64 h]) (hr : Reads w B A n (u8s bs)) (hn : n ≤ 1048576) (hk : k + 1 ≤ n) (hB : B ≤ cb) (h' : Int) (m : Nat) :
    Cur (((w.setCell ⟨cb, 2, none⟩ (.int .i64 h')).drewN m).setCell ⟨cb, 1, none⟩ (.int .i64 ((k : Int) + 1))) B cb := by
  refine ⟨A, n, c, k + 1, bs, h', ?_, ?_, hn, hk, hB⟩
  · exact ((hb.set_ 2 (.int .i64 h')).drewN m).set_ 1 (.int .i64 ((k : Int) + 1))
  · exact ((hr.setCell (p := ⟨cb, 2, none⟩) hB _).drewN m).setCell (p := ⟨cb, 1, none⟩) hB _
theorem cur_past {w : World} {B cb n c k : Nat} {A : Option Addr} {bs : List UInt8} {h : Int} (hb : Blk w cb 94 #[.slice A n c, .int .i64 k, .int .i64 h]) (hr : Reads w B A n (u8s bs)) (hn : n ≤ 1048576) (hk : k ≤ n) (hB : B ≤ cb) (h' : Int) (m : Nat) :
    Cur ((w.setCell ⟨cb, 2, none⟩ (.int .i64 h')).drewN m) B cb := by
  refine ⟨A, n, c, k, bs, h', ?_, ?_, hn, hk, hB⟩
  · exact (hb.set_ 2 (.int .i64 h')).drewN m
  · exact (hr.setCell (p := ⟨cb, 2, none⟩) hB _).drewN m

set_option maxRecDepth 100000 in
set_option maxHeartbeats 800000 in
theorem byte_any (B cb : Nat) (w : World) (hc : Cur w B cb) : Calls Try.prog 95 #[.pointer (some ⟨cb, 0, none⟩)] w (Drawn B cb w (IntIn 0 255)) := by
  obtain ⟨A, n, c, k, bs, h, hb, hr, hn, hk, hB⟩ := hc
  have c0 : w.cell? ⟨cb, 0, none⟩ = some (.slice A n c) := hb.cell 0
  have c1 : w.cell? ⟨cb, 1, none⟩ = some (.int .i64 k) := hb.cell 1
  have c2 : w.cell? ⟨cb, 2, none⟩ = some (.int .i64 h) := hb.cell 2
  have f1 := hb.frozen 1
  have f2 := hb.frozen 2
  by_cases hlt : k < n
  · obtain ⟨ad, u, rfl, had, hu, hx⟩ := hr.at_ hlt
    obtain ⟨b, hbk, rfl⟩ := u8_at hu
    have hx2 : ∀ v, (w.setCell ⟨cb, 2, none⟩ v).cell? (ad.add k) = some (.int .u8 b.toNat) := fun v => by
      rw [World.cell?_setCell_other w _ _ _ (fun e => by have := congrArg Addr.block e; rw [block_of_add] at this; simp at this; omega)]
      exact hx
    clear hu hx hbk
    have HB := hide hb
    have HR := hide hr
    clear hb hr
    go_enter Try.func95, Try.ntmps95
    go_wp2
    go_quiet (fail)
    go_wp2
    go_quiet (fail)
    go_wp2
    go_quiet (fail)
    go_wp2
    go_ret
    exact ⟨_, rfl, ⟨_, rfl, (and255 _).1, (and255 _).2⟩, cur_byte (unhide HB) (unhide HR) hn hlt hB _ _, grown_then (grown_drewN (grown_set 2 _) _) (grown_set 1 _)⟩
  · have HB := hide hb
    have HR := hide hr
    clear hb hr
    go_enter Try.func95, Try.ntmps95
    go_wp2
    go_quiet (fail)
    go_wp2
    go_quiet (fail)
    go_wp2
    go_ret
    exact ⟨_, rfl, ⟨_, rfl, (and255 _).1, (and255 _).2⟩, (cur_past (unhide HB) (unhide HR) hn hk hB _ _).drewN _, grown_drewN (grown_drewN (grown_set 2 _) _) _⟩

set_option maxRecDepth 100000 in
set_option maxHeartbeats 800000 in
/-- l1Below: 0 to n - 1; 0 where n is not above 0. -/
theorem below_any (B cb : Nat) (n : Int) (hn : n ≤ 1073741824) (w : World) (hc : Cur w B cb) :
    Calls Try.prog 67 #[.pointer (some ⟨cb, 0, none⟩), .int .i64 n] w (Drawn B cb w (IntIn 0 (if 0 < n then n - 1 else 0))) := by
  have H := hide (fun w hc => byte_any B cb w hc)
  have HC := hide hc
  clear hc
  by_cases h0 : 0 < n
  · rw [if_pos h0]
    by_cases h1 : n ≤ 256
    · go_enter Try.func67, Try.ntmps67
      go_wp2_with fail
      refine (unhide H _ (unhide HC)).mono ?_
      rintro e w1 ⟨v, rfl, ⟨x, rfl, hx0, hx1⟩, hc1, hg1⟩
      have HC1 := hide hc1
      have HG1 := hide hg1
      clear hc1 hg1
      have hm0 : 0 ≤ x % n := Int.emod_nonneg _ (by omega)
      have hm1 : x % n ≤ n - 1 := by have := Int.emod_lt_of_pos x h0; omega
      go_wp2
      go_ret
      exact ⟨_, rfl, ⟨_, rfl, hm0, hm1⟩, unhide HC1, unhide HG1⟩
    · go_enter Try.func67, Try.ntmps67
      go_wp2_with fail
      refine (unhide H _ (unhide HC)).mono ?_
      rintro e w1 ⟨v, rfl, ⟨x, rfl, hx0, hx1⟩, hc1, hg1⟩
      have HC1 := hide hc1
      have HG1 := hide hg1
      clear hc1 hg1
      go_wp2_with fail
      refine (unhide H _ (unhide HC1)).mono ?_
      rintro e w2 ⟨v, rfl, ⟨y, rfl, hy0, hy1⟩, hc2, hg2⟩
      have HC2 := hide hc2
      have HG2 := hide (grown_then (unhide HG1) hg2)
      clear hc2 hg2
      go_wp2_with fail
      refine (unhide H _ (unhide HC2)).mono ?_
      rintro e w3 ⟨v, rfl, ⟨z, rfl, hz0, hz1⟩, hc3, hg3⟩
      have HC3 := hide hc3
      have HG3 := hide (grown_then (unhide HG2) hg3)
      clear hc3 hg3
      go_wp2_with fail
      refine (unhide H _ (unhide HC3)).mono ?_
      rintro e w4 ⟨v, rfl, ⟨u, rfl, hu0, hu1⟩, hc4, hg4⟩
      have HC4 := hide hc4
      have HG4 := hide (grown_then (unhide HG3) hg4)
      clear hc4 hg4
      have hm0 : 0 ≤ (x * 16777216 + y * 65536 + z * 256 + u) % n := Int.emod_nonneg _ (by omega)
      have hm1 : (x * 16777216 + y * 65536 + z * 256 + u) % n ≤ n - 1 := by have := Int.emod_lt_of_pos (x * 16777216 + y * 65536 + z * 256 + u) h0; omega
      go_wp2
      go_ret
      exact ⟨_, rfl, ⟨_, rfl, hm0, hm1⟩, unhide HC4, unhide HG4⟩
  · rw [if_neg h0]
    go_enter Try.func67, Try.ntmps67
    go_wp2
    go_ret
    exact ⟨_, rfl, ⟨_, rfl, Int.le_refl _, Int.le_refl _⟩, unhide HC, World.grownBy.refl _ _⟩

def IsBool (v : Value) : Prop := ∃ b : Bool, v = .bool b
def StrOf (ss : List ByteArray) (v : Value) : Prop := ∃ s, s ∈ ss ∧ v = .string s

theorem once_any (B cb : Nat) (n : Int) (hn : n ≤ 1073741824) (w : World) (hc : Cur w B cb) :
    Calls Try.prog 68 #[.pointer (some ⟨cb, 0, none⟩), .int .i64 n] w (Drawn B cb w IsBool) := by
  have H := hide (below_any B cb n hn w hc)
  clear hc
  go_enter Try.func68, Try.ntmps68
  go_wp2_with fail
  refine (unhide H).mono ?_
  rintro e w1 ⟨v, rfl, ⟨x, rfl, hx0, hx1⟩, hc1, hg1⟩
  have HC1 := hide hc1
  have HG1 := hide hg1
  clear hc1 hg1 hx0 hx1 H
  go_wp2
  go_ret
  exact ⟨_, rfl, ⟨_, rfl⟩, unhide HC1, unhide HG1⟩

def IntOf (zs : List Int) (v : Value) : Prop := ∃ z, z ∈ zs ∧ v = .int .i64 z
set_option maxHeartbeats 800000 in
theorem pickInt_any (B cb g : Nat) (n c : Nat) (zs : List Int) (w : World) (hc : Cur w B cb) (hl : Blk w g 3 (zs.map (Value.int .i64)).toArray) (hne : g ≠ cb) (hn : zs.length = n) (h0 : 0 < n) (h1 : n ≤ 1048576) :
    Calls Try.prog 83 #[.pointer (some ⟨cb, 0, none⟩), .slice (some ⟨g, 0, none⟩) n c] w (Drawn B cb w (IntOf zs)) := by
  have H := hide (below_any B cb n (by omega) w hc)
  have HL := hide hl
  have HN := hide hn
  clear hc hl hn
  go_enter Try.func83, Try.ntmps83
  go_wp2_with fail
  refine (unhide H).mono ?_
  rintro e w1 ⟨v, rfl, ⟨x, rfl, hx0, hx1⟩, hc1, hg1⟩
  rw [if_pos (by omega)] at hx1
  obtain ⟨k, rfl⟩ : ∃ k : Nat, x = k := ⟨x.toNat, by omega⟩
  have hk : k < n := by omega
  have hcell : w1.cell? ⟨g, k, none⟩ = some (.int .i64 (zs[k]'(by have := unhide HN; omega))) := by
    rw [((unhide HL).grown hg1 (by simp; omega)).cell k]
    simp [show k < zs.length by have := unhide HN; omega]
  have hmem : zs[k]'(by have := unhide HN; omega) ∈ zs := List.getElem_mem _
  generalize zs[k]'(by have := unhide HN; omega) = z at hcell hmem
  have HM := hide hmem
  have HC1 := hide hc1
  have HG1 := hide hg1
  clear hc1 hg1 hmem H
  go_wp2
  go_ret
  exact ⟨_, rfl, ⟨_, unhide HM, rfl⟩, unhide HC1, unhide HG1⟩

/-- A new cursor. -/
def NewCur (B : Nat) (w : World) (e : Ending) (w' : World) : Prop := ∃ cb, e = .returned (.pointer (some ⟨cb, 0, none⟩)) ∧ w.heap.size ≤ cb ∧ Cur w' B cb ∧ Below w.heap.size w w'
set_option maxRecDepth 100000 in
set_option maxHeartbeats 800000 in
theorem new_any (A : Option Addr) (n c B : Nat) (bs : List UInt8) (w : World) (hr : Reads w B A n (u8s bs)) (hn : n ≤ 1048576) (hB : B ≤ w.heap.size) :
    Calls Try.prog 41 #[.slice A n c] w (NewCur B w) := by
  go_enter Try.func41, Try.ntmps41
  go_wp2
  go_loop [3, 4] (fun hv i => ∃ (k : Nat) (x : Int), k ≤ n ∧ i = .int .i64 k ∧ hv = .int .i64 x) (fun _ i => n - (intOf i).toNat)
  case atStart => exact ⟨0, _, Nat.zero_le _, rfl, rfl⟩
  case round =>
    obtain ⟨k, x, hk, rfl, rfl⟩ := hrel
    by_cases hlt : k < n
    · obtain ⟨ad, u, rfl, had, hu, hx⟩ := hr.at_ hlt
      obtain ⟨b, hbk, rfl⟩ := u8_at hu
      clear hu hbk
      by_cases h4 : k < 4000
      · go_wp2
        go_round
        case rel => exact ⟨k + 1, _, by omega, by go_num, rfl⟩
        case measure => simp [intOf]; omega
      · go_wp2
        go_ret
        exact ⟨w.heap.size, rfl, Nat.le_refl _, ⟨some ad, n, c, 0, bs, x, Blk.new _ _ _, hr.alloc hB _, hn, Nat.zero_le _, hB⟩, (Below.refl _ _).alloc (Nat.le_refl _) _⟩
    · go_wp2
      go_ret
      exact ⟨w.heap.size, rfl, Nat.le_refl _, ⟨A, n, c, 0, bs, x, Blk.new _ _ _, hr.alloc hB _, hn, Nat.zero_le _, hB⟩, (Below.refl _ _).alloc (Nat.le_refl _) _⟩
end Go.Proofs.Ytcoegjhhhnfplaa


/-
  DRAWS OF ROWS OF INTEGERS: spec.l2Draw, spec.l2Any, spec.l2Bent, by their contracts.
-/

namespace Go.Proofs.Ytcoegjhhhnfplaa
set_option maxRecDepth 100000
open Go.RowKit

/-- What a call that draws has done so far: the cursor stands in block cb; of the blocks that were there the cursor's alone may have turned. -/
structure Side (B cb : Nat) (w wr : World) : Prop where
  cur : Cur wr B cb
  lt : cb < w.heap.size
  gr : w.grownBy wr (some cb)
theorem Cur.base {w : World} {B cb : Nat} (h : Cur w B cb) : B ≤ cb := by
  obtain ⟨_, _, _, _, _, _, _, _, _, _, hB⟩ := h
  exact hB
theorem Side.start {B cb : Nat} {w : World} (h : Cur w B cb) : Side B cb w w := ⟨h, h.lt, World.grownBy.refl w _⟩
theorem Side.size {B cb : Nat} {w wr : World} (h : Side B cb w wr) : w.heap.size ≤ wr.heap.size := h.gr.size
theorem Cur.low {w w' : World} {B cb L : Nat} (h : Cur w B cb) (hL : cb < L) (hb : Below L w w') : Cur w' B cb := by
  obtain ⟨A, n, c, k, bs, x, h1, hr, hn, hk, hB⟩ := h
  exact ⟨A, n, c, k, bs, x, (hb.block cb hL).trans h1, hr.below (hb.mono (by omega)), hn, hk, hB⟩
/-- Work of the call's own. -/
theorem Side.low {B cb : Nat} {w wr w' : World} (h : Side B cb w wr) (hb : Below w.heap.size wr w') : Side B cb w w' :=
  ⟨h.cur.low h.lt hb, h.lt, ⟨hb.os.trans h.gr.os, hb.tape.trans h.gr.tape, hb.output.trans h.gr.output, Nat.le_trans h.gr.size hb.size, fun i hi hne => (hb.block i hi).trans (h.gr.block i hi hne)⟩⟩
theorem Side.below {B cb : Nat} {w wr w' : World} (h : Side B cb w wr) (hb : Below wr.heap.size wr w') : Side B cb w w' := h.low (hb.mono h.size)
/-- A draw. -/
theorem Side.drawn {B cb : Nat} {w wr w' : World} (h : Side B cb w wr) (hc : Cur w' B cb) (hg : wr.grownBy w' (some cb)) : Side B cb w w' := ⟨hc, h.lt, grown_then h.gr hg⟩
theorem own_drawn {w w' : World} {B cb n : Nat} {e : TypeId} {v : Value} {xs : List Value} (h : w.ownsRow B e 1 v n xs) (hg : w.grownBy w' (some cb)) (hc : cb < B) : w'.ownsRow B e 1 v n xs := by
  refine h.kept hg ?_
  cases hv : v.ownBlock with
  | none => exact .inl rfl
  | some k => exact .inr (fun e => by have := (h.lt k hv).1; injection e with e; omega)
theorem Ints.drawn {w w' : World} {B cb : Nat} {v : Value} {zs : List Int} (h : Ints w B v zs) (hg : w.grownBy w' (some cb)) (hc : cb < B) : Ints w' B v zs := by
  refine h.kept hg ?_
  cases hv : v.ownBlock with
  | none => exact .inl rfl
  | some k => exact .inr (fun e => by have := h.since k hv; injection e with e; omega)
theorem Inner.drawn {w w' : World} {B cb : Nat} {vs : List Value} {zss : List (List Int)} (h : Inner w B vs zss) (hg : w.grownBy w' (some cb)) (hc : cb < B) : Inner w' B vs zss :=
  ⟨h.len, fun i u zs hu hz => (h.row i u zs hu hz).drawn hg hc, h.away⟩
theorem IntsS.drawn {w w' : World} {B cb : Nat} {v : Value} {zss : List (List Int)} (h : IntsS w B v zss) (hg : w.grownBy w' (some cb)) (hc : cb < B) : IntsS w' B v zss := by
  obtain ⟨vs, h1, h2⟩ := h
  exact ⟨vs, own_drawn h1 hg hc, h2.drawn hg hc⟩

/-- What is drawn is short and its numbers have 64 bits. -/
def Lite (L : Nat) (zs : List Int) : Prop := zs.length ≤ L ∧ Small zs
/-- A row that was drawn, with room to grow. -/
def DrawnO (B cb : Nat) (w : World) (L : Nat) (e : Ending) (w' : World) : Prop :=
  ∃ A c zs, e = .returned (.slice A zs.length c) ∧ Lite L zs ∧ w'.ownsRow w.heap.size 3 1 (.slice A zs.length c) zs.length (i64s zs) ∧ Cur w' B cb ∧ w.grownBy w' (some cb)
/-- .. of a known length. -/
def DrawnE (B cb : Nat) (w : World) (L : Nat) (e : Ending) (w' : World) : Prop :=
  ∃ A c zs, e = .returned (.slice A L c) ∧ zs.length = L ∧ Small zs ∧ w'.ownsRow w.heap.size 3 1 (.slice A L c) L (i64s zs) ∧ Cur w' B cb ∧ w.grownBy w' (some cb)
theorem DrawnE.mk {B cb L : Nat} {w w' : World} {v : Value} {zs : List Int} (hI : w'.ownsRow w.heap.size 3 1 v L (i64s zs)) (hn : zs.length = L) (hl : Small zs) (h : Side B cb w w') : DrawnE B cb w L (.returned v) w' := by
  obtain ⟨A, c, rfl, _⟩ := Reads.of_own hI
  exact ⟨A, c, zs, rfl, hn, hl, hI, h.cur, h.gr⟩
theorem DrawnO.mk {B cb L : Nat} {w w' : World} {v : Value} {zs : List Int} (hI : w'.ownsRow w.heap.size 3 1 v zs.length (i64s zs)) (hl : Lite L zs) (h : Side B cb w w') : DrawnO B cb w L (.returned v) w' := by
  obtain ⟨A, c, rfl, _⟩ := Reads.of_own hI
  exact ⟨A, c, zs, rfl, hl, hI, h.cur, h.gr⟩
/-- A row that was drawn. -/
def DrawnI (B cb : Nat) (w : World) (L : Nat) (e : Ending) (w' : World) : Prop :=
  ∃ A c zs, e = .returned (.slice A zs.length c) ∧ Lite L zs ∧ Ints w' w.heap.size (.slice A zs.length c) zs ∧ Cur w' B cb ∧ w.grownBy w' (some cb)
theorem DrawnI.mk {B cb L : Nat} {w w' : World} {v : Value} {zs : List Int} (hI : Ints w' w.heap.size v zs) (hl : Lite L zs) (h : Side B cb w w') : DrawnI B cb w L (.returned v) w' := by
  obtain ⟨A, c, rfl⟩ := hI.slice
  exact ⟨A, c, zs, rfl, hl, hI, h.cur, h.gr⟩
theorem Lite.more {L L' : Nat} {zs : List Int} (h : Lite L zs) (hL : L ≤ L') : Lite L' zs := ⟨Nat.le_trans h.1 hL, h.2⟩
theorem Lite.arg {w : World} {B n c L : Nat} {A : Option Addr} {zs : List Int} (h : Lite L zs) (hI : Ints w B (.slice A n c) zs) (hL : L ≤ 1048576) : Arg w w.heap.size A n c zs :=
  hI.arg (by have := hI.len; have := h.1; omega) hI.cap h.2
theorem small_nil : Small [] := fun z hz => by simp at hz
theorem small_put {zs : List Int} {at_ : Nat} {k : Int} (h : Small zs) (hk : -9223372036854775808 ≤ k ∧ k ≤ 9223372036854775807) : Small (zs.take at_ ++ [k] ++ zs.drop at_) := fun z hz => by
  rcases List.mem_append.1 hz with hz | hz
  · rcases List.mem_append.1 hz with hz | hz
    · exact h z (List.mem_of_mem_take hz)
    · rw [List.mem_singleton] at hz; subst hz; exact hk
  · exact h z (List.mem_of_mem_drop hz)

theorem own_base {w : World} {B B' n : Nat} {e : TypeId} {v : Value} {xs : List Value} (h : w.ownsRow B e 1 v n xs) (hB : B' ≤ B) : w.ownsRow B' e 1 v n xs := by
  refine ⟨h.1, ?_⟩
  rcases h.2 with h2 | ⟨g, cap, cur, e, hb, h2⟩
  · exact .inl h2
  · exact .inr ⟨g, cap, cur, e, Nat.le_trans hB hb, h2⟩
theorem take_i64 (zs : List Int) (s : Nat) : (i64s zs).take s = i64s (zs.take s) := by unfold i64s; rw [List.map_take]
theorem drop_i64 (zs : List Int) (s : Nat) : (i64s zs).drop s = i64s (zs.drop s) := by unfold i64s; rw [List.map_drop]
theorem i64_snoc2 (xs : List Int) (z : Int) : i64s xs ++ [Value.int .i64 z] = i64s (xs ++ [z]) := by unfold i64s; simp

set_option maxHeartbeats 1600000 in
theorem l2drawE_any (B cb m : Nat) (hm : m ≤ 16) (w : World) (hc : Cur w B cb) :
    Calls Try.prog 66 #[.pointer (some ⟨cb, 0, none⟩), .int .i64 m] w (DrawnE B cb w m) := by
  obtain ⟨i0, hi, hz0, hz1, hz2⟩ := info_parts intInfo
  have hS0 := Side.start hc
  have hst := own0 w w.heap.size (Nat.le_refl _)
  have hS := hS0.below ((Below.refl w.heap.size w).alloc (Nat.le_refl _) (.cells #[] 3))
  clear hS0 hc
  go_enter Try.func66, Try.ntmps66
  go_wp2
  go_loopw [5, 6, 7, 8] (fun v i _ _ wr => ∃ (k : Nat) (zs : List Int) (g cap : Nat), k ≤ m ∧ i = .int .i64 ((k : Int) + 1) ∧ v = .slice (some ⟨g, 0, none⟩) k cap ∧ zs.length = k ∧ k ≤ cap ∧ w.heap.size ≤ g ∧ Hid (Small zs) ∧ Side B cb w wr ∧ wr.ownsRow w.heap.size 3 1 (.slice (some ⟨g, 0, none⟩) k cap) k (i64s zs)) (fun _ i _ _ _ => m + 1 - (intOf i).toNat)
  case atStart => exact ⟨0, [], w.heap.size, 0, Nat.zero_le _, rfl, rfl, rfl, Nat.le_refl _, Nat.le_refl _, small_nil, hS, hst⟩
  case round =>
    obtain ⟨k, zs, g, cap, hk, rfl, rfl, hzl, hkc, hgb, hsm, hS, hown⟩ := hrel
    clear hst
    by_cases hlt : k < m
    · have H1 := hide (below_any B cb ((k : Int) + 1) (by omega) wr hS.cur)
      have hlt' : (k : Int) + 1 ≤ (m : Int) := by omega
      have HZL := hide hzl
      clear hzl
      go_wp2_with fail
      refine (unhide H1).mono ?_
      rintro e w1 ⟨v, rfl, ⟨x, rfl, hx0, hx1⟩, hc1, hg1⟩
      rw [if_pos (by omega)] at hx1
      obtain ⟨s, rfl⟩ : ∃ s : Nat, x = s := ⟨x.toNat, by omega⟩
      have hsk : s ≤ k := by omega
      have hown1 := own_drawn hown hg1 hS.lt
      have hS1 := hS.drawn hc1 hg1
      clear H1 hown hc1 hg1 hS hx0 hx1
      by_cases hsc : s < cap
      · have hsc' : (s : Int) < (cap : Int) := by omega
        have hsk' : (s : Int) ≤ (k : Int) := by omega
        have hE := own0 w1 w1.heap.size (Nat.le_refl _)
        have hal := (Below.refl w1.heap.size w1).alloc (Nat.le_refl _) (.cells #[] 3)
        have hsz1 := hS1.size
        have hA : Arg (w1.alloc (.cells #[] 3)) w1.heap.size (some ⟨g, s, none⟩) (k - s) (cap - s) (zs.drop s) := by
          refine ⟨by rw [← drop_i64]; exact (own_rest hown1 hsk).below hal, by simp, by omega, by omega, fun z hz => unhide hsm z (List.mem_of_mem_drop hz), fun e => by cases e⟩
        go_wp2_with (first
          | (at_builtin; refine wpList_append_arg rfl (.tmp 20) (.tmp 23) rfl w1.heap.size w1.heap.size 0 (k - s) (cap - s) w1 _ (some ⟨g, s, none⟩) [] (zs.drop s) rfl rfl hE hA (by omega) hal hal.size ?_))
        intro v2 w2 hown2 hb2 hg2
        clear hE hA hal hg2
        have hown3 := own_cut (own_below hown1 hb2) hsk
        rw [take_i64] at hown3
        have hS2 := hS1.below hb2
        have hgw1 := (hown1.lt g rfl).2
        clear hown1 hS1
        go_wp2_with (first
          | (at_builtin; refine wpList_append_one rfl (.tmp 27) (.tmp 29) 24 rfl w.heap.size 3 i0 (.int .i64 0) 8 Try.underlying24 hi hz0 hz1 hz2 rfl w2 w2 _ _ _ rfl hown3 (.int .i64 ((k : Int) + 1)) rfl rfl rfl (by omega) (by unfold maxLen; omega) (Below.refl _ _) hS2.size ?_))
        intro v4 w4 hown4 hb4 hg4
        have hI2 : Ints w4 w1.heap.size v2 (zs.drop s) := by
          have h : Ints w2 w1.heap.size v2 (zs.drop s) := Ints.of_own hown2
          refine h.kept hg4 ?_
          cases hv : v2.ownBlock with
          | none => exact .inl rfl
          | some q => exact .inr (fun e => by have := h.since q hv; simp [Value.ownBlock] at e; omega)
        obtain ⟨A2, c2, rfl, _⟩ := Reads.of_own hown2
        have hdl : (zs.drop s).length = k - s := by have h := hown2.1; rw [i64_length] at h; omega
        have hA4 := hI2.arg (by omega) hI2.cap (show Small (zs.drop s) from fun z hz => unhide hsm z (List.mem_of_mem_drop hz))
        rw [i64_snoc2] at hown4
        have hS4 := hS2.low hb4
        clear hown2 hI2 hown3 hS2 hg4 hb2
        go_wp2_with (first
          | (at_builtin; refine wpList_append_arg rfl (.tmp 30) (.tmp 31) rfl w.heap.size w4.heap.size (s + 1) (k - s) c2 w4 _ A2 (zs.take s ++ [(k : Int) + 1]) (zs.drop s) rfl rfl hown4 hA4 (by omega) (Below.refl _ _) hS4.size ?_))
        intro v5 w5 hown5 hb5 hg5
        obtain ⟨g5, c5, rfl, hg5b, hc5⟩ := own_first hown5 (by omega)
        have hS5 := hS4.low hb5
        have hk1 : s + 1 + (k - s) = k + 1 := by omega
        rw [hk1] at hown5 hc5 ⊢
        have hsm5 := hide (small_put (at_ := s) (k := (k : Int) + 1) (unhide hsm) (by omega))
        have hlen5 : (zs.take s ++ [(k : Int) + 1] ++ zs.drop s).length = k + 1 := by
          have := unhide HZL
          simp only [List.length_append, List.length_take, List.length_drop, List.length_singleton]; omega
        clear hown4 hA4 hS4 hb4 hb5 hg5
        go_wp2
        go_roundw
        case rel => exact ⟨k + 1, _, g5, c5, by omega, by go_num, rfl, hlen5, hc5, hg5b, hsm5, hS5, by rw [List.append_assoc]; exact hown5⟩
        case measure => simp [intOf]; omega
      · have hsk2 : s = k := by omega
        have hkc2 : k = cap := by omega
        subst hsk2
        subst hkc2
        have hsk' : (s : Int) ≤ (s : Int) := by omega
        have hE := own0 w1 w1.heap.size (Nat.le_refl _)
        have hal := (Below.refl w1.heap.size w1).alloc (Nat.le_refl _) (.cells #[] 3)
        have hsz1 := hS1.size
        have hA : Arg (w1.alloc (.cells #[] 3)) w1.heap.size (some ⟨g, 0, none⟩) (0) (0) (zs.drop s) := by
          have hz0 : zs.drop s = [] := List.drop_of_length_le (by have := unhide HZL; omega)
          rw [hz0]
          exact ⟨⟨rfl, fun h => absurd h (by omega)⟩, by simp, by omega, by omega, small_nil, fun e => by cases e⟩
        go_wp2_with (first
          | (at_builtin; refine wpList_append_arg rfl (.tmp 20) (.tmp 23) rfl w1.heap.size w1.heap.size 0 (0) (0) w1 _ (some ⟨g, 0, none⟩) [] (zs.drop s) rfl rfl hE hA (by omega) hal hal.size ?_))
        intro v2 w2 hown2 hb2 hg2
        clear hE hA hal hg2
        have hown3 := own_cut (own_below hown1 hb2) hsk
        rw [take_i64] at hown3
        have hS2 := hS1.below hb2
        have hgw1 := (hown1.lt g rfl).2
        clear hown1 hS1
        go_wp2_with (first
          | (at_builtin; refine wpList_append_one rfl (.tmp 27) (.tmp 29) 24 rfl w.heap.size 3 i0 (.int .i64 0) 8 Try.underlying24 hi hz0 hz1 hz2 rfl w2 w2 _ _ _ rfl hown3 (.int .i64 ((s : Int) + 1)) rfl rfl rfl (by omega) (by unfold maxLen; omega) (Below.refl _ _) hS2.size ?_))
        intro v4 w4 hown4 hb4 hg4
        have hI2 : Ints w4 w1.heap.size v2 (zs.drop s) := by
          have h : Ints w2 w1.heap.size v2 (zs.drop s) := Ints.of_own hown2
          refine h.kept hg4 ?_
          cases hv : v2.ownBlock with
          | none => exact .inl rfl
          | some q => exact .inr (fun e => by have := h.since q hv; simp [Value.ownBlock] at e; omega)
        obtain ⟨A2, c2, rfl, _⟩ := Reads.of_own hown2
        have hdl : (zs.drop s).length = 0 := by have h := hown2.1; rw [i64_length] at h; omega
        have hA4 := hI2.arg (by omega) hI2.cap (show Small (zs.drop s) from fun z hz => unhide hsm z (List.mem_of_mem_drop hz))
        rw [i64_snoc2] at hown4
        have hS4 := hS2.low hb4
        clear hown2 hI2 hown3 hS2 hg4 hb2
        go_wp2_with (first
          | (at_builtin; refine wpList_append_arg rfl (.tmp 30) (.tmp 31) rfl w.heap.size w4.heap.size (s + 1) (0) c2 w4 _ A2 (zs.take s ++ [(s : Int) + 1]) (zs.drop s) rfl rfl hown4 hA4 (by omega) (Below.refl _ _) hS4.size ?_))
        intro v5 w5 hown5 hb5 hg5
        obtain ⟨g5, c5, rfl, hg5b, hc5⟩ := own_first hown5 (by omega)
        have hS5 := hS4.low hb5
        have hk1 : s + 1 + (0) = s + 1 := by omega
        rw [hk1] at hown5 hc5 ⊢
        have hsm5 := hide (small_put (at_ := s) (k := (s : Int) + 1) (unhide hsm) (by omega))
        have hlen5 : (zs.take s ++ [(s : Int) + 1] ++ zs.drop s).length = s + 1 := by
          have := unhide HZL
          simp only [List.length_append, List.length_take, List.length_drop, List.length_singleton]; omega
        clear hown4 hA4 hS4 hb4 hb5 hg5
        go_wp2
        go_roundw
        case rel => exact ⟨s + 1, _, g5, c5, by omega, by go_num, rfl, hlen5, hc5, hg5b, hsm5, hS5, by rw [List.append_assoc]; exact hown5⟩
        case measure => simp [intOf]; omega
    · obtain rfl : k = m := by omega
      have hlt' : ¬ (k : Int) + 1 ≤ (k : Int) := by omega
      have HS := hide hS
      have HZ := hide hzl
      clear hzl hS
      go_wp2
      go_ret
      exact DrawnE.mk hown (unhide HZ) (unhide hsm) (unhide HS)
theorem l2draw_any (B cb m : Nat) (hm : m ≤ 16) (w : World) (hc : Cur w B cb) :
    Calls Try.prog 66 #[.pointer (some ⟨cb, 0, none⟩), .int .i64 m] w (DrawnO B cb w m) := by
  refine (l2drawE_any B cb m hm w hc).mono ?_
  rintro e w1 ⟨A, c, zs, rfl, hl, hs, hown, hc1, hg1⟩
  refine ⟨A, c, zs, by rw [hl], ⟨by omega, hs⟩, ?_, hc1, hg1⟩
  rw [hl]
  exact hown

set_option maxHeartbeats 800000 in
theorem l2any_any (B cb : Nat) (w : World) (hc : Cur w B cb) : Calls Try.prog 82 #[.pointer (some ⟨cb, 0, none⟩)] w (DrawnO B cb w 8) := by
  have hal := (Below.refl w.heap.size w).alloc (Nat.le_refl _) (.cells ([0, 1, 2, 3, 4, 5, 5, 6, 6, 7, 8].map (Value.int .i64)).toArray 3)
  have hS := (Side.start hc).below hal
  have hne : w.heap.size ≠ cb := by have := hc.lt; omega
  have H1 := hide (pickInt_any B cb w.heap.size 11 11 [0, 1, 2, 3, 4, 5, 5, 6, 6, 7, 8] _ hS.cur (Blk.new w _ _) hne rfl (by omega) (by omega))
  clear hal hc
  simp only [List.map_cons, List.map_nil] at hS H1
  go_enter Try.func82, Try.ntmps82
  go_wp2_with fail
  refine (unhide H1).mono ?_
  rintro e w1 ⟨v, rfl, ⟨x, hx, rfl⟩, hc1, hg1⟩
  have hx8 : 0 ≤ x ∧ x ≤ 8 := by
    simp only [List.mem_cons, List.not_mem_nil, or_false] at hx
    omega
  obtain ⟨m, rfl⟩ : ∃ m : Nat, x = m := ⟨x.toNat, by omega⟩
  have hm : m ≤ 8 := by omega
  have hS1 := hS.drawn hc1 hg1
  have H2 := hide (l2draw_any B cb m (by omega) w1 hc1)
  clear H1 hx hx8 hS hc1 hg1
  go_wp2_with fail
  refine (unhide H2).mono ?_
  rintro e w2 ⟨A2, c2, zs, rfl, hl, hown, hc2, hg2⟩
  have hS2 := hS1.drawn hc2 hg2
  have hown2 := own_base hown hS1.size
  have HL := hide (hl.more hm)
  have HS := hide hS2
  clear H2 hl hc2 hg2 hS2 hown
  go_wp2
  go_ret
  exact ⟨A2, c2, zs, rfl, unhide HL, hown2, (unhide HS).cur, (unhide HS).gr⟩

set_option maxHeartbeats 1600000 in
theorem l2bent_any (B cb : Nat) (w : World) (hc : Cur w B cb) : Calls Try.prog 42 #[.pointer (some ⟨cb, 0, none⟩)] w (DrawnI B cb w 9) := by
  obtain ⟨i0, hi, hz0, hz1, hz2⟩ := info_parts intInfo
  have hS := Side.start hc
  have H1 := hide (l2any_any B cb w hc)
  clear hc
  go_enter Try.func42, Try.ntmps42
  go_wp2_with fail
  refine (unhide H1).mono ?_
  rintro e w1 ⟨A, c, zs, rfl, hl, hown, hc1, hg1⟩
  have hS1 := hS.drawn hc1 hg1
  have H2 := hide (below_any B cb 14 (by omega) w1 hc1)
  have HL := hide hl
  have hl8 := hl.1
  clear H1 hS hc1 hg1 hl
  go_wp2_with fail
  refine (unhide H2).mono ?_
  rintro e w2 ⟨v, rfl, ⟨x, rfl, hx0, hx1⟩, hc2, hg2⟩
  have hS2 := hS1.drawn hc2 hg2
  have hown2 := own_drawn hown hg2 hS1.lt
  clear H2 hown hS1 hg2
  by_cases h0 : x = 0
  · subst h0
    have H3 := hide (below_any B cb 12 (by omega) w2 hc2)
    clear hc2
    go_wp2_with fail
    refine (unhide H3).mono ?_
    rintro e w3 ⟨v, rfl, ⟨y, rfl, hy0, hy1⟩, hc3, hg3⟩
    rw [if_pos (by omega)] at hy1
    have hS3 := hS2.drawn hc3 hg3
    have hown3 := own_drawn hown2 hg3 hS2.lt
    have hsz := hS3.size
    clear H3 hown2 hS2 hc3 hg3
    go_wp2_with (first
      | (at_builtin; refine wpList_append_one rfl (.tmp 10) (.tmp 14) 24 rfl w.heap.size 3 i0 (.int .i64 0) 8 Try.underlying24 hi hz0 hz1 hz2 rfl w3 w3 _ _ _ rfl hown3 (.int .i64 (y - 1)) rfl rfl rfl (by omega) (by unfold maxLen; omega) (Below.refl _ _) hsz ?_))
    intro v4 w4 hown4 hb4 _
    rw [i64_snoc2] at hown4
    have hI : Ints w4 w.heap.size v4 (zs ++ [y - 1]) := by
      have h := hown4
      rw [show zs.length + 1 = (zs ++ [y - 1]).length by simp] at h
      exact Ints.of_own h
    have hS4 := hS3.low hb4
    have HL2 := hide (show Lite 9 (zs ++ [y - 1]) from ⟨by simp; omega, fun z hz => by
      rcases List.mem_append.1 hz with hz | hz
      · exact (unhide HL).2 z hz
      · rw [List.mem_singleton] at hz; subst hz; omega⟩)
    have HS := hide hS4
    clear hown3 hS3 hown4 hb4 hS4
    go_wp2
    go_ret
    exact DrawnI.mk hI (unhide HL2) (unhide HS)
  · have HS := hide hS2
    have HL2 := hide ((unhide HL).more (show 8 ≤ 9 by omega))
    by_cases h1 : x = 1
    · subst h1
      by_cases hlen : 0 < zs.length
      · obtain ⟨g, c', hv, hgb, hcc⟩ := own_first hown2 hlen
        injection hv with hv1 hv2 hv3
        subst hv1
        subst hv3
        have H3 := hide (below_any B cb 11 (by omega) w2 hc2)
        have hlen' : (0 : Int) < (zs.length : Int) := by omega
        clear hc2
        go_wp2_with fail
        refine (unhide H3).mono ?_
        rintro e w3 ⟨v, rfl, ⟨y, rfl, hy0, hy1⟩, hc3, hg3⟩
        rw [if_pos (by omega)] at hy1
        have hS3 := hS2.drawn hc3 hg3
        have hown3 := own_drawn hown2 hg3 hS2.lt
        obtain ⟨old, hold⟩ : ∃ old, w3.cell? ⟨g, 0, none⟩ = some old := ⟨_, by rw [hown3.cellAt 0 (by omega)]; exact List.getElem?_eq_getElem (by rw [i64_length]; exact hlen)⟩
        have hfz := hown3.frozenAt 0
        have hst := hown3.stored 0 (.int .i64 (y - 1))
        have hb4 := (Below.refl w.heap.size w3).setCell (p := ⟨g, 0, none⟩) hgb (.int .i64 (y - 1))
        have hS4 := hS3.low hb4
        have hI : Ints (w3.setCell ⟨g, 0, none⟩ (.int .i64 (y - 1))) w.heap.size (.slice (some ⟨g, 0, none⟩) zs.length c) (zs.set 0 (y - 1)) := by
          have h := hst.1
          rw [show (i64s zs).set 0 (.int .i64 (y - 1)) = i64s (zs.set 0 (y - 1)) by unfold i64s; rw [List.map_set]] at h
          have h9 := Ints.of_own (zs := zs.set 0 (y - 1)) (n := zs.length) h
          exact h9
        have HL3 := hide (show Lite 9 (zs.set 0 (y - 1)) from ⟨by rw [List.length_set]; omega, fun z hz => by
          rcases List.mem_or_eq_of_mem_set hz with hz | hz
          · exact (unhide HL).2 z hz
          · subst hz; omega⟩)
        have HS4 := hide hS4
        clear H3 hown2 hS2 hc3 hg3 hown3 hS3 hst hb4 hS4
        go_wp2
        go_ret
        exact DrawnI.mk hI (unhide HL3) (unhide HS4)
      · obtain rfl : zs = [] := List.eq_nil_of_length_eq_zero (by omega)
        have hI : Ints w2 w.heap.size (.slice A 0 c) [] := Ints.of_own hown2
        clear hown2 hc2 hS2 hlen
        go_wp2
        go_ret
        exact DrawnI.mk hI (unhide HL2) (unhide HS)
    · have hI : Ints w2 w.heap.size (.slice A zs.length c) zs := Ints.of_own hown2
      clear hown2 hc2 hS2
      go_wp2
      go_ret
      exact DrawnI.mk hI (unhide HL2) (unhide HS)
end Go.Proofs.Ytcoegjhhhnfplaa


/-
  DRAWS OF LISTS: spec.l3List, by its contract.
-/

namespace Go.Proofs.Ytcoegjhhhnfplaa
set_option maxRecDepth 100000
open Go.RowKit

theorem IntsS.fresh {w0 w : World} {B cb : Nat} {v u : Value} {zss : List (List Int)} {zs : List Int} (h : IntsS w0 B v zss) (hg : w0.grownBy w (some cb)) (hc : cb < B) (hu : Ints w w0.heap.size u zs) : Fresh w B v zss u := by
  obtain ⟨vs, h1, h2⟩ := h
  exact ⟨vs, own_drawn h1 hg hc, h2.drawn hg hc, h2.away_new hu.since (Nat.le_refl _)⟩
theorem wpList_push_fresh {ops : Array Oper} {rest : List Oper} {o : Oper} {a : Act} {W : World} {Q : Exit → Act → World → Prop} (hgd : o.guard = none) (sl x : Operand)
    (ho : o.op = .call { callee := .builtin .append, args := #[sl, x], argTypes := #[25, 25] })
    (base : Nat) (wr : World) (v u : Value) (zss : List (List Int)) (zs : List Int) (hs : a.eval sl = v) (hx : a.eval x = .slice (some ⟨wr.heap.size, 0, none⟩) 1 1) (hW : W = wr.alloc (.cells #[u] 24))
    (hS : Fresh wr base v zss u) (hu : Ints wr base u zs) (hn : zss.length ≤ 1048576) (hbase : base ≤ wr.heap.size)
    (K : ∀ v' w', IntsS w' base v' (zss ++ [zs]) → Below base wr w' → wpList Try.prog ops Q rest (a.put o.dst v') w') : wpList Try.prog ops Q (o :: rest) a W := by
  obtain ⟨i0, hi, hz0, hz1, hz2⟩ := info_parts rowsInfo
  obtain ⟨vs, hown, hin, ha⟩ := hS
  obtain ⟨A1, c1, rfl⟩ := hu.slice
  refine wpList_append_one hgd sl x 25 ho base 24 i0 (.slice none 0 0) 24 Try.underlying25 hi hz0 hz1 hz2 rfl wr wr v _ _ hs hown _ hx hW rfl (by omega) (by unfold maxLen; omega) (Below.refl _ _) hbase fun v' w' h1 h2 h3 => K v' w' ?_ h2
  have hk := KeepI.of_grown hown h3
  refine ⟨vs ++ [.slice A1 zs.length c1], by rw [List.length_append]; exact h1, ?_⟩
  exact (hin.keepI hk).push (hu.keepI hk) ha
theorem IntsS.putDrawn {w0 w : World} {B cb g n cap k : Nat} {zss : List (List Int)} {z : List Int} {u : Value} (h : IntsS w0 B (.slice (some ⟨g, 0, none⟩) n cap) zss) (hg : w0.grownBy w (some cb)) (hc : cb < B) (hu : Ints w w0.heap.size u z) (hB : B ≤ w0.heap.size) :
    IntsS (w.setCell ⟨g, k, none⟩ u) B (.slice (some ⟨g, 0, none⟩) n cap) (zss.set k z) := by
  have hl := h.len
  subst hl
  obtain ⟨vs, h2, h3⟩ := h
  have o := own_drawn h2 hg hc
  have ha := h3.away_new hu.since (Nat.le_refl _)
  have st := o.stored k u
  have hk := KeepI.of_grown o st.2
  refine ⟨vs.set k u, by rw [List.length_set]; exact st.1, ?_⟩
  exact ((h3.drawn hg hc).keepI hk).set k ((hu.low hB).keepI hk) ha
/-- A list of rows that was drawn. -/
def DrawnSS (B cb : Nat) (w : World) (e : Ending) (w' : World) : Prop :=
  ∃ A c zss, e = .returned (.slice A zss.length c) ∧ zss.length ≤ 4 ∧ (∀ z ∈ zss, Lite 9 z) ∧ IntsS w' w.heap.size (.slice A zss.length c) zss ∧ Cur w' B cb ∧ w.grownBy w' (some cb)
theorem DrawnSS.mk {B cb : Nat} {w w' : World} {v : Value} {zss : List (List Int)} (hI : IntsS w' w.heap.size v zss) (hn : zss.length ≤ 4) (hl : ∀ z ∈ zss, Lite 9 z) (h : Side B cb w w') : DrawnSS B cb w (.returned v) w' := by
  obtain ⟨A, c, rfl⟩ := hI.slice
  exact ⟨A, c, zss, rfl, hn, hl, hI, h.cur, h.gr⟩

/-- What stood before the cursor was made is as it was. -/
theorem Side.under {B cb : Nat} {w w1 w2 : World} (h : Side B cb w1 w2) (hb : Below w.heap.size w w1) (hc : w.heap.size ≤ cb) : Below w.heap.size w w2 :=
  hb.grown h.gr hb.size (fun k hk => by injection hk with hk; omega)
/-- A row that was drawn from the bytes. -/
def DrewI (w : World) (L : Nat) (e : Ending) (w' : World) : Prop := ∃ A c zs, e = .returned (.slice A zs.length c) ∧ Lite L zs ∧ Ints w' w.heap.size (.slice A zs.length c) zs ∧ Below w.heap.size w w'
def DrewII (w : World) (L : Nat) (e : Ending) (w' : World) : Prop :=
  ∃ A c p A' c' q, e = .returned (.tuple #[.slice A p.length c, .slice A' q.length c']) ∧ Lite L p ∧ Lite L q ∧ Ints w' w.heap.size (.slice A p.length c) p ∧ Ints w' w.heap.size (.slice A' q.length c') q ∧ Below w.heap.size w w'
def DrewSB (w : World) (e : Ending) (w' : World) : Prop :=
  ∃ A c zss b, e = .returned (.tuple #[.slice A zss.length c, .bool b]) ∧ zss.length ≤ 4 ∧ (∀ z ∈ zss, Lite 9 z) ∧ IntsS w' w.heap.size (.slice A zss.length c) zss ∧ Below w.heap.size w w'
theorem DrewI.mk {L : Nat} {w w' : World} {v : Value} {zs : List Int} (hI : Ints w' w.heap.size v zs) (hl : Lite L zs) (h : Below w.heap.size w w') : DrewI w L (.returned v) w' := by
  obtain ⟨A, c, rfl⟩ := hI.slice
  exact ⟨A, c, zs, rfl, hl, hI, h⟩
theorem DrewII.mk {L : Nat} {w w' : World} {v v' : Value} {p q : List Int} (hp : Ints w' w.heap.size v p) (hq : Ints w' w.heap.size v' q) (hl : Lite L p) (hl' : Lite L q) (h : Below w.heap.size w w') : DrewII w L (.returned (.tuple #[v, v'])) w' := by
  obtain ⟨A, c, rfl⟩ := hp.slice
  obtain ⟨A', c', rfl⟩ := hq.slice
  exact ⟨A, c, p, A', c', q, rfl, hl, hl', hp, hq, h⟩

end Go.Proofs.Ytcoegjhhhnfplaa


/-
  THE DRAWS OF CHAPTER 9: spec.DrawCanShade, by its contract.
-/

namespace Go.Proofs.Ytcoegjhhhnfplaa
set_option maxRecDepth 100000
open Go.RowKit

theorem Fresh.drawn {w w' : World} {B cb : Nat} {v u : Value} {zss : List (List Int)} (h : Fresh w B v zss u) (hg : w.grownBy w' (some cb)) (hc : cb < B) : Fresh w' B v zss u := by
  obtain ⟨vs, h1, h2, h3⟩ := h
  exact ⟨vs, own_drawn h1 hg hc, h2.drawn hg hc, h3⟩
/-- A struct of a row and a list of rows stands in a block while it is drawn. -/
structure At9 (w w1 : World) (B cb g : Nat) (A : Option Addr) (c : Nat) (q : List Int) (P : Option Addr) (d : Nat) (S : List (List Int)) (wr : World) : Prop where
  x : Whole wr g 27 #[.slice A q.length c, .slice P S.length d]
  f : Fresh wr (g + 1) (.slice P S.length d) S (.slice A q.length c)
  r : Whole wr w.heap.size 27 #[.slice none 0 0, .slice none 0 0]
  p : Ints wr w1.heap.size (.slice A q.length c) q
  u : Until g (.slice A q.length c)
  s : Side B cb w1 wr
  g : w1.heap.size ≤ g
  k : w.heap.size < cb
section
variable {w w1 wr w' : World} {B cb g c d : Nat} {A P : Option Addr} {q : List Int} {S : List (List Int)}
theorem At9.drawn (h : At9 w w1 B cb g A c q P d S wr) (hc : Cur w' B cb) (hg : wr.grownBy w' (some cb)) : At9 w w1 B cb g A c q P d S w' := by
  have h1 := h.s.lt
  have h2 := h.g
  have h3 := h.k
  exact ⟨h.x.grown hg (fun e => by injection e with e; omega), h.f.drawn hg (by omega), h.r.grown hg (fun e => by injection e with e; omega), h.p.drawn hg h1, h.u, h.s.drawn hc hg, h.g, h.k⟩
theorem At9.push {P' : Option Addr} {d' : Nat} {S' : List (List Int)} (h : At9 w w1 B cb g A c q P d S wr) (hb : Below (g + 1) wr w') (hf : Fresh w' (g + 1) (.slice P' S'.length d') S' (.slice A q.length c)) :
    At9 w w1 B cb g A c q P' d' S' (w'.setCell ⟨g, 1, none⟩ (.slice P' S'.length d')) := by
  have h1 := h.s.lt
  have h2 := h.g
  have h3 := h.k
  refine ⟨(h.x.below hb (Nat.lt_succ_self g)).put 1 _, hf.aside (p := ⟨g, 1, none⟩) (Nat.lt_succ_self g) _, (h.r.below hb (by omega)).far (p := ⟨g, 1, none⟩) (by simp; omega) _, ?_, h.u, ?_, h.g, h.k⟩
  · exact (ints_under h.p h.u hb).kept (grownBy_setCellA w' ⟨g, 1, none⟩ (.slice P' S'.length d')) (away_block h.u)
  · exact h.s.low ((hb.mono (by omega)).setCell (p := ⟨g, 1, none⟩) (by show w1.heap.size ≤ g; omega) _)
theorem At9.stored (h : At9 w w1 B cb g A c q P d S wr) : Whole ((wr.setCell ⟨w.heap.size, 0, none⟩ (.slice A q.length c)).setCell ⟨w.heap.size, 1, none⟩ (.slice P S.length d)) g 27 #[.slice A q.length c, .slice P S.length d] := by
  have h1 := h.s.lt
  have h2 := h.g
  have h3 := h.k
  exact (h.x.far (p := ⟨w.heap.size, 0, none⟩) (by simp; omega) _).far (p := ⟨w.heap.size, 1, none⟩) (by simp; omega) _
/-- A struct that CanShade takes, with two numbers. -/
def DrewM2 (w : World) (e : Ending) (w' : World) : Prop :=
  ∃ A c P d q S, ∃ x y : Int, e = .returned (.tuple #[.agg #[.slice A q.length c, .slice P S.length d], .int .i64 x, .int .i64 y]) ∧ Lite 9 q ∧ (S = [] ∨ ∃ a b : Int, S = [[a, b]] ∧ (0 ≤ a ∧ a ≤ 1) ∧ 0 ≤ b ∧ b ≤ 1) ∧ (-1 ≤ x ∧ x ≤ 3) ∧ (0 ≤ y ∧ y ≤ 2) ∧ InfAt w' w.heap.size (.slice A q.length c) (.slice P S.length d) q S ∧ Below w.heap.size w w'
theorem At9.done {x y : Int} (h : At9 w w1 B cb g A c q P d S wr) (hb : Below w.heap.size w w1) (hq : Lite 9 q) (hS : S = [] ∨ ∃ a b : Int, S = [[a, b]] ∧ (0 ≤ a ∧ a ≤ 1) ∧ 0 ≤ b ∧ b ≤ 1) (hx : -1 ≤ x ∧ x ≤ 3) (hy : 0 ≤ y ∧ y ≤ 2) :
    DrewM2 w (.returned (.tuple #[.agg #[.slice A q.length c, .slice P S.length d], .int .i64 x, .int .i64 y])) ((wr.setCell ⟨w.heap.size, 0, none⟩ (.slice A q.length c)).setCell ⟨w.heap.size, 1, none⟩ (.slice P S.length d)) := by
  have h1 := h.s.lt
  have h2 := h.g
  have h3 := h.k
  have hI : InfAt wr w1.heap.size (.slice A q.length c) (.slice P S.length d) q S := ⟨h.p, h.f.low (by omega)⟩
  have hl : w.heap.size < w1.heap.size := by omega
  exact ⟨A, c, P, d, q, S, x, y, rfl, hq, hS, hx, hy, ((hI.aside (p := ⟨w.heap.size, 0, none⟩) hl _).aside (p := ⟨w.heap.size, 1, none⟩) hl _).low (by omega),
    ((h.s.under hb (by omega)).setCell (p := ⟨w.heap.size, 0, none⟩) (Nat.le_refl _) _).setCell (p := ⟨w.heap.size, 1, none⟩) (Nat.le_refl _) _⟩
end
theorem results_cell_tmp2 {P : Program} {fn : Func} {p u v : Tmp} {ty : TypeId} (h : fn.results = #[.cell p ty, .tmp u, .tmp v]) (tmps : Array Value) (w : World) (g : Nat) (t : TypeId) (cs : Array Value) (fr : Nat × Nat) (d : TypeDesc)
    (hp : tmps.getD p undef = .pointer (some ⟨g, 0, none⟩)) (hg : w.heap[g]? = some (.cells cs t fr))
    (hu : P.underlying ty = some d) (hd : (match d with | .struct _ | .array _ _ => true | _ => false) = true) (hi : (P.info? ty).map (·.size) = some cs.size) :
    (results fn tmps).run P w = .ok (.tuple #[.agg cs, tmps.getD u undef, tmps.getD v undef]) w := by
  have e : (results fn tmps).run P w = ((asAddr (tmps.getD p undef)).run P w).andThen fun a w₁ => ((loadVar ty a).run P w₁).andThen fun x w₂ => .ok (.tuple #[x, tmps.getD u undef, tmps.getD v undef]) w₂ := by
    simp only [results, h]
    simp [Sem.run_bind, Result.andThen]
  rw [e, hp]
  simp [asAddr, Result.andThen, run_loadVar_row w g t ty cs fr d hg hu hd hi]
theorem bitI_two (b : Bool) : 0 ≤ bitI b ∧ bitI b ≤ 1 := by cases b <;> decide
set_option maxHeartbeats 1600000 in
theorem dcan_any (A : Option Addr) (n c B : Nat) (bs : List UInt8) (w : World) (hr : Reads w B A n (u8s bs)) (hn : n ≤ 1048576) (hB : B ≤ w.heap.size) :
    Calls Try.prog 26 #[.slice A n c] w (DrewM2 w) := by
  obtain ⟨w0, hw0⟩ : ∃ w0, w0 = w.alloc (.cells #[.slice none 0 0, .slice none 0 0] 27) := ⟨_, rfl⟩
  have hR0 : Whole w0 w.heap.size 27 #[.slice none 0 0, .slice none 0 0] := by rw [hw0]; exact Whole.new _ _ _
  have hs0 : w0.heap.size = w.heap.size + 1 := by rw [hw0]; simp
  have b0 : Below w.heap.size w w0 := by rw [hw0]; exact (Below.refl _ w).alloc (Nat.le_refl _) _
  have H1 := hide (new_any A n c B bs w0 (hr.below (b0.mono hB)) hn (by omega))
  have HW0 := hide hw0
  clear hr hw0
  go_enter Try.func26, Try.ntmps26
  go_wp2_with fail
  rw [← unhide HW0]
  refine (unhide H1).mono ?_
  rintro e w1 ⟨cb, rfl, hcb, hc1, hb1⟩
  have hB1 := below_after b0 hb1
  have hR1 := hR0.below hb1 hR0.lt
  have hS1 := Side.start hc1
  have H2 := hide (below_any B cb 2 (by omega) w1 hc1)
  have hs1 := hb1.size
  have hkc : w.heap.size < cb := by omega
  clear H1 HW0 hb1 hc1 b0 hR0
  go_wp2_with fail
  refine (unhide H2).mono ?_
  rintro e w2 ⟨v, rfl, ⟨x0, rfl, hx0, hx1⟩, hc2, hg2⟩
  rw [if_pos (by omega)] at hx1
  obtain ⟨m, rfl⟩ : ∃ m : Nat, x0 = m := ⟨x0.toNat, by omega⟩
  have hm1 : m ≤ 1 := by omega
  have hS2 := hS1.drawn hc2 hg2
  have hR2 := hR1.grown hg2 (fun e => by injection e with e; omega)
  have H3 := hide (by have h := l2draw_any B cb (1 + m) (by omega) w2 hc2; rw [show (((1 + m : Nat) : Int)) = 1 + (m : Int) from by omega] at h; exact h : Calls _ _ #[_, .int .i64 (1 + (m : Int))] _ _)
  have hs2 := hg2.size
  clear H2 hx0 hx1 hS1 hR1 hc2 hg2
  go_wp2_with fail
  refine (unhide H3).mono ?_
  rintro e w3 ⟨A3, c3, q, rfl, hl, hown, hc3, hg3⟩
  have hS3 := hS2.drawn hc3 hg3
  have hR3 := hR2.grown hg3 (fun e => by injection e with e; omega)
  have hI3 : Ints w3 w2.heap.size (.slice A3 q.length c3) q := Ints.of_own hown
  have hs3 := hg3.size
  obtain ⟨g, hg⟩ : ∃ g, g = w3.heap.size := ⟨_, rfl⟩
  obtain ⟨w4, hw4⟩ : ∃ w4, w4 = w3.alloc (.cells #[.slice A3 q.length c3, .slice none 0 0] 27) := ⟨_, rfl⟩
  have b34 : Below w3.heap.size w3 w4 := by rw [hw4]; exact (Below.refl _ w3).alloc (Nat.le_refl _) _
  have hAt : At9 w w1 B cb g A3 c3 q none 0 [] w4 := by
    have hxw : Whole w4 w3.heap.size 27 #[.slice A3 q.length c3, .slice none 0 0] := by rw [hw4]; exact Whole.new _ _ _
    exact ⟨by rw [hg]; exact hxw, Fresh.nil_ _ _ _, hR3.below b34 hR3.lt, (hI3.below b34).low hs2, by rw [hg]; exact hI3.until_, hS3.below b34, by omega, hkc⟩
  have HQ := hide (hl.more (by omega) : Lite 9 q)
  have HW4 := hide hw4
  have HG := hide hg
  have H5 := hide (once_any B cb 3 (by omega) w4 hAt.s.cur)
  have HAt := hide hAt
  clear H3 hl hc3 hg3 hS2 hS3 hR2 hR3 hI3 hown b34 hw4 hg hs0 hs1 hs2 hs3 hcb hkc hAt
  go_wp2_with fail
  rw [← unhide HW4, ← unhide HG]
  refine (unhide H5).mono ?_
  rintro e w5 ⟨v, rfl, ⟨b, rfl⟩, hc5, hg5⟩
  have HA5 := hide ((unhide HAt).drawn hc5 hg5)
  clear H5 HW4 HG HAt hc5 hg5
  cases b with
  | false =>
    have hA5 := unhide HA5
    have q0 := hA5.x.cell 0
    have q1 := hA5.x.cell 1
    have hlg := hA5.x.lt
    simp only [List.getElem?_toArray, List.getElem?_cons_zero, List.getElem?_cons_succ] at q0 q1
    have bd : Below w5.heap.size w5 w5.drew := (Below.refl _ w5).drew
    have hcd : Cur w5.drew B cb := hA5.s.cur.below bd
    have HA0 := hide (hA5.drawn hcd ⟨rfl, rfl, rfl, Nat.le_refl _, fun _ _ _ => rfl⟩ : At9 w w1 B cb g A3 c3 q none 0 [] w5.drew)
    have K1 := hide (below_any B cb 4 (by omega) w5.drew hcd)
    have K2 := hide (fun w' hc => once_any B cb 10 (by omega) w' hc)
    have K4 := hide (fun w' hc => below_any B cb 3 (by omega) w' hc)
    replace q0 : w5.cell? ⟨g, 0, none⟩ = some (.slice A3 q.length c3) := q0
    replace q1 : w5.cell? ⟨g, 1, none⟩ = some (.slice none 0 0) := q1
    clear hA5 bd hcd HA5
    go_wp2_with fail
    go_region_held3 (fun w' => w'.cell? ⟨g, 0, none⟩ = some (.slice A3 q.length c3) ∧ w'.cell? ⟨g, 1, none⟩ = some (.slice none 0 0) ∧ g < w'.heap.size) ((first | exact ⟨q0, q1, hlg⟩ | exact ⟨u0, u1, ul⟩ | exact ⟨k0, k1, kl⟩))
      (first
        | (go_simp; go_at_call 67; refine (unhide K1).mono ?_; rintro e v1 ⟨v, rfl, ⟨x, rfl, hx0, hx1⟩, hc, hg⟩; rw [if_pos (by omega)] at hx1; clear K1; have HA1 := hide ((unhide HA0).drawn hc hg); have KK2 := hide ((unhide K2) v1 hc); have u0 := (unhide HA1).x.cell 0; have u1 := (unhide HA1).x.cell 1; have ul := (unhide HA1).x.lt; simp only [List.getElem?_toArray, List.getElem?_cons_zero, List.getElem?_cons_succ] at u0 u1; clear hc hg)
        | (go_simp; go_at_call 68; refine (unhide KK2).mono ?_; rintro e v2 ⟨v, rfl, ⟨bb, rfl⟩, hc, hg⟩; clear KK2; have HA2 := hide ((unhide HA1).drawn hc hg); have KK4 := hide ((unhide K4) v2 hc); clear u0 u1 ul; have u0 := (unhide HA2).x.cell 0; have u1 := (unhide HA2).x.cell 1; have ul := (unhide HA2).x.lt; simp only [List.getElem?_toArray, List.getElem?_cons_zero, List.getElem?_cons_succ] at u0 u1; clear hc hg)
        | (go_simp; go_at_call 64; refine (bit_any _ _).mono ?_; rintro e v3 ⟨rfl, rfl⟩; have hbi := bitI_two bb)
        | (go_simp; go_at_call 67; refine (unhide KK4).mono ?_; rintro e v4 ⟨v, rfl, ⟨y, rfl, hy0, hy1⟩, hc, hg⟩; rw [if_pos (by omega)] at hy1; clear KK4; have HA4 := hide ((unhide HA2).drawn hc hg); clear u0 u1 ul; have u0 := (unhide HA4).x.cell 0; have u1 := (unhide HA4).x.cell 1; have ul := (unhide HA4).x.lt; have z0 := (unhide HA4).r.cell 0; have z1 := (unhide HA4).r.cell 1; have e0 := (unhide HA4).r.frozen 0; have e1 := (unhide HA4).r.frozen 1; have zl := (unhide HA4).r.lt; have kx := (unhide HA4).stored; have k0 := kx.cell 0; have k1 := kx.cell 1; have kl := kx.lt; simp only [List.getElem?_toArray, List.getElem?_cons_zero, List.getElem?_cons_succ] at u0 u1 z0 z1 k0 k1; clear hc hg kx))
    have hwr : IntKind.i64.wrap (x - bitI bb) = x - bitI bb := by rw [IntKind.wrap_i64]; omega
    rw [hwr]
    have HE := hide ((unhide HA4).done (x := x - bitI bb) (y := y) hB1 (unhide HQ) (.inl rfl) (by omega) (by omega))
    have hA4 := unhide HA4
    have HWE := hide ((hA4.r.put 0 (.slice A3 q.length c3)).put 1 (.slice none 0 0))
    clear HA4 hA4
    go_wp2_with fail
    have hWe := unhide HWE
    refine bodyPost_ret (v := .tuple #[.agg #[.slice A3 q.length c3, .slice none 0 0], .int .i64 (x - bitI bb), .int .i64 y]) (results_cell_tmp2 Try.results26 _ _ w.heap.size 27 _ (0, 0) _ rfl hWe Try.underlying27 rfl meshInfo') rfl ?_
    exact unhide HE
  | true =>
    have hA5 := unhide HA5
    have q0 := hA5.x.cell 0
    have q1 := hA5.x.cell 1
    have hlg := hA5.x.lt
    simp only [List.getElem?_toArray, List.getElem?_cons_zero, List.getElem?_cons_succ, List.length_nil] at q0 q1
    have bd : Below w5.heap.size w5 w5.drew := (Below.refl _ w5).drew
    have hcd : Cur w5.drew B cb := hA5.s.cur.below bd
    have HAd := hide (hA5.drawn hcd ⟨rfl, rfl, rfl, Nat.le_refl _, fun _ _ _ => rfl⟩ : At9 w w1 B cb g A3 c3 q none 0 [] w5.drew)
    have q1d : w5.drew.cell? ⟨g, 1, none⟩ = some (.slice none 0 0) := q1
    have H6 := hide (below_any B cb 2 (by omega) w5.drew hcd)
    have H7 := hide (fun w' hc => below_any B cb 2 (by omega) w' hc)
    clear hA5 bd hcd HA5
    go_wp2_with fail
    go_region_law
      (first
        | (go_simp; go_at_call 67; refine (unhide H6).mono ?_; rintro e w6 ⟨v, rfl, ⟨xa, rfl, hxa0, hxa1⟩, hc6, hg6⟩; rw [if_pos (by omega)] at hxa1; clear H6; have HA6 := hide ((unhide HAd).drawn hc6 hg6); have r6 := (unhide HA6).x.cell 1; simp only [List.getElem?_toArray, List.getElem?_cons_zero, List.getElem?_cons_succ, List.length_nil] at r6; have H8 := hide ((unhide H7) w6 hc6); clear hc6 hg6)
        | (go_simp; go_at_call 67; refine (unhide H8).mono ?_; rintro e w7 ⟨v, rfl, ⟨xb, rfl, hxb0, hxb1⟩, hc7, hg7⟩; rw [if_pos (by omega)] at hxb1; clear H8; have HA7 := hide ((unhide HA6).drawn hc7 hg7); have r7 := (unhide HA7).x.cell 1; have l7 := (unhide HA7).x.lt; simp only [List.getElem?_toArray, List.getElem?_cons_zero, List.getElem?_cons_succ, List.length_nil] at r7; have r7d := fun o => ((Below.refl w7.heap.size w7).alloc (Nat.le_refl _) o |>.cell (p := ⟨g, 1, none⟩) l7).trans r7; have r7e := fun o o' => (((Below.refl w7.heap.size w7).alloc (Nat.le_refl _) o).alloc (by simp) o' |>.cell (p := ⟨g, 1, none⟩) l7).trans r7; have hb7 : Below w7.heap.size w7 (w7.alloc (.cells #[.int .i64 xa, .int .i64 xb] 3)) := (Below.refl w7.heap.size w7).alloc (Nat.le_refl _) _; have hu7 : Ints (w7.alloc (.cells #[.int .i64 xa, .int .i64 xb] 3)) w7.heap.size (.slice (some ⟨w7.heap.size, 0, none⟩) 2 2) [xa, xb] := Ints.two2 w7 w7.heap.size xa xb (Nat.le_refl _); have hUn : Until w7.heap.size (.slice A3 q.length c3) := (unhide HA7).u.mono (Nat.le_of_lt l7); clear hc7 hg7)
        | (refine step_push_beside (by rfl) (.tmp 18) (.tmp 24) (by rfl) (g + 1) w7 (w7.alloc (.cells #[.int .i64 xa, .int .i64 xb] 3)) _ _ (.slice A3 q.length c3) [] [xa, xb] (by rfl) (by rw [World.size_alloc]; rfl) (by first | exact .inl rfl | exact .inr rfl) (unhide HA7).f hb7 hu7 hUn (by simp) l7 ?_; intro v' w' hF' hb' hk'; obtain ⟨A', c', rfl⟩ := hF'.shape; have r1' := ((unhide HA7).x.below hb' (Nat.lt_succ_self g)).cell 1; have f1' := ((unhide HA7).x.below hb' (Nat.lt_succ_self g)).frozen 1; have l1' := ((unhide HA7).x.below hb' (Nat.lt_succ_self g)).lt; simp only [List.getElem?_toArray, List.getElem?_cons_zero, List.getElem?_cons_succ, List.length_nil] at r1'; have HF' := hide hF'; clear hF'))
    all_goals
      have HA8 := hide (show At9 w w1 B cb g A3 c3 q A' c' [[xa, xb]] (w'.setCell ⟨g, 1, none⟩ (.slice A' 1 c')) from (unhide HA7).push hb' (unhide HF'))
      clear HA7 HF' r1' f1' l1' hb' hk' r7 l7 r7d r7e hb7 hu7 hUn r6 HA6 H7 HAd q1d q0 q1 hlg
      generalize w'.setCell ⟨g, 1, none⟩ (.slice A' 1 c') = w8 at HA8 ⊢
      have hA5 := unhide HA8
      have q0 := hA5.x.cell 0
      have q1 := hA5.x.cell 1
      have hlg := hA5.x.lt
      simp only [List.getElem?_toArray, List.getElem?_cons_zero, List.getElem?_cons_succ] at q0 q1
      have bd : Below w8.heap.size w8 w8.drew := (Below.refl _ w8).drew
      have hcd : Cur w8.drew B cb := hA5.s.cur.below bd
      have HA0 := hide (hA5.drawn hcd ⟨rfl, rfl, rfl, Nat.le_refl _, fun _ _ _ => rfl⟩ : At9 w w1 B cb g A3 c3 q A' c' [[xa, xb]] w8.drew)
      have K1 := hide (below_any B cb 4 (by omega) w8.drew hcd)
      have K2 := hide (fun w' hc => once_any B cb 10 (by omega) w' hc)
      have K4 := hide (fun w' hc => below_any B cb 3 (by omega) w' hc)
      replace q0 : w8.cell? ⟨g, 0, none⟩ = some (.slice A3 q.length c3) := q0
      replace q1 : w8.cell? ⟨g, 1, none⟩ = some (.slice A' 1 c') := q1
      clear hA5 bd hcd HA8
      go_wp2_with fail
      go_region_held3 (fun w' => w'.cell? ⟨g, 0, none⟩ = some (.slice A3 q.length c3) ∧ w'.cell? ⟨g, 1, none⟩ = some (.slice A' 1 c') ∧ g < w'.heap.size) ((first | exact ⟨q0, q1, hlg⟩ | exact ⟨u0, u1, ul⟩ | exact ⟨k0, k1, kl⟩))
        (first
          | (go_simp; go_at_call 67; refine (unhide K1).mono ?_; rintro e v1 ⟨v, rfl, ⟨x, rfl, hx0, hx1⟩, hc, hg⟩; rw [if_pos (by omega)] at hx1; clear K1; have HA1 := hide ((unhide HA0).drawn hc hg); have KK2 := hide ((unhide K2) v1 hc); have u0 := (unhide HA1).x.cell 0; have u1 := (unhide HA1).x.cell 1; have ul := (unhide HA1).x.lt; simp only [List.getElem?_toArray, List.getElem?_cons_zero, List.getElem?_cons_succ] at u0 u1; clear hc hg)
          | (go_simp; go_at_call 68; refine (unhide KK2).mono ?_; rintro e v2 ⟨v, rfl, ⟨bb, rfl⟩, hc, hg⟩; clear KK2; have HA2 := hide ((unhide HA1).drawn hc hg); have KK4 := hide ((unhide K4) v2 hc); clear u0 u1 ul; have u0 := (unhide HA2).x.cell 0; have u1 := (unhide HA2).x.cell 1; have ul := (unhide HA2).x.lt; simp only [List.getElem?_toArray, List.getElem?_cons_zero, List.getElem?_cons_succ] at u0 u1; clear hc hg)
          | (go_simp; go_at_call 64; refine (bit_any _ _).mono ?_; rintro e v3 ⟨rfl, rfl⟩; have hbi := bitI_two bb)
          | (go_simp; go_at_call 67; refine (unhide KK4).mono ?_; rintro e v4 ⟨v, rfl, ⟨y, rfl, hy0, hy1⟩, hc, hg⟩; rw [if_pos (by omega)] at hy1; clear KK4; have HA4 := hide ((unhide HA2).drawn hc hg); clear u0 u1 ul; have u0 := (unhide HA4).x.cell 0; have u1 := (unhide HA4).x.cell 1; have ul := (unhide HA4).x.lt; have z0 := (unhide HA4).r.cell 0; have z1 := (unhide HA4).r.cell 1; have e0 := (unhide HA4).r.frozen 0; have e1 := (unhide HA4).r.frozen 1; have zl := (unhide HA4).r.lt; have kx := (unhide HA4).stored; have k0 := kx.cell 0; have k1 := kx.cell 1; have kl := kx.lt; simp only [List.getElem?_toArray, List.getElem?_cons_zero, List.getElem?_cons_succ] at u0 u1 z0 z1 k0 k1; clear hc hg kx))
      have hwr : IntKind.i64.wrap (x - bitI bb) = x - bitI bb := by rw [IntKind.wrap_i64]; omega
      rw [hwr]
      have HE := hide ((unhide HA4).done (x := x - bitI bb) (y := y) hB1 (unhide HQ) (.inr ⟨xa, xb, rfl, by omega, by omega⟩) (by omega) (by omega))
      have hA4 := unhide HA4
      have HWE := hide ((hA4.r.put 0 (.slice A3 q.length c3)).put 1 (.slice A' 1 c'))
      clear HA4 hA4
      go_wp2_with fail
      have hWe := unhide HWE
      refine bodyPost_ret (v := .tuple #[.agg #[.slice A3 q.length c3, .slice A' 1 c'], .int .i64 (x - bitI bb), .int .i64 y]) (results_cell_tmp2 Try.results26 _ _ w.heap.size 27 _ (0, 0) _ rfl hWe Try.underlying27 rfl meshInfo') rfl ?_
      exact unhide HE
end Go.Proofs.Ytcoegjhhhnfplaa


/-
  laws.big, by its contract.
-/

namespace Go.Proofs.Ytcoegjhhhnfplaa
set_option maxRecDepth 100000
open Go.RowKit
theorem big_any (A : Option Addr) (n c : Nat) (hn : n ≤ 9223372036854775807) (w : World) :
    Calls Try.prog 10 #[.slice A n c] w fun e w' => e = .returned (.bool (decide (1048576 < n))) ∧ w = w' := by
  go_enter Try.func10, Try.ntmps10
  go_wp2
  go_ret
  exact ⟨ret_bool (by simp; omega), rfl⟩
end Go.Proofs.Ytcoegjhhhnfplaa
