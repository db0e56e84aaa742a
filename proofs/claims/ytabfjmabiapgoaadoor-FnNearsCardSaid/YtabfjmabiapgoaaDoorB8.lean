/-
  Words and contracts that the laws lean on, bundled: Draw, DrawI, Fresh, DrawL, PermI, DrawT, Draw8, RunS, NearF.
-/
import Derived.Test.YtabfjmabiapgoaaDoorB3
import Derived.Deep.RegionHeld3
import Derived.Laws.BitsAllLaws
import Derived.Test.YtabfjmabiapgoaaDoorB4
import Derived.Test.YtabfjmabiapgoaaDoorB5
import Derived.Test.YtabfjmabiapgoaaDoorB2
import Derived.Test.YtabfjmabiapgoaaDoorB6
import Derived.Test.YtabfjmabiapgoaaDoorB7
import Derived.Deep.RegionLaw

/-
  THE CURSOR OVER A DRAW (l1New, l1Byte, l1Below, l1Once, l1Pick, l1PickInt), by contracts: whatever is drawn lies in its range; nothing but the cursor's own block turns.
-/

namespace Go.Proofs.YtabfjmabiapgoaaDoor
set_option maxRecDepth 100000
open Go.RowKit

/-- A block that is known whole. -/
def Blk (w : World) (g : Nat) (t : TypeId) (cs : Array Value) : Prop := w.heap[g]? = some (.cells cs t (0, 0))
section
variable {w w' : World} {g : Nat} {t : TypeId} {cs : Array Value}
theorem Blk.lt (h : Blk w g t cs) : g < w.heap.size := by
  rcases Nat.lt_or_ge g w.heap.size with hlt | hge
  · exact hlt
  · unfold Blk at h; rw [Array.getElem?_eq_none hge] at h; cases h
theorem Blk.cell (h : Blk w g t cs) (i : Nat) : w.cell? ⟨g, i, none⟩ = cs[i]? := cell_of_row w g i cs t (0, 0) h
theorem Blk.frozen (h : Blk w g t cs) (i : Nat) : w.frozen? ⟨g, i, none⟩ = false := by
  unfold Blk at h
  simp [World.frozen?, h]
theorem Blk.new (w : World) (t : TypeId) (cs : Array Value) : Blk (w.alloc (.cells cs t)) w.heap.size t cs := heap_alloc_new w _
theorem Blk.drewN (h : Blk w g t cs) (n : Nat) : Blk (w.drewN n) g t cs := h
theorem Blk.alloc (h : Blk w g t cs) (o : Obj) : Blk (w.alloc o) g t cs := (Below.heap_alloc w o g h.lt).trans h
theorem Blk.set_ (h : Blk w g t cs) (i : Nat) (u : Value) : Blk (w.setCell ⟨g, i, none⟩ u) g t (cs.setIfInBounds i u) := by
  unfold Blk at h ⊢
  simp [World.setCell, Array.getElem?_modify, h]
theorem Blk.grown {row : Option Nat} (h : Blk w g t cs) (hb : w.grownBy w' row) (hg : some g ≠ row) : Blk w' g t cs := (hb.block g h.lt hg).trans h
theorem Blk.below (h : Blk w g t cs) (hb : Below w.heap.size w w') : Blk w' g t cs := h.grown (grown_of_below hb none) (by simp)
end

/-- THE CURSOR: block cb holds the bytes' slice, the place, the mixed number. -/
def Cur (w : World) (B cb : Nat) : Prop := ∃ (A : Option Addr) (n c k : Nat) (bs : List UInt8) (h : Int),
  Blk w cb 79 #[.slice A n c, .int .i64 k, .int .i64 h] ∧ Reads w B A n (u8s bs) ∧ n ≤ 1048576 ∧ k ≤ n ∧ B ≤ cb
theorem Cur.keep {w w' : World} {B cb : Nat} (h : Cur w B cb) (hg : w.grownBy w' none) : Cur w' B cb := by
  obtain ⟨A, n, c, k, bs, x, hb, hr, hn, hk, hB⟩ := h
  exact ⟨A, n, c, k, bs, x, hb.grown hg (by simp), hr.grown hg (by have := hb.lt; omega) (by simp), hn, hk, hB⟩
theorem Cur.below {w w' : World} {B cb : Nat} (h : Cur w B cb) (hg : Below w.heap.size w w') : Cur w' B cb := h.keep (grown_of_below hg none)
theorem Cur.drewN {w : World} {B cb : Nat} (h : Cur w B cb) (n : Nat) : Cur (w.drewN n) B cb := h
theorem Cur.lt {w : World} {B cb : Nat} (h : Cur w B cb) : cb < w.heap.size := by
  obtain ⟨_, _, _, _, _, _, hb, _⟩ := h
  exact hb.lt

/-- What a draw leaves. -/
def Drawn (B cb : Nat) (w : World) (P : Value → Prop) (e : Ending) (w' : World) : Prop := ∃ v, e = .returned v ∧ P v ∧ Cur w' B cb ∧ w.grownBy w' (some cb)
def IntIn (lo hi : Int) (v : Value) : Prop := ∃ x : Int, v = .int .i64 x ∧ lo ≤ x ∧ x ≤ hi

theorem and255 (x : Int) : 0 ≤ bits .and .i64 x 255 ∧ bits .and .i64 x 255 ≤ 255 := by
  have h : (BitVec.ofInt 64 x &&& BitVec.ofInt 64 255).toNat ≤ 255 := by
    rw [BitVec.toNat_and]
    exact Nat.le_trans Nat.and_le_right (by decide)
  show 0 ≤ IntKind.i64.wrap ((BitVec.ofInt 64 x &&& BitVec.ofInt 64 255).toNat : Int) ∧ IntKind.i64.wrap ((BitVec.ofInt 64 x &&& BitVec.ofInt 64 255).toNat : Int) ≤ 255
  rw [IntKind.wrap_i64]
  omega
theorem grown_set {w : World} {g : Nat} (i : Nat) (u : Value) : w.grownBy (w.setCell ⟨g, i, none⟩ u) (some g) :=
  ⟨rfl, rfl, rfl, by simp, fun k _ hk => heap_setCell_other w ⟨g, i, none⟩ k u (fun e => hk (by simp [e]))⟩
theorem grown_drewN {a w : World} {row : Option Nat} (h : a.grownBy w row) (n : Nat) : a.grownBy (w.drewN n) row := ⟨h.os, h.tape, h.output, h.size, h.block⟩

theorem cur_byte {w : World} {B cb n c k : Nat} {A : Option Addr} {bs : List UInt8} {h : Int} (hb : Blk w cb 79 #[.slice A n c, .int .i64 k, .int .i64 h]) (hr : Reads w B A n (u8s bs)) (hn : n ≤ 1048576) (hk : k + 1 ≤ n) (hB : B ≤ cb) (h' : Int) (m : Nat) :
    Cur (((w.setCell ⟨cb, 2, none⟩ (.int .i64 h')).drewN m).setCell ⟨cb, 1, none⟩ (.int .i64 ((k : Int) + 1))) B cb := by
  refine ⟨A, n, c, k + 1, bs, h', ?_, ?_, hn, hk, hB⟩
  · exact ((hb.set_ 2 (.int .i64 h')).drewN m).set_ 1 (.int .i64 ((k : Int) + 1))
  · exact ((hr.setCell (p := ⟨cb, 2, none⟩) hB _).drewN m).setCell (p := ⟨cb, 1, none⟩) hB _
theorem cur_past {w : World} {B cb n c k : Nat} {A : Option Addr} {bs : List UInt8} {h : Int} (hb : Blk w cb 79 #[.slice A n c, .int .i64 k, .int .i64 h]) (hr : Reads w B A n (u8s bs)) (hn : n ≤ 1048576) (hk : k ≤ n) (hB : B ≤ cb) (h' : Int) (m : Nat) :
    Cur ((w.setCell ⟨cb, 2, none⟩ (.int .i64 h')).drewN m) B cb := by
  refine ⟨A, n, c, k, bs, h', ?_, ?_, hn, hk, hB⟩
  · exact (hb.set_ 2 (.int .i64 h')).drewN m
  · exact (hr.setCell (p := ⟨cb, 2, none⟩) hB _).drewN m

set_option maxRecDepth 100000 in
set_option maxHeartbeats 800000 in
theorem byte_any (B cb : Nat) (w : World) (hc : Cur w B cb) : Calls Tryd.prog 76 #[.pointer (some ⟨cb, 0, none⟩)] w (Drawn B cb w (IntIn 0 255)) := by
  obtain ⟨A, n, c, k, bs, h, hb, hr, hn, hk, hB⟩ := hc
  have c0 : w.cell? ⟨cb, 0, none⟩ = some (.slice A n c) := hb.cell 0
  have c1 : w.cell? ⟨cb, 1, none⟩ = some (.int .i64 k) := hb.cell 1
  have c2 : w.cell? ⟨cb, 2, none⟩ = some (.int .i64 h) := hb.cell 2
  have f1 := hb.frozen 1
  have f2 := hb.frozen 2
  by_cases hlt : k < n
  · obtain ⟨ad, u, rfl, had, hu, hx⟩ := hr.at_ hlt
    obtain ⟨b, hbk, rfl⟩ := u8_at hu
    have hx2 : ∀ v, (w.setCell ⟨cb, 2, none⟩ v).cell? (ad.add k) = some (.int .u8 b.toNat) := fun v => by
      rw [World.cell?_setCell_other w _ _ _ (fun e => by have := congrArg Addr.block e; rw [block_of_add] at this; simp at this; omega)]
      exact hx
    clear hu hx hbk
    have HB := hide hb
    have HR := hide hr
    clear hb hr
    go_enter Tryd.func76, Tryd.ntmps76
    go_wp2
    go_quiet (fail)
    go_wp2
    go_quiet (fail)
    go_wp2
    go_quiet (fail)
    go_wp2
    go_ret
    exact ⟨_, rfl, ⟨_, rfl, (and255 _).1, (and255 _).2⟩, cur_byte (unhide HB) (unhide HR) hn hlt hB _ _, grown_then (grown_drewN (grown_set 2 _) _) (grown_set 1 _)⟩
  · have HB := hide hb
    have HR := hide hr
    clear hb hr
    go_enter Tryd.func76, Tryd.ntmps76
    go_wp2
    go_quiet (fail)
    go_wp2
    go_quiet (fail)
    go_wp2
    go_ret
    exact ⟨_, rfl, ⟨_, rfl, (and255 _).1, (and255 _).2⟩, (cur_past (unhide HB) (unhide HR) hn hk hB _ _).drewN _, grown_drewN (grown_drewN (grown_set 2 _) _) _⟩

set_option maxRecDepth 100000 in
set_option maxHeartbeats 800000 in
/-- l1Below: 0 to n - 1; 0 where n is not above 0. -/
theorem below_any (B cb : Nat) (n : Int) (hn : n ≤ 1073741824) (w : World) (hc : Cur w B cb) :
    Calls Tryd.prog 46 #[.pointer (some ⟨cb, 0, none⟩), .int .i64 n] w (Drawn B cb w (IntIn 0 (if 0 < n then n - 1 else 0))) := by
  have H := hide (fun w hc => byte_any B cb w hc)
  have HC := hide hc
  clear hc
  by_cases h0 : 0 < n
  · rw [if_pos h0]
    by_cases h1 : n ≤ 256
    · go_enter Tryd.func46, Tryd.ntmps46
      go_wp2_with fail
      refine (unhide H _ (unhide HC)).mono ?_
      rintro e w1 ⟨v, rfl, ⟨x, rfl, hx0, hx1⟩, hc1, hg1⟩
      have HC1 := hide hc1
      have HG1 := hide hg1
      clear hc1 hg1
      have hm0 : 0 ≤ x % n := Int.emod_nonneg _ (by omega)
      have hm1 : x % n ≤ n - 1 := by have := Int.emod_lt_of_pos x h0; omega
      go_wp2
      go_ret
      exact ⟨_, rfl, ⟨_, rfl, hm0, hm1⟩, unhide HC1, unhide HG1⟩
    · go_enter Tryd.func46, Tryd.ntmps46
      go_wp2_with fail
      refine (unhide H _ (unhide HC)).mono ?_
      rintro e w1 ⟨v, rfl, ⟨x, rfl, hx0, hx1⟩, hc1, hg1⟩
      have HC1 := hide hc1
      have HG1 := hide hg1
      clear hc1 hg1
      go_wp2_with fail
      refine (unhide H _ (unhide HC1)).mono ?_
      rintro e w2 ⟨v, rfl, ⟨y, rfl, hy0, hy1⟩, hc2, hg2⟩
      have HC2 := hide hc2
      have HG2 := hide (grown_then (unhide HG1) hg2)
      clear hc2 hg2
      go_wp2_with fail
      refine (unhide H _ (unhide HC2)).mono ?_
      rintro e w3 ⟨v, rfl, ⟨z, rfl, hz0, hz1⟩, hc3, hg3⟩
      have HC3 := hide hc3
      have HG3 := hide (grown_then (unhide HG2) hg3)
      clear hc3 hg3
      go_wp2_with fail
      refine (unhide H _ (unhide HC3)).mono ?_
      rintro e w4 ⟨v, rfl, ⟨u, rfl, hu0, hu1⟩, hc4, hg4⟩
      have HC4 := hide hc4
      have HG4 := hide (grown_then (unhide HG3) hg4)
      clear hc4 hg4
      have hm0 : 0 ≤ (x * 16777216 + y * 65536 + z * 256 + u) % n := Int.emod_nonneg _ (by omega)
      have hm1 : (x * 16777216 + y * 65536 + z * 256 + u) % n ≤ n - 1 := by have := Int.emod_lt_of_pos (x * 16777216 + y * 65536 + z * 256 + u) h0; omega
      go_wp2
      go_ret
      exact ⟨_, rfl, ⟨_, rfl, hm0, hm1⟩, unhide HC4, unhide HG4⟩
  · rw [if_neg h0]
    go_enter Tryd.func46, Tryd.ntmps46
    go_wp2
    go_ret
    exact ⟨_, rfl, ⟨_, rfl, Int.le_refl _, Int.le_refl _⟩, unhide HC, World.grownBy.refl _ _⟩

def IsBool (v : Value) : Prop := ∃ b : Bool, v = .bool b
def StrOf (ss : List ByteArray) (v : Value) : Prop := ∃ s, s ∈ ss ∧ v = .string s

theorem once_any (B cb : Nat) (n : Int) (hn : n ≤ 1073741824) (w : World) (hc : Cur w B cb) :
    Calls Tryd.prog 44 #[.pointer (some ⟨cb, 0, none⟩), .int .i64 n] w (Drawn B cb w IsBool) := by
  have H := hide (below_any B cb n hn w hc)
  clear hc
  go_enter Tryd.func44, Tryd.ntmps44
  go_wp2_with fail
  refine (unhide H).mono ?_
  rintro e w1 ⟨v, rfl, ⟨x, rfl, hx0, hx1⟩, hc1, hg1⟩
  have HC1 := hide hc1
  have HG1 := hide hg1
  clear hc1 hg1 hx0 hx1 H
  go_wp2
  go_ret
  exact ⟨_, rfl, ⟨_, rfl⟩, unhide HC1, unhide HG1⟩

set_option maxHeartbeats 800000 in
theorem pick_any (B cb g : Nat) (n c : Nat) (ss : List ByteArray) (w : World) (hc : Cur w B cb) (hl : Blk w g 9 (ss.map Value.string).toArray) (hne : g ≠ cb) (hn : ss.length = n) (h0 : 0 < n) (h1 : n ≤ 1048576) :
    Calls Tryd.prog 71 #[.pointer (some ⟨cb, 0, none⟩), .slice (some ⟨g, 0, none⟩) n c] w (Drawn B cb w (StrOf ss)) := by
  have H := hide (below_any B cb n (by omega) w hc)
  have HL := hide hl
  have HN := hide hn
  clear hc hl hn
  go_enter Tryd.func71, Tryd.ntmps71
  go_wp2_with fail
  refine (unhide H).mono ?_
  rintro e w1 ⟨v, rfl, ⟨x, rfl, hx0, hx1⟩, hc1, hg1⟩
  rw [if_pos (by omega)] at hx1
  obtain ⟨k, rfl⟩ : ∃ k : Nat, x = k := ⟨x.toNat, by omega⟩
  have hk : k < n := by omega
  have hcell : w1.cell? ⟨g, k, none⟩ = some (.string (ss[k]'(by have := unhide HN; omega))) := by
    rw [((unhide HL).grown hg1 (by simp; omega)).cell k]
    simp [show k < ss.length by have := unhide HN; omega]
  have hmem : ss[k]'(by have := unhide HN; omega) ∈ ss := List.getElem_mem _
  generalize ss[k]'(by have := unhide HN; omega) = s at hcell hmem
  have HM := hide hmem
  have HC1 := hide hc1
  have HG1 := hide hg1
  clear hc1 hg1 hmem H
  go_wp2
  go_ret
  exact ⟨_, rfl, ⟨_, unhide HM, rfl⟩, unhide HC1, unhide HG1⟩

def IntOf (zs : List Int) (v : Value) : Prop := ∃ z, z ∈ zs ∧ v = .int .i64 z
set_option maxHeartbeats 800000 in
theorem pickInt_any (B cb g : Nat) (n c : Nat) (zs : List Int) (w : World) (hc : Cur w B cb) (hl : Blk w g 3 (zs.map (Value.int .i64)).toArray) (hne : g ≠ cb) (hn : zs.length = n) (h0 : 0 < n) (h1 : n ≤ 1048576) :
    Calls Tryd.prog 65 #[.pointer (some ⟨cb, 0, none⟩), .slice (some ⟨g, 0, none⟩) n c] w (Drawn B cb w (IntOf zs)) := by
  have H := hide (below_any B cb n (by omega) w hc)
  have HL := hide hl
  have HN := hide hn
  clear hc hl hn
  go_enter Tryd.func65, Tryd.ntmps65
  go_wp2_with fail
  refine (unhide H).mono ?_
  rintro e w1 ⟨v, rfl, ⟨x, rfl, hx0, hx1⟩, hc1, hg1⟩
  rw [if_pos (by omega)] at hx1
  obtain ⟨k, rfl⟩ : ∃ k : Nat, x = k := ⟨x.toNat, by omega⟩
  have hk : k < n := by omega
  have hcell : w1.cell? ⟨g, k, none⟩ = some (.int .i64 (zs[k]'(by have := unhide HN; omega))) := by
    rw [((unhide HL).grown hg1 (by simp; omega)).cell k]
    simp [show k < zs.length by have := unhide HN; omega]
  have hmem : zs[k]'(by have := unhide HN; omega) ∈ zs := List.getElem_mem _
  generalize zs[k]'(by have := unhide HN; omega) = z at hcell hmem
  have HM := hide hmem
  have HC1 := hide hc1
  have HG1 := hide hg1
  clear hc1 hg1 hmem H
  go_wp2
  go_ret
  exact ⟨_, rfl, ⟨_, unhide HM, rfl⟩, unhide HC1, unhide HG1⟩

/-- A new cursor. -/
def NewCur (B : Nat) (w : World) (e : Ending) (w' : World) : Prop := ∃ cb, e = .returned (.pointer (some ⟨cb, 0, none⟩)) ∧ w.heap.size ≤ cb ∧ Cur w' B cb ∧ Below w.heap.size w w'
set_option maxRecDepth 100000 in
set_option maxHeartbeats 800000 in
theorem new_any (A : Option Addr) (n c B : Nat) (bs : List UInt8) (w : World) (hr : Reads w B A n (u8s bs)) (hn : n ≤ 1048576) (hB : B ≤ w.heap.size) :
    Calls Tryd.prog 28 #[.slice A n c] w (NewCur B w) := by
  go_enter Tryd.func28, Tryd.ntmps28
  go_wp2
  go_loop [3, 4] (fun hv i => ∃ (k : Nat) (x : Int), k ≤ n ∧ i = .int .i64 k ∧ hv = .int .i64 x) (fun _ i => n - (intOf i).toNat)
  case atStart => exact ⟨0, _, Nat.zero_le _, rfl, rfl⟩
  case round =>
    obtain ⟨k, x, hk, rfl, rfl⟩ := hrel
    by_cases hlt : k < n
    · obtain ⟨ad, u, rfl, had, hu, hx⟩ := hr.at_ hlt
      obtain ⟨b, hbk, rfl⟩ := u8_at hu
      clear hu hbk
      by_cases h4 : k < 4000
      · go_wp2
        go_round
        case rel => exact ⟨k + 1, _, by omega, by go_num, rfl⟩
        case measure => simp [intOf]; omega
      · go_wp2
        go_ret
        exact ⟨w.heap.size, rfl, Nat.le_refl _, ⟨some ad, n, c, 0, bs, x, Blk.new _ _ _, hr.alloc hB _, hn, Nat.zero_le _, hB⟩, (Below.refl _ _).alloc (Nat.le_refl _) _⟩
    · go_wp2
      go_ret
      exact ⟨w.heap.size, rfl, Nat.le_refl _, ⟨A, n, c, 0, bs, x, Blk.new _ _ _, hr.alloc hB _, hn, Nat.zero_le _, hB⟩, (Below.refl _ _).alloc (Nat.le_refl _) _⟩
end Go.Proofs.YtabfjmabiapgoaaDoor


/-
  DRAWS OF ROWS OF INTEGERS: spec.l2Draw, spec.l2Any, spec.l2Bent, by their contracts.
-/

namespace Go.Proofs.YtabfjmabiapgoaaDoor
set_option maxRecDepth 100000
open Go.RowKit

/-- What a call that draws has done so far: the cursor stands in block cb; of the blocks that were there the cursor's alone may have turned. -/
structure Side (B cb : Nat) (w wr : World) : Prop where
  cur : Cur wr B cb
  lt : cb < w.heap.size
  gr : w.grownBy wr (some cb)
theorem Cur.base {w : World} {B cb : Nat} (h : Cur w B cb) : B ≤ cb := by
  obtain ⟨_, _, _, _, _, _, _, _, _, _, hB⟩ := h
  exact hB
theorem Side.start {B cb : Nat} {w : World} (h : Cur w B cb) : Side B cb w w := ⟨h, h.lt, World.grownBy.refl w _⟩
theorem Side.size {B cb : Nat} {w wr : World} (h : Side B cb w wr) : w.heap.size ≤ wr.heap.size := h.gr.size
theorem Cur.low {w w' : World} {B cb L : Nat} (h : Cur w B cb) (hL : cb < L) (hb : Below L w w') : Cur w' B cb := by
  obtain ⟨A, n, c, k, bs, x, h1, hr, hn, hk, hB⟩ := h
  exact ⟨A, n, c, k, bs, x, (hb.block cb hL).trans h1, hr.below (hb.mono (by omega)), hn, hk, hB⟩
/-- Work of the call's own. -/
theorem Side.low {B cb : Nat} {w wr w' : World} (h : Side B cb w wr) (hb : Below w.heap.size wr w') : Side B cb w w' :=
  ⟨h.cur.low h.lt hb, h.lt, ⟨hb.os.trans h.gr.os, hb.tape.trans h.gr.tape, hb.output.trans h.gr.output, Nat.le_trans h.gr.size hb.size, fun i hi hne => (hb.block i hi).trans (h.gr.block i hi hne)⟩⟩
theorem Side.below {B cb : Nat} {w wr w' : World} (h : Side B cb w wr) (hb : Below wr.heap.size wr w') : Side B cb w w' := h.low (hb.mono h.size)
/-- A draw. -/
theorem Side.drawn {B cb : Nat} {w wr w' : World} (h : Side B cb w wr) (hc : Cur w' B cb) (hg : wr.grownBy w' (some cb)) : Side B cb w w' := ⟨hc, h.lt, grown_then h.gr hg⟩
theorem own_drawn {w w' : World} {B cb n : Nat} {e : TypeId} {v : Value} {xs : List Value} (h : w.ownsRow B e 1 v n xs) (hg : w.grownBy w' (some cb)) (hc : cb < B) : w'.ownsRow B e 1 v n xs := by
  refine h.kept hg ?_
  cases hv : v.ownBlock with
  | none => exact .inl rfl
  | some k => exact .inr (fun e => by have := (h.lt k hv).1; injection e with e; omega)
theorem Ints.drawn {w w' : World} {B cb : Nat} {v : Value} {zs : List Int} (h : Ints w B v zs) (hg : w.grownBy w' (some cb)) (hc : cb < B) : Ints w' B v zs := by
  refine h.kept hg ?_
  cases hv : v.ownBlock with
  | none => exact .inl rfl
  | some k => exact .inr (fun e => by have := h.since k hv; injection e with e; omega)
theorem Inner.drawn {w w' : World} {B cb : Nat} {vs : List Value} {zss : List (List Int)} (h : Inner w B vs zss) (hg : w.grownBy w' (some cb)) (hc : cb < B) : Inner w' B vs zss :=
  ⟨h.len, fun i u zs hu hz => (h.row i u zs hu hz).drawn hg hc, h.away⟩
theorem IntsS.drawn {w w' : World} {B cb : Nat} {v : Value} {zss : List (List Int)} (h : IntsS w B v zss) (hg : w.grownBy w' (some cb)) (hc : cb < B) : IntsS w' B v zss := by
  obtain ⟨vs, h1, h2⟩ := h
  exact ⟨vs, own_drawn h1 hg hc, h2.drawn hg hc⟩

/-- What is drawn is short and its numbers have 64 bits. -/
def Lite (L : Nat) (zs : List Int) : Prop := zs.length ≤ L ∧ Small zs
/-- A row that was drawn, with room to grow. -/
def DrawnO (B cb : Nat) (w : World) (L : Nat) (e : Ending) (w' : World) : Prop :=
  ∃ A c zs, e = .returned (.slice A zs.length c) ∧ Lite L zs ∧ w'.ownsRow w.heap.size 3 1 (.slice A zs.length c) zs.length (i64s zs) ∧ Cur w' B cb ∧ w.grownBy w' (some cb)
/-- .. of a known length. -/
def DrawnE (B cb : Nat) (w : World) (L : Nat) (e : Ending) (w' : World) : Prop :=
  ∃ A c zs, e = .returned (.slice A L c) ∧ zs.length = L ∧ Small zs ∧ w'.ownsRow w.heap.size 3 1 (.slice A L c) L (i64s zs) ∧ Cur w' B cb ∧ w.grownBy w' (some cb)
theorem DrawnE.mk {B cb L : Nat} {w w' : World} {v : Value} {zs : List Int} (hI : w'.ownsRow w.heap.size 3 1 v L (i64s zs)) (hn : zs.length = L) (hl : Small zs) (h : Side B cb w w') : DrawnE B cb w L (.returned v) w' := by
  obtain ⟨A, c, rfl, _⟩ := Reads.of_own hI
  exact ⟨A, c, zs, rfl, hn, hl, hI, h.cur, h.gr⟩
theorem DrawnO.mk {B cb L : Nat} {w w' : World} {v : Value} {zs : List Int} (hI : w'.ownsRow w.heap.size 3 1 v zs.length (i64s zs)) (hl : Lite L zs) (h : Side B cb w w') : DrawnO B cb w L (.returned v) w' := by
  obtain ⟨A, c, rfl, _⟩ := Reads.of_own hI
  exact ⟨A, c, zs, rfl, hl, hI, h.cur, h.gr⟩
/-- A row that was drawn. -/
def DrawnI (B cb : Nat) (w : World) (L : Nat) (e : Ending) (w' : World) : Prop :=
  ∃ A c zs, e = .returned (.slice A zs.length c) ∧ Lite L zs ∧ Ints w' w.heap.size (.slice A zs.length c) zs ∧ Cur w' B cb ∧ w.grownBy w' (some cb)
theorem DrawnI.mk {B cb L : Nat} {w w' : World} {v : Value} {zs : List Int} (hI : Ints w' w.heap.size v zs) (hl : Lite L zs) (h : Side B cb w w') : DrawnI B cb w L (.returned v) w' := by
  obtain ⟨A, c, rfl⟩ := hI.slice
  exact ⟨A, c, zs, rfl, hl, hI, h.cur, h.gr⟩
theorem Lite.more {L L' : Nat} {zs : List Int} (h : Lite L zs) (hL : L ≤ L') : Lite L' zs := ⟨Nat.le_trans h.1 hL, h.2⟩
theorem Lite.arg {w : World} {B n c L : Nat} {A : Option Addr} {zs : List Int} (h : Lite L zs) (hI : Ints w B (.slice A n c) zs) (hL : L ≤ 1048576) : Arg w w.heap.size A n c zs :=
  hI.arg (by have := hI.len; have := h.1; omega) hI.cap h.2
theorem small_nil : Small [] := fun z hz => by simp at hz
theorem small_put {zs : List Int} {at_ : Nat} {k : Int} (h : Small zs) (hk : -9223372036854775808 ≤ k ∧ k ≤ 9223372036854775807) : Small (zs.take at_ ++ [k] ++ zs.drop at_) := fun z hz => by
  rcases List.mem_append.1 hz with hz | hz
  · rcases List.mem_append.1 hz with hz | hz
    · exact h z (List.mem_of_mem_take hz)
    · rw [List.mem_singleton] at hz; subst hz; exact hk
  · exact h z (List.mem_of_mem_drop hz)

theorem own_base {w : World} {B B' n : Nat} {e : TypeId} {v : Value} {xs : List Value} (h : w.ownsRow B e 1 v n xs) (hB : B' ≤ B) : w.ownsRow B' e 1 v n xs := by
  refine ⟨h.1, ?_⟩
  rcases h.2 with h2 | ⟨g, cap, cur, e, hb, h2⟩
  · exact .inl h2
  · exact .inr ⟨g, cap, cur, e, Nat.le_trans hB hb, h2⟩
theorem take_i64 (zs : List Int) (s : Nat) : (i64s zs).take s = i64s (zs.take s) := by unfold i64s; rw [List.map_take]
theorem drop_i64 (zs : List Int) (s : Nat) : (i64s zs).drop s = i64s (zs.drop s) := by unfold i64s; rw [List.map_drop]
theorem i64_snoc2 (xs : List Int) (z : Int) : i64s xs ++ [Value.int .i64 z] = i64s (xs ++ [z]) := by unfold i64s; simp

set_option maxHeartbeats 1600000 in
theorem l2drawE_any (B cb m : Nat) (hm : m ≤ 16) (w : World) (hc : Cur w B cb) :
    Calls Tryd.prog 45 #[.pointer (some ⟨cb, 0, none⟩), .int .i64 m] w (DrawnE B cb w m) := by
  obtain ⟨i0, hi, hz0, hz1, hz2⟩ := info_parts intInfo
  have hS0 := Side.start hc
  have hst := own0 w w.heap.size (Nat.le_refl _)
  have hS := hS0.below ((Below.refl w.heap.size w).alloc (Nat.le_refl _) (.cells #[] 3))
  clear hS0 hc
  go_enter Tryd.func45, Tryd.ntmps45
  go_wp2
  go_loopw [5, 6, 7, 8] (fun v i _ _ wr => ∃ (k : Nat) (zs : List Int) (g cap : Nat), k ≤ m ∧ i = .int .i64 ((k : Int) + 1) ∧ v = .slice (some ⟨g, 0, none⟩) k cap ∧ zs.length = k ∧ k ≤ cap ∧ w.heap.size ≤ g ∧ Hid (Small zs) ∧ Side B cb w wr ∧ wr.ownsRow w.heap.size 3 1 (.slice (some ⟨g, 0, none⟩) k cap) k (i64s zs)) (fun _ i _ _ _ => m + 1 - (intOf i).toNat)
  case atStart => exact ⟨0, [], w.heap.size, 0, Nat.zero_le _, rfl, rfl, rfl, Nat.le_refl _, Nat.le_refl _, small_nil, hS, hst⟩
  case round =>
    obtain ⟨k, zs, g, cap, hk, rfl, rfl, hzl, hkc, hgb, hsm, hS, hown⟩ := hrel
    clear hst
    by_cases hlt : k < m
    · have H1 := hide (below_any B cb ((k : Int) + 1) (by omega) wr hS.cur)
      have hlt' : (k : Int) + 1 ≤ (m : Int) := by omega
      have HZL := hide hzl
      clear hzl
      go_wp2_with fail
      refine (unhide H1).mono ?_
      rintro e w1 ⟨v, rfl, ⟨x, rfl, hx0, hx1⟩, hc1, hg1⟩
      rw [if_pos (by omega)] at hx1
      obtain ⟨s, rfl⟩ : ∃ s : Nat, x = s := ⟨x.toNat, by omega⟩
      have hsk : s ≤ k := by omega
      have hown1 := own_drawn hown hg1 hS.lt
      have hS1 := hS.drawn hc1 hg1
      clear H1 hown hc1 hg1 hS hx0 hx1
      by_cases hsc : s < cap
      · have hsc' : (s : Int) < (cap : Int) := by omega
        have hsk' : (s : Int) ≤ (k : Int) := by omega
        have hE := own0 w1 w1.heap.size (Nat.le_refl _)
        have hal := (Below.refl w1.heap.size w1).alloc (Nat.le_refl _) (.cells #[] 3)
        have hsz1 := hS1.size
        have hA : Arg (w1.alloc (.cells #[] 3)) w1.heap.size (some ⟨g, s, none⟩) (k - s) (cap - s) (zs.drop s) := by
          refine ⟨by rw [← drop_i64]; exact (own_rest hown1 hsk).below hal, by simp, by omega, by omega, fun z hz => unhide hsm z (List.mem_of_mem_drop hz), fun e => by cases e⟩
        go_wp2_with (first
          | (at_builtin; refine wpList_append_arg rfl (.tmp 20) (.tmp 23) rfl w1.heap.size w1.heap.size 0 (k - s) (cap - s) w1 _ (some ⟨g, s, none⟩) [] (zs.drop s) rfl rfl hE hA (by omega) hal hal.size ?_))
        intro v2 w2 hown2 hb2 hg2
        clear hE hA hal hg2
        have hown3 := own_cut (own_below hown1 hb2) hsk
        rw [take_i64] at hown3
        have hS2 := hS1.below hb2
        have hgw1 := (hown1.lt g rfl).2
        clear hown1 hS1
        go_wp2_with (first
          | (at_builtin; refine wpList_append_one rfl (.tmp 27) (.tmp 29) 24 rfl w.heap.size 3 i0 (.int .i64 0) 8 Tryd.underlying24 hi hz0 hz1 hz2 rfl w2 w2 _ _ _ rfl hown3 (.int .i64 ((k : Int) + 1)) rfl rfl rfl (by omega) (by unfold maxLen; omega) (Below.refl _ _) hS2.size ?_))
        intro v4 w4 hown4 hb4 hg4
        have hI2 : Ints w4 w1.heap.size v2 (zs.drop s) := by
          have h : Ints w2 w1.heap.size v2 (zs.drop s) := Ints.of_own hown2
          refine h.kept hg4 ?_
          cases hv : v2.ownBlock with
          | none => exact .inl rfl
          | some q => exact .inr (fun e => by have := h.since q hv; simp [Value.ownBlock] at e; omega)
        obtain ⟨A2, c2, rfl, _⟩ := Reads.of_own hown2
        have hdl : (zs.drop s).length = k - s := by have h := hown2.1; rw [i64_length] at h; omega
        have hA4 := hI2.arg (by omega) hI2.cap (show Small (zs.drop s) from fun z hz => unhide hsm z (List.mem_of_mem_drop hz))
        rw [i64_snoc2] at hown4
        have hS4 := hS2.low hb4
        clear hown2 hI2 hown3 hS2 hg4 hb2
        go_wp2_with (first
          | (at_builtin; refine wpList_append_arg rfl (.tmp 30) (.tmp 31) rfl w.heap.size w4.heap.size (s + 1) (k - s) c2 w4 _ A2 (zs.take s ++ [(k : Int) + 1]) (zs.drop s) rfl rfl hown4 hA4 (by omega) (Below.refl _ _) hS4.size ?_))
        intro v5 w5 hown5 hb5 hg5
        obtain ⟨g5, c5, rfl, hg5b, hc5⟩ := own_first hown5 (by omega)
        have hS5 := hS4.low hb5
        have hk1 : s + 1 + (k - s) = k + 1 := by omega
        rw [hk1] at hown5 hc5 ⊢
        have hsm5 := hide (small_put (at_ := s) (k := (k : Int) + 1) (unhide hsm) (by omega))
        have hlen5 : (zs.take s ++ [(k : Int) + 1] ++ zs.drop s).length = k + 1 := by
          have := unhide HZL
          simp only [List.length_append, List.length_take, List.length_drop, List.length_singleton]; omega
        clear hown4 hA4 hS4 hb4 hb5 hg5
        go_wp2
        go_roundw
        case rel => exact ⟨k + 1, _, g5, c5, by omega, by go_num, rfl, hlen5, hc5, hg5b, hsm5, hS5, by rw [List.append_assoc]; exact hown5⟩
        case measure => simp [intOf]; omega
      · have hsk2 : s = k := by omega
        have hkc2 : k = cap := by omega
        subst hsk2
        subst hkc2
        have hsk' : (s : Int) ≤ (s : Int) := by omega
        have hE := own0 w1 w1.heap.size (Nat.le_refl _)
        have hal := (Below.refl w1.heap.size w1).alloc (Nat.le_refl _) (.cells #[] 3)
        have hsz1 := hS1.size
        have hA : Arg (w1.alloc (.cells #[] 3)) w1.heap.size (some ⟨g, 0, none⟩) (0) (0) (zs.drop s) := by
          have hz0 : zs.drop s = [] := List.drop_of_length_le (by have := unhide HZL; omega)
          rw [hz0]
          exact ⟨⟨rfl, fun h => absurd h (by omega)⟩, by simp, by omega, by omega, small_nil, fun e => by cases e⟩
        go_wp2_with (first
          | (at_builtin; refine wpList_append_arg rfl (.tmp 20) (.tmp 23) rfl w1.heap.size w1.heap.size 0 (0) (0) w1 _ (some ⟨g, 0, none⟩) [] (zs.drop s) rfl rfl hE hA (by omega) hal hal.size ?_))
        intro v2 w2 hown2 hb2 hg2
        clear hE hA hal hg2
        have hown3 := own_cut (own_below hown1 hb2) hsk
        rw [take_i64] at hown3
        have hS2 := hS1.below hb2
        have hgw1 := (hown1.lt g rfl).2
        clear hown1 hS1
        go_wp2_with (first
          | (at_builtin; refine wpList_append_one rfl (.tmp 27) (.tmp 29) 24 rfl w.heap.size 3 i0 (.int .i64 0) 8 Tryd.underlying24 hi hz0 hz1 hz2 rfl w2 w2 _ _ _ rfl hown3 (.int .i64 ((s : Int) + 1)) rfl rfl rfl (by omega) (by unfold maxLen; omega) (Below.refl _ _) hS2.size ?_))
        intro v4 w4 hown4 hb4 hg4
        have hI2 : Ints w4 w1.heap.size v2 (zs.drop s) := by
          have h : Ints w2 w1.heap.size v2 (zs.drop s) := Ints.of_own hown2
          refine h.kept hg4 ?_
          cases hv : v2.ownBlock with
          | none => exact .inl rfl
          | some q => exact .inr (fun e => by have := h.since q hv; simp [Value.ownBlock] at e; omega)
        obtain ⟨A2, c2, rfl, _⟩ := Reads.of_own hown2
        have hdl : (zs.drop s).length = 0 := by have h := hown2.1; rw [i64_length] at h; omega
        have hA4 := hI2.arg (by omega) hI2.cap (show Small (zs.drop s) from fun z hz => unhide hsm z (List.mem_of_mem_drop hz))
        rw [i64_snoc2] at hown4
        have hS4 := hS2.low hb4
        clear hown2 hI2 hown3 hS2 hg4 hb2
        go_wp2_with (first
          | (at_builtin; refine wpList_append_arg rfl (.tmp 30) (.tmp 31) rfl w.heap.size w4.heap.size (s + 1) (0) c2 w4 _ A2 (zs.take s ++ [(s : Int) + 1]) (zs.drop s) rfl rfl hown4 hA4 (by omega) (Below.refl _ _) hS4.size ?_))
        intro v5 w5 hown5 hb5 hg5
        obtain ⟨g5, c5, rfl, hg5b, hc5⟩ := own_first hown5 (by omega)
        have hS5 := hS4.low hb5
        have hk1 : s + 1 + (0) = s + 1 := by omega
        rw [hk1] at hown5 hc5 ⊢
        have hsm5 := hide (small_put (at_ := s) (k := (s : Int) + 1) (unhide hsm) (by omega))
        have hlen5 : (zs.take s ++ [(s : Int) + 1] ++ zs.drop s).length = s + 1 := by
          have := unhide HZL
          simp only [List.length_append, List.length_take, List.length_drop, List.length_singleton]; omega
        clear hown4 hA4 hS4 hb4 hb5 hg5
        go_wp2
        go_roundw
        case rel => exact ⟨s + 1, _, g5, c5, by omega, by go_num, rfl, hlen5, hc5, hg5b, hsm5, hS5, by rw [List.append_assoc]; exact hown5⟩
        case measure => simp [intOf]; omega
    · obtain rfl : k = m := by omega
      have hlt' : ¬ (k : Int) + 1 ≤ (k : Int) := by omega
      have HS := hide hS
      have HZ := hide hzl
      clear hzl hS
      go_wp2
      go_ret
      exact DrawnE.mk hown (unhide HZ) (unhide hsm) (unhide HS)
theorem l2draw_any (B cb m : Nat) (hm : m ≤ 16) (w : World) (hc : Cur w B cb) :
    Calls Tryd.prog 45 #[.pointer (some ⟨cb, 0, none⟩), .int .i64 m] w (DrawnO B cb w m) := by
  refine (l2drawE_any B cb m hm w hc).mono ?_
  rintro e w1 ⟨A, c, zs, rfl, hl, hs, hown, hc1, hg1⟩
  refine ⟨A, c, zs, by rw [hl], ⟨by omega, hs⟩, ?_, hc1, hg1⟩
  rw [hl]
  exact hown

set_option maxHeartbeats 800000 in
theorem l2any_any (B cb : Nat) (w : World) (hc : Cur w B cb) : Calls Tryd.prog 64 #[.pointer (some ⟨cb, 0, none⟩)] w (DrawnO B cb w 8) := by
  have hal := (Below.refl w.heap.size w).alloc (Nat.le_refl _) (.cells ([0, 1, 2, 3, 4, 5, 5, 6, 6, 7, 8].map (Value.int .i64)).toArray 3)
  have hS := (Side.start hc).below hal
  have hne : w.heap.size ≠ cb := by have := hc.lt; omega
  have H1 := hide (pickInt_any B cb w.heap.size 11 11 [0, 1, 2, 3, 4, 5, 5, 6, 6, 7, 8] _ hS.cur (Blk.new w _ _) hne rfl (by omega) (by omega))
  clear hal hc
  simp only [List.map_cons, List.map_nil] at hS H1
  go_enter Tryd.func64, Tryd.ntmps64
  go_wp2_with fail
  refine (unhide H1).mono ?_
  rintro e w1 ⟨v, rfl, ⟨x, hx, rfl⟩, hc1, hg1⟩
  have hx8 : 0 ≤ x ∧ x ≤ 8 := by
    simp only [List.mem_cons, List.not_mem_nil, or_false] at hx
    omega
  obtain ⟨m, rfl⟩ : ∃ m : Nat, x = m := ⟨x.toNat, by omega⟩
  have hm : m ≤ 8 := by omega
  have hS1 := hS.drawn hc1 hg1
  have H2 := hide (l2draw_any B cb m (by omega) w1 hc1)
  clear H1 hx hx8 hS hc1 hg1
  go_wp2_with fail
  refine (unhide H2).mono ?_
  rintro e w2 ⟨A2, c2, zs, rfl, hl, hown, hc2, hg2⟩
  have hS2 := hS1.drawn hc2 hg2
  have hown2 := own_base hown hS1.size
  have HL := hide (hl.more hm)
  have HS := hide hS2
  clear H2 hl hc2 hg2 hS2 hown
  go_wp2
  go_ret
  exact ⟨A2, c2, zs, rfl, unhide HL, hown2, (unhide HS).cur, (unhide HS).gr⟩

set_option maxHeartbeats 1600000 in
theorem l2bent_any (B cb : Nat) (w : World) (hc : Cur w B cb) : Calls Tryd.prog 29 #[.pointer (some ⟨cb, 0, none⟩)] w (DrawnI B cb w 9) := by
  obtain ⟨i0, hi, hz0, hz1, hz2⟩ := info_parts intInfo
  have hS := Side.start hc
  have H1 := hide (l2any_any B cb w hc)
  clear hc
  go_enter Tryd.func29, Tryd.ntmps29
  go_wp2_with fail
  refine (unhide H1).mono ?_
  rintro e w1 ⟨A, c, zs, rfl, hl, hown, hc1, hg1⟩
  have hS1 := hS.drawn hc1 hg1
  have H2 := hide (below_any B cb 14 (by omega) w1 hc1)
  have HL := hide hl
  have hl8 := hl.1
  clear H1 hS hc1 hg1 hl
  go_wp2_with fail
  refine (unhide H2).mono ?_
  rintro e w2 ⟨v, rfl, ⟨x, rfl, hx0, hx1⟩, hc2, hg2⟩
  have hS2 := hS1.drawn hc2 hg2
  have hown2 := own_drawn hown hg2 hS1.lt
  clear H2 hown hS1 hg2
  by_cases h0 : x = 0
  · subst h0
    have H3 := hide (below_any B cb 12 (by omega) w2 hc2)
    clear hc2
    go_wp2_with fail
    refine (unhide H3).mono ?_
    rintro e w3 ⟨v, rfl, ⟨y, rfl, hy0, hy1⟩, hc3, hg3⟩
    rw [if_pos (by omega)] at hy1
    have hS3 := hS2.drawn hc3 hg3
    have hown3 := own_drawn hown2 hg3 hS2.lt
    have hsz := hS3.size
    clear H3 hown2 hS2 hc3 hg3
    go_wp2_with (first
      | (at_builtin; refine wpList_append_one rfl (.tmp 10) (.tmp 14) 24 rfl w.heap.size 3 i0 (.int .i64 0) 8 Tryd.underlying24 hi hz0 hz1 hz2 rfl w3 w3 _ _ _ rfl hown3 (.int .i64 (y - 1)) rfl rfl rfl (by omega) (by unfold maxLen; omega) (Below.refl _ _) hsz ?_))
    intro v4 w4 hown4 hb4 _
    rw [i64_snoc2] at hown4
    have hI : Ints w4 w.heap.size v4 (zs ++ [y - 1]) := by
      have h := hown4
      rw [show zs.length + 1 = (zs ++ [y - 1]).length by simp] at h
      exact Ints.of_own h
    have hS4 := hS3.low hb4
    have HL2 := hide (show Lite 9 (zs ++ [y - 1]) from ⟨by simp; omega, fun z hz => by
      rcases List.mem_append.1 hz with hz | hz
      · exact (unhide HL).2 z hz
      · rw [List.mem_singleton] at hz; subst hz; omega⟩)
    have HS := hide hS4
    clear hown3 hS3 hown4 hb4 hS4
    go_wp2
    go_ret
    exact DrawnI.mk hI (unhide HL2) (unhide HS)
  · have HS := hide hS2
    have HL2 := hide ((unhide HL).more (show 8 ≤ 9 by omega))
    by_cases h1 : x = 1
    · subst h1
      by_cases hlen : 0 < zs.length
      · obtain ⟨g, c', hv, hgb, hcc⟩ := own_first hown2 hlen
        injection hv with hv1 hv2 hv3
        subst hv1
        subst hv3
        have H3 := hide (below_any B cb 11 (by omega) w2 hc2)
        have hlen' : (0 : Int) < (zs.length : Int) := by omega
        clear hc2
        go_wp2_with fail
        refine (unhide H3).mono ?_
        rintro e w3 ⟨v, rfl, ⟨y, rfl, hy0, hy1⟩, hc3, hg3⟩
        rw [if_pos (by omega)] at hy1
        have hS3 := hS2.drawn hc3 hg3
        have hown3 := own_drawn hown2 hg3 hS2.lt
        obtain ⟨old, hold⟩ : ∃ old, w3.cell? ⟨g, 0, none⟩ = some old := ⟨_, by rw [hown3.cellAt 0 (by omega)]; exact List.getElem?_eq_getElem (by rw [i64_length]; exact hlen)⟩
        have hfz := hown3.frozenAt 0
        have hst := hown3.stored 0 (.int .i64 (y - 1))
        have hb4 := (Below.refl w.heap.size w3).setCell (p := ⟨g, 0, none⟩) hgb (.int .i64 (y - 1))
        have hS4 := hS3.low hb4
        have hI : Ints (w3.setCell ⟨g, 0, none⟩ (.int .i64 (y - 1))) w.heap.size (.slice (some ⟨g, 0, none⟩) zs.length c) (zs.set 0 (y - 1)) := by
          have h := hst.1
          rw [show (i64s zs).set 0 (.int .i64 (y - 1)) = i64s (zs.set 0 (y - 1)) by unfold i64s; rw [List.map_set]] at h
          have h9 := Ints.of_own (zs := zs.set 0 (y - 1)) (n := zs.length) h
          exact h9
        have HL3 := hide (show Lite 9 (zs.set 0 (y - 1)) from ⟨by rw [List.length_set]; omega, fun z hz => by
          rcases List.mem_or_eq_of_mem_set hz with hz | hz
          · exact (unhide HL).2 z hz
          · subst hz; omega⟩)
        have HS4 := hide hS4
        clear H3 hown2 hS2 hc3 hg3 hown3 hS3 hst hb4 hS4
        go_wp2
        go_ret
        exact DrawnI.mk hI (unhide HL3) (unhide HS4)
      · obtain rfl : zs = [] := List.eq_nil_of_length_eq_zero (by omega)
        have hI : Ints w2 w.heap.size (.slice A 0 c) [] := Ints.of_own hown2
        clear hown2 hc2 hS2 hlen
        go_wp2
        go_ret
        exact DrawnI.mk hI (unhide HL2) (unhide HS)
    · have hI : Ints w2 w.heap.size (.slice A zs.length c) zs := Ints.of_own hown2
      clear hown2 hc2 hS2
      go_wp2
      go_ret
      exact DrawnI.mk hI (unhide HL2) (unhide HS)
end Go.Proofs.YtabfjmabiapgoaaDoor


/-
  WORDS: a row that lies apart from all rows of a list; it is put behind the list, or at a place of it. Nothing here speaks of a function of the program.
-/

namespace Go.Proofs.YtabfjmabiapgoaaDoor
set_option maxRecDepth 100000
open Go.RowKit

/-- A list of rows and a row that lies apart from all of it. -/
def Fresh (w : World) (B : Nat) (v : Value) (zss : List (List Int)) (u : Value) : Prop := ∃ vs, w.ownsRow B 24 1 v zss.length vs ∧ Inner w B vs zss ∧ ∀ x ∈ vs, Away x u
theorem wpList_push_fresh_keep {ops : Array Oper} {rest : List Oper} {o : Oper} {a : Act} {W : World} {Q : Exit → Act → World → Prop} (hgd : o.guard = none) (sl x : Operand)
    (ho : o.op = .call { callee := .builtin .append, args := #[sl, x], argTypes := #[68, 68] })
    (base : Nat) (wr : World) (v u : Value) (zss : List (List Int)) (zs : List Int) (hs : a.eval sl = v) (hx : a.eval x = .slice (some ⟨wr.heap.size, 0, none⟩) 1 1) (hW : W = wr.alloc (.cells #[u] 24))
    (hS : Fresh wr base v zss u) (hu : Ints wr base u zs) (hn : zss.length ≤ 1048576) (hbase : base ≤ wr.heap.size)
    (K : ∀ v' w', IntsS w' base v' (zss ++ [zs]) → Below base wr w' → KeepI wr w' → wpList Tryd.prog ops Q rest (a.put o.dst v') w') : wpList Tryd.prog ops Q (o :: rest) a W := by
  obtain ⟨i0, hi, hz0, hz1, hz2⟩ := info_parts rowsInfo
  obtain ⟨vs, hown, hin, ha⟩ := hS
  obtain ⟨A1, c1, rfl⟩ := hu.slice
  refine wpList_append_one hgd sl x 68 ho base 24 i0 (.slice none 0 0) 24 Tryd.underlying68 hi hz0 hz1 hz2 rfl wr wr v _ _ hs hown _ hx hW rfl (by omega) (by unfold maxLen; omega) (Below.refl _ _) hbase fun v' w' h1 h2 h3 => K v' w' ?_ h2 (KeepI.of_grown hown h3)
  have hk := KeepI.of_grown hown h3
  refine ⟨vs ++ [.slice A1 zs.length c1], by rw [List.length_append]; exact h1, ?_⟩
  exact (hin.keepI hk).push (hu.keepI hk) ha

theorem IntsS.putFresh {w : World} {B g n cap k : Nat} {zss : List (List Int)} {z : List Int} {u : Value} (h : Fresh w B (.slice (some ⟨g, 0, none⟩) n cap) zss u) (hu : Ints w B u z) :
    IntsS (w.setCell ⟨g, k, none⟩ u) B (.slice (some ⟨g, 0, none⟩) n cap) (zss.set k z) ∧ KeepI w (w.setCell ⟨g, k, none⟩ u) := by
  obtain ⟨vs, h2, h3, ha⟩ := h
  have hl : n = zss.length := by
    rcases h2.2 with ⟨hv, hz⟩ | ⟨g', cap', cur, hv, _⟩
    · injection hv with _ h3; omega
    · injection hv
  subst hl
  have st := h2.stored k u
  have hk := KeepI.of_grown h2 st.2
  refine ⟨⟨vs.set k u, by rw [List.length_set]; exact st.1, ?_⟩, hk⟩
  exact (h3.keepI hk).set k (hu.keepI hk) ha
/-- A list of two rows that was just built. -/
theorem IntsS.two {w : World} {B : Nat} {u v : Value} {p q : List Int} (hp : Ints w B u p) (hq : Ints w B v q) (ha : Away u v) (hB : B ≤ w.heap.size) :
    IntsS (w.alloc (.cells #[u, v] 24)) B (.slice (some ⟨w.heap.size, 0, none⟩) 2 2) [p, q] := by
  have hal := (Below.refl w.heap.size w).alloc (Nat.le_refl _) (.cells #[u, v] 24)
  refine ⟨[u, v], ⟨rfl, .inr ⟨w.heap.size, 2, #[u, v], rfl, hB, heap_alloc_new w _, Nat.le_refl _, by unfold maxLen; omega, rfl, rfl⟩⟩, ?_⟩
  have h1 := (Inner.nil (w.alloc (.cells #[u, v] 24)) B).push (hp.below hal) (fun x hx => by simp at hx)
  exact h1.push (hq.below hal) (fun x hx => by simp at hx; subst hx; exact ha)
theorem away_since {w : World} {B : Nat} {u v : Value} {zs : List Int} (hu : Ints w B u zs) (hv : Since w.heap.size v) : Away u v := by
  unfold Away
  cases h : u.ownBlock with
  | none => exact .inl rfl
  | some k =>
    refine .inr fun e => ?_
    have h1 := hv k e.symm
    have h2 := hu.until_ k h
    omega

theorem Fresh.two {w : World} {B : Nat} {u v r : Value} {p q : List Int} (hp : Ints w B u p) (hq : Ints w B v q) (ha : Away u v) (hr1 : Away u r) (hr2 : Away v r) (hB : B ≤ w.heap.size) :
    Fresh (w.alloc (.cells #[u, v] 24)) B (.slice (some ⟨w.heap.size, 0, none⟩) 2 2) [p, q] r := by
  have hal := (Below.refl w.heap.size w).alloc (Nat.le_refl _) (.cells #[u, v] 24)
  refine ⟨[u, v], ⟨rfl, .inr ⟨w.heap.size, 2, #[u, v], rfl, hB, heap_alloc_new w _, Nat.le_refl _, by unfold maxLen; omega, rfl, rfl⟩⟩, ?_, ?_⟩
  · have h1 := (Inner.nil (w.alloc (.cells #[u, v] 24)) B).push (hp.below hal) (fun x hx => by simp at hx)
    exact h1.push (hq.below hal) (fun x hx => by simp at hx; subst hx; exact ha)
  · intro x hx
    simp only [List.mem_cons, List.not_mem_nil, or_false] at hx
    rcases hx with rfl | rfl
    · exact hr1
    · exact hr2
end Go.Proofs.YtabfjmabiapgoaaDoor


/-
  DRAWS OF LISTS: spec.l3List, by its contract.
-/

namespace Go.Proofs.YtabfjmabiapgoaaDoor
set_option maxRecDepth 100000
open Go.RowKit

theorem IntsS.fresh {w0 w : World} {B cb : Nat} {v u : Value} {zss : List (List Int)} {zs : List Int} (h : IntsS w0 B v zss) (hg : w0.grownBy w (some cb)) (hc : cb < B) (hu : Ints w w0.heap.size u zs) : Fresh w B v zss u := by
  obtain ⟨vs, h1, h2⟩ := h
  exact ⟨vs, own_drawn h1 hg hc, h2.drawn hg hc, h2.away_new hu.since (Nat.le_refl _)⟩
theorem wpList_push_fresh {ops : Array Oper} {rest : List Oper} {o : Oper} {a : Act} {W : World} {Q : Exit → Act → World → Prop} (hgd : o.guard = none) (sl x : Operand)
    (ho : o.op = .call { callee := .builtin .append, args := #[sl, x], argTypes := #[68, 68] })
    (base : Nat) (wr : World) (v u : Value) (zss : List (List Int)) (zs : List Int) (hs : a.eval sl = v) (hx : a.eval x = .slice (some ⟨wr.heap.size, 0, none⟩) 1 1) (hW : W = wr.alloc (.cells #[u] 24))
    (hS : Fresh wr base v zss u) (hu : Ints wr base u zs) (hn : zss.length ≤ 1048576) (hbase : base ≤ wr.heap.size)
    (K : ∀ v' w', IntsS w' base v' (zss ++ [zs]) → Below base wr w' → wpList Tryd.prog ops Q rest (a.put o.dst v') w') : wpList Tryd.prog ops Q (o :: rest) a W := by
  obtain ⟨i0, hi, hz0, hz1, hz2⟩ := info_parts rowsInfo
  obtain ⟨vs, hown, hin, ha⟩ := hS
  obtain ⟨A1, c1, rfl⟩ := hu.slice
  refine wpList_append_one hgd sl x 68 ho base 24 i0 (.slice none 0 0) 24 Tryd.underlying68 hi hz0 hz1 hz2 rfl wr wr v _ _ hs hown _ hx hW rfl (by omega) (by unfold maxLen; omega) (Below.refl _ _) hbase fun v' w' h1 h2 h3 => K v' w' ?_ h2
  have hk := KeepI.of_grown hown h3
  refine ⟨vs ++ [.slice A1 zs.length c1], by rw [List.length_append]; exact h1, ?_⟩
  exact (hin.keepI hk).push (hu.keepI hk) ha
theorem IntsS.putDrawn {w0 w : World} {B cb g n cap k : Nat} {zss : List (List Int)} {z : List Int} {u : Value} (h : IntsS w0 B (.slice (some ⟨g, 0, none⟩) n cap) zss) (hg : w0.grownBy w (some cb)) (hc : cb < B) (hu : Ints w w0.heap.size u z) (hB : B ≤ w0.heap.size) :
    IntsS (w.setCell ⟨g, k, none⟩ u) B (.slice (some ⟨g, 0, none⟩) n cap) (zss.set k z) := by
  have hl := h.len
  subst hl
  obtain ⟨vs, h2, h3⟩ := h
  have o := own_drawn h2 hg hc
  have ha := h3.away_new hu.since (Nat.le_refl _)
  have st := o.stored k u
  have hk := KeepI.of_grown o st.2
  refine ⟨vs.set k u, by rw [List.length_set]; exact st.1, ?_⟩
  exact ((h3.drawn hg hc).keepI hk).set k ((hu.low hB).keepI hk) ha
/-- A list of rows that was drawn. -/
def DrawnSS (B cb : Nat) (w : World) (e : Ending) (w' : World) : Prop :=
  ∃ A c zss, e = .returned (.slice A zss.length c) ∧ zss.length ≤ 4 ∧ (∀ z ∈ zss, Lite 9 z) ∧ IntsS w' w.heap.size (.slice A zss.length c) zss ∧ Cur w' B cb ∧ w.grownBy w' (some cb)
theorem DrawnSS.mk {B cb : Nat} {w w' : World} {v : Value} {zss : List (List Int)} (hI : IntsS w' w.heap.size v zss) (hn : zss.length ≤ 4) (hl : ∀ z ∈ zss, Lite 9 z) (h : Side B cb w w') : DrawnSS B cb w (.returned v) w' := by
  obtain ⟨A, c, rfl⟩ := hI.slice
  exact ⟨A, c, zss, rfl, hn, hl, hI, h.cur, h.gr⟩

/-- What stood before the cursor was made is as it was. -/
theorem Side.under {B cb : Nat} {w w1 w2 : World} (h : Side B cb w1 w2) (hb : Below w.heap.size w w1) (hc : w.heap.size ≤ cb) : Below w.heap.size w w2 :=
  hb.grown h.gr hb.size (fun k hk => by injection hk with hk; omega)
/-- A row that was drawn from the bytes. -/
def DrewI (w : World) (L : Nat) (e : Ending) (w' : World) : Prop := ∃ A c zs, e = .returned (.slice A zs.length c) ∧ Lite L zs ∧ Ints w' w.heap.size (.slice A zs.length c) zs ∧ Below w.heap.size w w'
def DrewII (w : World) (L : Nat) (e : Ending) (w' : World) : Prop :=
  ∃ A c p A' c' q, e = .returned (.tuple #[.slice A p.length c, .slice A' q.length c']) ∧ Lite L p ∧ Lite L q ∧ Ints w' w.heap.size (.slice A p.length c) p ∧ Ints w' w.heap.size (.slice A' q.length c') q ∧ Below w.heap.size w w'
def DrewSB (w : World) (e : Ending) (w' : World) : Prop :=
  ∃ A c zss b, e = .returned (.tuple #[.slice A zss.length c, .bool b]) ∧ zss.length ≤ 4 ∧ (∀ z ∈ zss, Lite 9 z) ∧ IntsS w' w.heap.size (.slice A zss.length c) zss ∧ Below w.heap.size w w'
theorem DrewI.mk {L : Nat} {w w' : World} {v : Value} {zs : List Int} (hI : Ints w' w.heap.size v zs) (hl : Lite L zs) (h : Below w.heap.size w w') : DrewI w L (.returned v) w' := by
  obtain ⟨A, c, rfl⟩ := hI.slice
  exact ⟨A, c, zs, rfl, hl, hI, h⟩
theorem DrewII.mk {L : Nat} {w w' : World} {v v' : Value} {p q : List Int} (hp : Ints w' w.heap.size v p) (hq : Ints w' w.heap.size v' q) (hl : Lite L p) (hl' : Lite L q) (h : Below w.heap.size w w') : DrewII w L (.returned (.tuple #[v, v'])) w' := by
  obtain ⟨A, c, rfl⟩ := hp.slice
  obtain ⟨A', c', rfl⟩ := hq.slice
  exact ⟨A, c, p, A', c', q, rfl, hl, hl', hp, hq, h⟩

end Go.Proofs.YtabfjmabiapgoaaDoor


/-
  PLAIN: a permutation is parsed from its text, is undone by its inverse, is its own pattern.
-/

namespace Go.Proofs.YtabfjmabiapgoaaDoor
set_option maxRecDepth 100000

theorem comp_inv {p : List Int} (h : isP p = true) : compOK p (invL p) = true ∧ compR p (invL p) = upTo p.length := by
  have hok := compOK_yes h (invL_isP h) (invL_length p).symm
  refine ⟨hok, ?_⟩
  rw [compR_yes hok, invL_length]
  refine List.ext_getElem? fun j => ?_
  by_cases hj : j < p.length
  · obtain ⟨i, hi, h1, h2⟩ := invL_get h hj
    rw [compL_at hj h2 (y := (j : Int) + 1) (by rw [show ((i : Int) + 1).toNat - 1 = i by omega]; exact h1)]
    unfold upTo
    rw [List.getElem?_map, List.getElem?_range hj]
    rfl
  · rw [List.getElem?_eq_none (by rw [compL_length]; omega), List.getElem?_eq_none (by rw [upTo_length]; omega)]
theorem invR_inv {p : List Int} (h : isP p = true) : invR p = invL p := by rw [invR_yes h]; rfl
theorem pat_self {p : List Int} (h : isP p = true) : patOK p = true ∧ patR p = p := by
  have hok := patOK_yes (isP_le h) (isP_true.1 h).2.2
  refine ⟨hok, ?_⟩
  rw [patR_yes hok]
  unfold patL
  refine (List.map_congr_left fun v hv => ?_).trans (List.map_id _)
  have := cnt_isP h hv
  simp only [id]; omega
theorem nums_text {p : List Int} (h : isP p = true) : tnums ⟨(textL p).toArray⟩ = p := by
  unfold tnums textL
  rw [List.map_map]
  refine (List.map_congr_left fun z hz => ?_).trans (List.map_id _)
  have hr := (isP_true.1 h).2.1 z hz
  have h8 := isP_le h
  simp only [Function.comp, id, dgt]
  rw [UInt8.toNat_ofNat']
  omega
theorem pp_text (p : List Int) : ppOK (ptext p) = isP p ∧ (isP p = true → ppR (ptext p) = p) := by
  cases h : isP p with
  | false =>
    rw [ptext_no h]
    refine ⟨?_, fun e => by cases e⟩
    exact ppOK_none (by decide) rfl
  | true =>
    by_cases h0 : p.length = 0
    · rw [ptext_nil h h0, List.eq_nil_of_length_eq_zero h0]
      exact ⟨ppOK_dash, fun _ => ppR_dash⟩
    · have hn := nums_text h
      rw [ptext_yes h h0]
      have hne : (⟨(textL p).toArray⟩ : ByteArray) ≠ ⟨#[45]⟩ := fun e => by
        rw [e] at hn
        have h1 : p = [-3] := by rw [← hn]; decide
        rw [h1] at h
        revert h
        decide
      have hsz : 0 < (⟨(textL p).toArray⟩ : ByteArray).size := by
        rw [← tnums_length, hn]; omega
      have hok : ppOK ⟨(textL p).toArray⟩ = true := by rw [ppOK_else hne hsz, hn, h]
      exact ⟨hok, fun _ => by rw [ppR_yes hne hok, hn]⟩
theorem ptext_size (p : List Int) : (ptext p).size ≤ 8 := by
  cases h : isP p with
  | false => rw [ptext_no h]; decide
  | true =>
    by_cases h0 : p.length = 0
    · rw [ptext_nil h h0]; decide
    · rw [ptext_yes h h0]
      show (textL p).toArray.size ≤ 8
      rw [List.size_toArray, textL_length]
      exact isP_le h
end Go.Proofs.YtabfjmabiapgoaaDoor


/-
  spec.l1Turned, spec.DrawParsePerm, by their contracts.
-/

namespace Go.Proofs.YtabfjmabiapgoaaDoor
set_option maxRecDepth 100000
open Go.RowKit

def Brief (L : Nat) (v : Value) : Prop := ∃ r : ByteArray, v = .string r ∧ r.size ≤ L
set_option maxHeartbeats 1600000 in
theorem turned_any (B cb g nn c : Nat) (ss : List ByteArray) (s : ByteArray) (w : World) (hc : Cur w B cb) (hl : Blk w g 9 (ss.map Value.string).toArray) (hne : g ≠ cb) (hn : ss.length = nn) (h0 : 0 < nn) (h1 : nn ≤ 1048576) (hs : s.size ≤ 100) (hss : ∀ t ∈ ss, t.size ≤ 100) :
    Calls Tryd.prog 35 #[.pointer (some ⟨cb, 0, none⟩), .string s, .slice (some ⟨g, 0, none⟩) nn c] w (Drawn B cb w (Brief 300)) := by
  have hS := Side.start hc
  have H1 := hide (below_any B cb ((s.size : Int) + 1) (by omega) w hc)
  have HL := hide hl
  have HN := hide hn
  have HSS := hide hss
  clear hc hl hn hss
  go_enter Tryd.func35, Tryd.ntmps35
  go_wp2_with fail
  refine (unhide H1).mono ?_
  rintro e w1 ⟨v, rfl, ⟨x, rfl, hx0, hx1⟩, hc1, hg1⟩
  rw [if_pos (by omega)] at hx1
  obtain ⟨m, rfl⟩ : ∃ m : Nat, x = m := ⟨x.toNat, by omega⟩
  have hm : m ≤ s.size := by omega
  have hm' : (m : Int) ≤ (s.size : Int) := by omega
  have hS1 := hS.drawn hc1 hg1
  have hl1 := (unhide HL).grown hg1 (by simpa using hne)
  have H2 := hide (below_any B cb 6 (by omega) w1 hc1)
  clear H1 hS hc1 hg1 hx0 hx1 HL
  go_wp2_with fail
  refine (unhide H2).mono ?_
  rintro e w2 ⟨v, rfl, ⟨y, rfl, hy0, hy1⟩, hc2, hg2⟩
  have hS2 := hS1.drawn hc2 hg2
  have hl2 := hl1.grown hg2 (by simpa using hne)
  clear H2 hS1 hg2 hl1
  by_cases h0y : y = 0
  · subst h0y
    have H3 := hide (fun w' (hc : Cur w' B cb) (hl : Blk w' g 9 (ss.map Value.string).toArray) => pick_any B cb g nn c ss w' hc hl hne (unhide HN) h0 h1)
    have hb0 := Below.refl w2.heap.size w2
    have z1 : (s.extract 0 m).size = m := by rw [ByteArray.size_extract]; omega
    have z2 : (s.extract m s.size).size = s.size - m := by rw [ByteArray.size_extract]; omega
    go_wp2
    go_region_held3 (fun _ => True) (trivial)
      (first
        | (go_simp; go_at_call 71; refine (unhide H3 _ (by exact hc2) (by exact hl2)).mono ?_; rintro e w3 ⟨v, rfl, ⟨t, ht, rfl⟩, hc3, hg3⟩; have htz := unhide HSS t ht; have hn1 : ¬ 9223372036854775807 < m + t.size := (by omega); have hn2 : ¬ 9223372036854775807 < m + t.size + (s.size - m) := (by omega); clear ht))
    have hS3 := (hS2.below hb0.drew).drawn hc3 hg3
    have HS := hide hS3
    have hz : ((s.extract 0 m ++ t) ++ s.extract m s.size).size ≤ 300 := by rw [ByteArray.size_append, ByteArray.size_append, z1, z2]; omega
    clear hS3 hS2 hc3 hg3
    go_wp2
    go_ret
    exact ⟨_, rfl, ⟨_, rfl, hz⟩, (unhide HS).cur, (unhide HS).gr⟩
  · by_cases h1y : y = 1
    · subst h1y
      have HS := hide hS2
      clear hS2 hc2 hl2
      go_wp2
      go_ret
      exact ⟨_, rfl, ⟨_, rfl, by simp [ByteArray.size_extract]; omega⟩, (unhide HS).cur, (unhide HS).gr⟩
    · have HS := hide hS2
      clear hS2 hc2 hl2
      go_wp2
      go_ret
      exact ⟨_, rfl, ⟨_, rfl, by omega⟩, (unhide HS).cur, (unhide HS).gr⟩

def digits5 : List ByteArray := [⟨#[49]⟩, ⟨#[50]⟩, ⟨#[45]⟩, ⟨#[57]⟩, ⟨#[48]⟩]
theorem digits5_short : ∀ t ∈ digits5, t.size ≤ 100 := by
  intro t ht
  simp only [digits5, List.mem_cons, List.not_mem_nil, or_false] at ht
  rcases ht with rfl | rfl | rfl | rfl | rfl <;> decide
end Go.Proofs.YtabfjmabiapgoaaDoor


/-
  THE DRAWS OF CHAPTER 8: spec.l8Draw, spec.DrawCountNear, spec.DrawParseNear, spec.DrawConsecutiveOf, by their contracts.
-/

namespace Go.Proofs.YtabfjmabiapgoaaDoor
set_option maxRecDepth 100000
open Go.RowKit

/-- A drawn struct of two short rows. -/
def DrawnN (B cb : Nat) (w : World) (e : Ending) (w' : World) : Prop :=
  ∃ A c P d q J, e = .returned (.agg #[.slice A q.length c, .slice P J.length d]) ∧ Lite 9 q ∧ Lite 9 J ∧ NearAt w' w.heap.size (.slice A q.length c) (.slice P J.length d) q J ∧ Cur w' B cb ∧ w.grownBy w' (some cb)
/-- What stands while it is drawn. -/
structure At8 (w : World) (B cb g : Nat) (A : Option Addr) (c : Nat) (q : List Int) (P : Option Addr) (d : Nat) (J : List Int) (wr : World) : Prop where
  x : Whole wr g 26 #[.slice A q.length c, .slice P J.length d]
  o : wr.ownsRow (g + 1) 3 1 (.slice P J.length d) J.length (i64s J)
  r : Whole wr w.heap.size 26 #[.slice none 0 0, .slice none 0 0]
  p : Ints wr (w.heap.size + 1) (.slice A q.length c) q
  u : Until g (.slice A q.length c)
  s : Side B cb w wr
  g : w.heap.size < g
section
variable {w wr w' : World} {B cb g c d : Nat} {A P : Option Addr} {q J : List Int}
theorem At8.drawn (h : At8 w B cb g A c q P d J wr) (hc : Cur w' B cb) (hg : wr.grownBy w' (some cb)) : At8 w B cb g A c q P d J w' := by
  have h1 := h.s.lt
  have h2 := h.g
  exact ⟨h.x.grown hg (fun e => by injection e with e; omega), own_drawn h.o hg (by omega), h.r.grown hg (fun e => by injection e with e; omega), h.p.drawn hg (by omega), h.u, h.s.drawn hc hg, h.g⟩
theorem At8.push {P' : Option Addr} {d' : Nat} {z : Int} (h : At8 w B cb g A c q P d J wr) (hb : Below (g + 1) wr w') (ho : w'.ownsRow (g + 1) 3 1 (.slice P' (J.length + 1) d') (J.length + 1) (i64s (J ++ [z]))) :
    At8 w B cb g A c q P' d' (J ++ [z]) (w'.setCell ⟨g, 1, none⟩ (.slice P' (J.length + 1) d')) := by
  have h2 := h.g
  have hl : (J ++ [z]).length = J.length + 1 := by simp
  refine ⟨?_, ?_, ?_, ?_, h.u, ?_, h.g⟩
  · rw [hl]; exact (h.x.below hb (Nat.lt_succ_self g)).put 1 (.slice P' (J.length + 1) d')
  · rw [hl]; exact own_past ho (p := ⟨g, 1, none⟩) (Nat.lt_succ_self g) _
  · exact (h.r.below hb (by omega)).far (p := ⟨g, 1, none⟩) (by simp; omega) _
  · exact (ints_under h.p h.u hb).kept (grownBy_setCellA w' ⟨g, 1, none⟩ (.slice P' (J.length + 1) d')) (away_block h.u)
  · exact h.s.low ((hb.mono (by omega)).setCell (p := ⟨g, 1, none⟩) (by show w.heap.size ≤ g; omega) _)
theorem At8.done (h : At8 w B cb g A c q P d J wr) (hq : Lite 9 q) (hJ : Lite 9 J) : DrawnN B cb w (.returned (.agg #[.slice A q.length c, .slice P J.length d])) ((wr.setCell ⟨w.heap.size, 0, none⟩ (.slice A q.length c)).setCell ⟨w.heap.size, 1, none⟩ (.slice P J.length d)) := by
  have h2 := h.g
  have hI : Ints wr (g + 1) (.slice P J.length d) J := Ints.of_own h.o
  have hS := h.s.low (((Below.refl w.heap.size wr).setCell (p := ⟨w.heap.size, 0, none⟩) (Nat.le_refl _) (.slice A q.length c)).setCell (p := ⟨w.heap.size, 1, none⟩) (Nat.le_refl _) (.slice P J.length d))
  refine ⟨A, c, P, d, q, J, rfl, hq, hJ, ⟨?_, ?_, apart h.u hI.since (by omega)⟩, hS.cur, hS.gr⟩
  · exact ((h.p.past (by show w.heap.size < _; omega) _).past (by show w.heap.size < _; omega) _).low (by omega)
  · exact ((hI.past (by show w.heap.size < _; omega) _).past (by show w.heap.size < _; omega) _).low (by omega)
end
/-- 'append(s, z)' at a step of a region that has drawn its order ahead of the new block. -/
theorem step_append_one0 {ops : Array Oper} {o : Oper} {a : Act} {W : World} {K : Act → World → Prop} {Q : Exit → Act → World → Prop} {E : Prop} (hgd : o.guard = none) (s x : Operand)
    (ho : o.op = .call { callee := .builtin .append, args := #[s, x], argTypes := #[24, 24] })
    (base m : Nat) (w0 wr : World) (v : Value) (xs : List Int) (z : Int) (hs : a.eval s = v) (hx : a.eval x = .slice (some ⟨wr.heap.size, 0, none⟩) 1 1) (hW : W = wr.alloc (.cells #[.int .i64 z] 3)) (hown : wr.ownsRow base 3 1 v m (i64s xs))
    (hz : -9223372036854775808 ≤ z ∧ z ≤ 9223372036854775807) (hm : m ≤ 1099511627776) (hb : Below base w0 wr) (hbase : base ≤ wr.heap.size)
    (hK : ∀ v' w', w'.ownsRow base 3 1 v' (m + 1) (i64s (xs ++ [z])) → Below base w0 w' → K (a.put o.dst v') w') :
    if Region.wanted o (yielded ops a.tmps) = true then Oper.wp Tryd.prog o a W K Q else E := by
  subst hW
  have hal := (Below.refl wr.heap.size wr).alloc (Nat.le_refl _) (.cells #[.int .i64 z] 3)
  refine step_append_arg hgd s x ho base (wr.heap.size + 1) m 1 1 w0 v (some ⟨wr.heap.size, 0, none⟩) xs [z] hs hx (own_below hown hal) ?_ hm (hb.trans (hal.mono hbase)) (Nat.le_trans hbase hal.size) fun v' w' h1 h2 _ => hK v' w' h1 h2
  refine ⟨reads_new wr (.int .i64 z) 3, by simp, by omega, Nat.le_refl _, fun y hy => ?_, fun e => by cases e⟩
  rw [List.mem_singleton] at hy
  subst hy
  exact hz
theorem lite9 {zs : List Int} (hl : zs.length ≤ 9) (h : ∀ z ∈ zs, 0 ≤ z ∧ z ≤ 8) : Lite 9 zs := ⟨hl, fun z hz => by have := h z hz; omega⟩
set_option maxHeartbeats 800000 in
theorem l8draw_any (B cb : Nat) (w : World) (hc : Cur w B cb) : Calls Tryd.prog 30 #[.pointer (some ⟨cb, 0, none⟩)] w (DrawnN B cb w) := by
  obtain ⟨i0, hi, hz0, hz1, hz2⟩ := info_parts intInfo
  obtain ⟨w0, hw0⟩ : ∃ w0, w0 = w.alloc (.cells #[.slice none 0 0, .slice none 0 0] 26) := ⟨_, rfl⟩
  have hR0 : Whole w0 w.heap.size 26 #[.slice none 0 0, .slice none 0 0] := by rw [hw0]; exact Whole.new _ _ _
  have hs0 : w0.heap.size = w.heap.size + 1 := by rw [hw0]; simp
  have b0 : Below w.heap.size w w0 := by rw [hw0]; exact (Below.refl _ w).alloc (Nat.le_refl _) _
  have hal := (Below.refl w0.heap.size w0).alloc (Nat.le_refl _) (.cells ([0, 1, 2, 3, 3, 4].map (Value.int .i64)).toArray 3)
  have hS := ((Side.start hc).below b0).below hal
  have hcl := hc.lt
  have hne : w.heap.size + 1 ≠ cb := by omega
  have hblk : Blk (w0.alloc (.cells ([0, 1, 2, 3, 3, 4].map (Value.int .i64)).toArray 3)) (w.heap.size + 1) 3 ([0, 1, 2, 3, 3, 4].map (Value.int .i64)).toArray := by
    have := Blk.new w0 3 ([0, 1, 2, 3, 3, 4].map (Value.int .i64)).toArray
    rwa [hs0] at this
  have H1 := hide (pickInt_any B cb (w.heap.size + 1) 6 6 [0, 1, 2, 3, 3, 4] _ hS.cur hblk hne rfl (by omega) (by omega))
  have hR1 := hR0.below hal (by omega)
  simp only [List.map_cons, List.map_nil] at hS H1 hR1
  have HI0 := hide (⟨hi, hz0, hz1, hz2⟩ : Tryd.prog.info? 3 = some i0 ∧ i0.zero = some (.int .i64 0) ∧ i0.size = 1 ∧ i0.bytes = 8)
  rw [hw0] at H1
  have hs1 : w.heap.size + 1 ≤ w0.heap.size := by omega
  have HW0 := hide hw0
  clear hal hc hR0 b0 hs0 hw0 hi hz0 hz1 hz2 hblk
  go_enter Tryd.func30, Tryd.ntmps30
  go_wp2_with fail
  refine (unhide H1).mono ?_
  rintro e w1 ⟨v, rfl, ⟨x, hx, rfl⟩, hc1, hg1⟩
  rw [← unhide HW0] at hg1
  have hx4 : 0 ≤ x ∧ x ≤ 4 := by
    simp only [List.mem_cons, List.not_mem_nil, or_false] at hx
    omega
  obtain ⟨m, rfl⟩ : ∃ m : Nat, x = m := ⟨x.toNat, by omega⟩
  have hm : m ≤ 4 := by omega
  have hS1 := hS.drawn hc1 hg1
  have hR1' := hR1.grown hg1 (fun e => by injection e with e; omega)
  have H2 := hide (l2draw_any B cb m (by omega) w1 hc1)
  have hs2 := hg1.size
  clear H1 hx hx4 hS hc1 hg1 hR1
  go_wp2_with fail
  refine (unhide H2).mono ?_
  rintro e w2 ⟨A2, c2, q, rfl, hl, hown, hc2, hg2⟩
  have hS2 := hS1.drawn hc2 hg2
  have hR2 := hR1'.grown hg2 (fun e => by injection e with e; omega)
  have hI2 : Ints w2 w1.heap.size (.slice A2 q.length c2) q := Ints.of_own hown
  have hs3 := hg2.size
  have hw1s : w.heap.size + 1 ≤ w1.heap.size := by simp at hs2; omega
  obtain ⟨g, hg⟩ : ∃ g, g = w2.heap.size := ⟨_, rfl⟩
  obtain ⟨w3, hw3⟩ : ∃ w3, w3 = w2.alloc (.cells #[.slice A2 q.length c2, .slice none 0 0] 26) := ⟨_, rfl⟩
  have b23 : Below w2.heap.size w2 w3 := by rw [hw3]; exact (Below.refl _ w2).alloc (Nat.le_refl _) _
  have hAt : At8 w B cb g A2 c2 q none 0 [] w3 := by
    have hxw : Whole w3 w2.heap.size 26 #[.slice A2 q.length c2, .slice none 0 0] := by rw [hw3]; exact Whole.new _ _ _
    exact ⟨by rw [hg]; exact hxw, World.ownsRow_nil _ _ _ _, hR2.below b23 hR2.lt, (hI2.below b23).low hw1s, by rw [hg]; exact hI2.until_, hS2.below b23, by omega⟩
  have hql : q.length ≤ 4 := by have := hl.1; omega
  have HQ := hide hl.2
  have HW3 := hide hw3
  have HG := hide hg
  clear H2 hl hc2 hg2 hS1 hS2 hR1' hR2 hI2 hown b23 hw3 hg HW0
  go_wp2
  rw [← unhide HW3, ← unhide HG]
  clear HW3 HG
  go_loopw [4] (fun i wr => ∃ (k : Nat) (P : Option Addr) (d : Nat) (J : List Int), 1 ≤ k ∧ k ≤ 5 ∧ i = .int .i64 k ∧ J.length + 1 ≤ k ∧ Hid (∀ z ∈ J, 0 ≤ z ∧ z ≤ 8) ∧ At8 w B cb g A2 c2 q P d J wr) (fun i _ => 5 - (intOf i).toNat)
  case atStart => exact ⟨1, none, 0, [], Nat.le_refl _, by omega, rfl, Nat.le_refl _, hide (fun z hz => by simp at hz), hAt⟩
  case round =>
    obtain ⟨k, P, d, J, hk1, hk5, rfl, hJk, hJ, hA⟩ := hrel
    clear hAt
    have x0 := hA.x.cell 0
    have x1 := hA.x.cell 1
    have xl := hA.x.lt
    simp only [List.getElem?_toArray, List.getElem?_cons_zero, List.getElem?_cons_succ] at x0 x1
    by_cases hlt : k < q.length
    · have H3 := hide (once_any B cb 2 (by omega) wr hA.s.cur)
      have HA := hide hA
      clear hA
      go_wp2_with fail
      refine (unhide H3).mono ?_
      rintro e w4 ⟨v, rfl, ⟨b, rfl⟩, hc4, hg4⟩
      have hA4 := (unhide HA).drawn hc4 hg4
      clear H3 hc4 hg4 x0 x1 xl HA
      cases b with
      | false =>
        go_wp2
        go_roundw
        case rel => exact ⟨k + 1, P, d, J, by omega, by omega, by go_num, by omega, hJ, hA4⟩
        case measure => simp [intOf]; omega
      | true =>
        have x1 := hA4.x.cell 1
        have f1 := hA4.x.frozen 1
        have xl := hA4.x.lt
        have hO := hA4.o
        simp only [List.getElem?_toArray, List.getElem?_cons_zero, List.getElem?_cons_succ] at x1
        have HA := hide hA4
        obtain ⟨hi, hz0, hz1, hz2⟩ := unhide HI0
        obtain ⟨jl, hjl⟩ : ∃ j, j = J.length := ⟨_, rfl⟩
        rw [← hjl] at x1 hO hJk
        have HJL := hide hjl
        clear hA4 hjl
        go_wp2_with (at_builtin; refine wpList_append_one rfl (.tmp 21) (.tmp 23) 24 rfl (g + 1) 3 i0 (.int .i64 0) 8 Tryd.underlying24 hi hz0 hz1 hz2 rfl w4 w4 _ jl (i64s J) rfl hO (.int .i64 (k : Int)) rfl rfl rfl (by omega) (by unfold maxLen; omega) (Below.refl _ _) xl ?_)
        intro v' w' hO' hb' hg'
        obtain ⟨P', d', rfl⟩ : ∃ P' d', v' = .slice P' (jl + 1) d' := by
          obtain ⟨g9, c9, e, _⟩ := own_first hO' (by omega)
          exact ⟨_, _, e⟩
        have hX1 := (unhide HA).x.below hb' (Nat.lt_succ_self g)
        have r1' := hX1.cell 1
        have f1' := hX1.frozen 1
        have l1' := hX1.lt
        simp only [List.getElem?_toArray, List.getElem?_cons_zero, List.getElem?_cons_succ] at r1'
        rw [← unhide HJL] at r1'
        have hA5 : At8 w B cb g A2 c2 q P' d' (J ++ [(k : Int)]) (w'.setCell ⟨g, 1, none⟩ (.slice P' (jl + 1) d')) := by
          rw [unhide HJL] at hO' ⊢
          rw [i64_snoc2] at hO'
          exact (unhide HA).push hb' hO'
        have hJ2 := hide (show ∀ z ∈ J ++ [(k : Int)], 0 ≤ z ∧ z ≤ 8 from fun z hz => by
          rcases List.mem_append.1 hz with hz | hz
          · exact unhide hJ z hz
          · rw [List.mem_singleton] at hz; subst hz; omega)
        have hJl2 := hide (show (J ++ [(k : Int)]).length + 1 ≤ k + 1 from by rw [List.length_append, List.length_singleton, ← unhide HJL]; omega)
        clear x1 f1 xl hO hO' hb' hg' hX1 HA hi hz0 hz1 hz2 hJ
        go_wp2
        go_roundw
        case rel => exact ⟨k + 1, P', d', J ++ [(k : Int)], by omega, by omega, by go_num, unhide hJl2, hJ2, hA5⟩
        case measure => simp [intOf]; omega
    · have H3 := hide (once_any B cb 14 (by omega) wr hA.s.cur)
      have HA := hide hA
      clear hA
      go_wp2_with fail
      refine (unhide H3).mono ?_
      rintro e w4 ⟨v, rfl, ⟨b, rfl⟩, hc4, hg4⟩
      have hA4 := (unhide HA).drawn hc4 hg4
      have hLq : Lite 9 q := ⟨by omega, unhide HQ⟩
      clear H3 hc4 hg4 x0 x1 xl HA
      have x0 := hA4.x.cell 0
      have x1 := hA4.x.cell 1
      simp only [List.getElem?_toArray, List.getElem?_cons_zero, List.getElem?_cons_succ] at x0 x1
      cases b with
      | false =>
        have hLJ : Lite 9 J := lite9 (by omega) (unhide hJ)
        have q0 := hA4.r.cell 0
        have q1 := hA4.r.cell 1
        have e0 := hA4.r.frozen 0
        have e1 := hA4.r.frozen 1
        have hltr := hA4.r.lt
        simp only [List.getElem?_toArray, List.getElem?_cons_zero, List.getElem?_cons_succ] at q0 q1
        have HE := hide (hA4.done hLq hLJ)
        have hWe := (hA4.r.put 0 (.slice A2 q.length c2)).put 1 (.slice P J.length d)
        have HWE := hide hWe
        clear hA4 hLq hLJ hWe hJ
        go_wp2_with fail
        have hWe := unhide HWE
        refine bodyPost_ret (v := .agg #[.slice A2 q.length c2, .slice P J.length d]) (results_cell_row Tryd.results30 _ _ w.heap.size 26 _ (0, 0) _ rfl hWe Tryd.underlying26 rfl nearInfo) rfl ?_
        exact unhide HE
      | true =>
        have f1 := hA4.x.frozen 1
        have xl := hA4.x.lt
        have bd : Below w4.heap.size w4 w4.drew := (Below.refl _ w4).drew
        have hcd : Cur w4.drew B cb := hA4.s.cur.below bd
        have hAd : At8 w B cb g A2 c2 q P d J w4.drew := hA4.drawn hcd ⟨rfl, rfl, rfl, Nat.le_refl _, fun _ _ _ => rfl⟩
        have x1d : w4.drew.cell? ⟨g, 1, none⟩ = some (.slice P J.length d) := x1
        have H4 := hide (below_any B cb 5 (by omega) w4.drew hcd)
        have HAd := hide hAd
        have hJ4 : J.length ≤ 8 := by omega
        have HJ := hJ
        clear hA4 bd hcd hAd hJ
        go_wp2_with fail
        go_region_law
          (first
            | (go_simp; go_at_call 46; refine (unhide H4).mono ?_; rintro e w5 ⟨v, rfl, ⟨y, rfl, hy0, hy1⟩, hc5, hg5⟩; rw [if_pos (by omega)] at hy1; have hA5 := hide ((unhide HAd).drawn hc5 hg5); have x5 := (unhide hA5).x.cell 1; simp only [List.getElem?_toArray, List.getElem?_cons_zero, List.getElem?_cons_succ] at x5; have l5 := (unhide hA5).x.lt; have x5a := fun o => (((Below.refl w5.heap.size w5).alloc (Nat.le_refl _) o).cell (p := ⟨g, 1, none⟩) l5).trans x5; have o5 := (unhide hA5).o; clear hc5 hg5)
            | (refine step_append_one0 (by rfl) (.tmp 29) (.tmp 32) (by rfl) (g + 1) J.length w5 w5 _ J y (by rfl) (by rfl) (by rfl) o5 (by omega) (by omega) (Below.refl _ _) l5 ?_; intro v' w' hO' hb'; obtain ⟨g9, c9, rfl, _⟩ := own_first hO' (Nat.succ_pos _); have hX1 := (unhide hA5).x.below hb' (Nat.lt_succ_self g); have r1' := hX1.cell 1; have f1' := hX1.frozen 1; have l1' := hX1.lt; simp only [List.getElem?_toArray, List.getElem?_cons_zero, List.getElem?_cons_succ] at r1'; have hA6 := hide ((unhide hA5).push hb' hO'); clear hX1 hO' hb'))
        all_goals
          have hA7 := unhide hA6
          have hJ2 : ∀ z ∈ J ++ [y], 0 ≤ z ∧ z ≤ 8 := fun z hz => by
            rcases List.mem_append.1 hz with hz | hz
            · exact unhide HJ z hz
            · rw [List.mem_singleton] at hz; subst hz; omega
          have hjl : (J ++ [y]).length = J.length + 1 := by simp
          have hLJ : Lite 9 (J ++ [y]) := lite9 (by rw [hjl]; omega) hJ2
          have q0 := hA7.r.cell 0
          have q1 := hA7.r.cell 1
          have e0 := hA7.r.frozen 0
          have e1 := hA7.r.frozen 1
          have hltr := hA7.r.lt
          have p0 := hA7.x.cell 0
          have p1 := hA7.x.cell 1
          simp only [List.getElem?_toArray, List.getElem?_cons_zero, List.getElem?_cons_succ] at q0 q1 p0 p1
          have HE := hA7.done hLq hLJ
          have hWe := (hA7.r.put 0 (.slice A2 q.length c2)).put 1 (.slice (some ⟨g9, 0, none⟩) (J ++ [y]).length c9)
          rw [hjl] at p1 HE hWe
          have HEE := hide HE
          have HWE := hide hWe
          clear hA7 hJ2 hjl hLJ HE hWe hA5 hA6 o5 x5 x5a l5 HAd H4 r1' f1' l1' x1d x0 x1 f1 xl
          go_wp2_with fail
          have hWe := unhide HWE
          refine bodyPost_ret (v := .agg #[.slice A2 q.length c2, .slice (some ⟨g9, 0, none⟩) (J.length + 1) c9]) (results_cell_row Tryd.results30 _ _ w.heap.size 26 _ (0, 0) _ rfl hWe Tryd.underlying26 rfl nearInfo) rfl ?_
          exact unhide HEE
theorem results_tmp_cell {P : Program} {fn : Func} {p u : Tmp} {ty : TypeId} (h : fn.results = #[.tmp u, .cell p ty]) (tmps : Array Value) (w : World) (g : Nat) (t : TypeId) (cs : Array Value) (fr : Nat × Nat) (d : TypeDesc)
    (hp : tmps.getD p undef = .pointer (some ⟨g, 0, none⟩)) (hg : w.heap[g]? = some (.cells cs t fr))
    (hu : P.underlying ty = some d) (hd : (match d with | .struct _ | .array _ _ => true | _ => false) = true) (hi : (P.info? ty).map (·.size) = some cs.size) :
    (results fn tmps).run P w = .ok (.tuple #[tmps.getD u undef, .agg cs]) w := by
  have e : (results fn tmps).run P w = ((asAddr (tmps.getD p undef)).run P w).andThen fun a w₁ => ((loadVar ty a).run P w₁).andThen fun v w₂ => .ok (.tuple #[tmps.getD u undef, v]) w₂ := by
    simp only [results, h]
    simp [Sem.run_bind, Result.andThen]
  rw [e, hp]
  simp [asAddr, Result.andThen, run_loadVar_row w g t ty cs fr d hg hu hd hi]
/-- A row and a struct of two rows, drawn from the bytes. -/
def DrewIN (w : World) (e : Ending) (w' : World) : Prop :=
  ∃ A0 c0 p A c P d q J, e = .returned (.tuple #[.slice A0 p.length c0, .agg #[.slice A q.length c, .slice P J.length d]]) ∧ Lite 9 p ∧ Lite 9 q ∧ Lite 9 J ∧ Ints w' w.heap.size (.slice A0 p.length c0) p ∧ NearAt w' w.heap.size (.slice A q.length c) (.slice P J.length d) q J ∧ Below w.heap.size w w'
set_option maxHeartbeats 800000 in
theorem dcntn_any (A : Option Addr) (n c B : Nat) (bs : List UInt8) (w : World) (hr : Reads w B A n (u8s bs)) (hn : n ≤ 1048576) (hB : B ≤ w.heap.size) :
    Calls Tryd.prog 6 #[.slice A n c] w (DrewIN w) := by
  obtain ⟨w0, hw0⟩ : ∃ w0, w0 = w.alloc (.cells #[.slice none 0 0, .slice none 0 0] 26) := ⟨_, rfl⟩
  have hR0 : Whole w0 w.heap.size 26 #[.slice none 0 0, .slice none 0 0] := by rw [hw0]; exact Whole.new _ _ _
  have hs0 : w0.heap.size = w.heap.size + 1 := by rw [hw0]; simp
  have b0 : Below w.heap.size w w0 := by rw [hw0]; exact (Below.refl _ w).alloc (Nat.le_refl _) _
  have H1 := hide (new_any A n c B bs w0 (hr.below (b0.mono hB)) hn (by omega))
  have HW0 := hide hw0
  clear hr hw0
  go_enter Tryd.func6, Tryd.ntmps6
  go_wp2_with fail
  rw [← unhide HW0]
  refine (unhide H1).mono ?_
  rintro e w1 ⟨cb, rfl, hcb, hc1, hb1⟩
  have hB1 := below_after b0 hb1
  have hR1 := hR0.below hb1 hR0.lt
  have hS1 := Side.start hc1
  have H2 := hide (l2bent_any B cb w1 hc1)
  have hs1 := hb1.size
  clear H1 HW0 hb1 hc1 b0 hR0
  go_wp2_with fail
  refine (unhide H2).mono ?_
  rintro e w2 ⟨A2, c2, p, rfl, hlp, o2, hc2, hg2⟩
  have hS2 := hS1.drawn hc2 hg2
  have hR2 := hR1.grown hg2 (fun e => by injection e with e; omega)
  have hs2 := hg2.size
  have hlt1 := hS1.lt
  have H3 := hide (l8draw_any B cb w2 hc2)
  have HLP := hide hlp
  clear H2 hS1 hR1 hc2 hg2 hlp
  go_wp2_with fail
  refine (unhide H3).mono ?_
  rintro e w3 ⟨A3, c3, P3, d3, q, J, rfl, hlq, hlJ, hN, hc3, hg3⟩
  have hS3 := hS2.drawn hc3 hg3
  have hR3 := hR2.grown hg3 (fun e => by injection e with e; omega)
  have o3 := o2.drawn hg3 hlt1
  have hB3 := hS3.under hB1 (by omega)
  have q0 := hR3.cell 0
  have q1 := hR3.cell 1
  have e0 := hR3.frozen 0
  have e1 := hR3.frozen 1
  have hltr := hR3.lt
  simp only [List.getElem?_toArray, List.getElem?_cons_zero, List.getElem?_cons_succ] at q0 q1
  have hWe := (hR3.put 0 (.slice A3 q.length c3)).put 1 (.slice P3 J.length d3)
  have hP : ∀ v : Value, ∀ B9 zs, w.heap.size < B9 → Ints w3 B9 v zs → Ints ((w3.setCell ⟨w.heap.size, 0, none⟩ (.slice A3 q.length c3)).setCell ⟨w.heap.size, 1, none⟩ (.slice P3 J.length d3)) w.heap.size v zs := fun v B9 zs h9 h => ((h.past (by show w.heap.size < _; omega) _).past (by show w.heap.size < _; omega) _).low (by omega)
  have HF := hide (⟨hlq, hlJ, hP _ _ _ (by omega) o3, ⟨hP _ _ _ (by omega) hN.p, hP _ _ _ (by omega) hN.j, hN.away⟩, (hB3.setCell (p := ⟨w.heap.size, 0, none⟩) (Nat.le_refl _) (.slice A3 q.length c3)).setCell (p := ⟨w.heap.size, 1, none⟩) (Nat.le_refl _) (.slice P3 J.length d3)⟩ : Lite 9 q ∧ Lite 9 J ∧ _ ∧ NearAt _ _ _ _ _ _ ∧ Below _ _ _)
  have HWE := hide hWe
  clear hP hWe hB3 o3 hR3 hS3 hg3 hc3 hN hlq hlJ hR2 hS2 o2 hB1 H3
  go_wp2_with fail
  have hWe := unhide HWE
  obtain ⟨h1, h2, h3, h4, h5⟩ := unhide HF
  exact bodyPost_ret (v := .tuple #[.slice A2 p.length c2, .agg #[.slice A3 q.length c3, .slice P3 J.length d3]]) (results_tmp_cell Tryd.results6 _ _ w.heap.size 26 _ (0, 0) _ rfl hWe Tryd.underlying26 rfl nearInfo) rfl ⟨A2, c2, p, A3, c3, P3, d3, q, J, rfl, unhide HLP, h1, h2, h3, h4, h5⟩
theorem ntext_size (q J : List Int) : (ntext q J).size ≤ 16 := by
  unfold ntext
  cases h : nearOK q J with
  | false => simp
  | true =>
    have h8 := isP_le (nearOK_iff.1 h).1
    have h9 := nearB_len q J q.length
    rw [if_pos rfl]
    split
    · decide
    · show (nearB q J q.length).toArray.size ≤ 16
      rw [List.size_toArray]; omega
def marks5 : List ByteArray := [⟨#[95]⟩, ⟨#[49]⟩, ⟨#[50]⟩, ⟨#[45]⟩, ⟨#[51]⟩]
theorem marks5_short : ∀ t ∈ marks5, t.size ≤ 100 := by
  intro t ht
  simp only [marks5, List.mem_cons, List.not_mem_nil, or_false] at ht
  rcases ht with rfl | rfl | rfl | rfl | rfl <;> decide
set_option maxHeartbeats 800000 in
theorem dparn_any (A : Option Addr) (n c B : Nat) (bs : List UInt8) (w : World) (hr : Reads w B A n (u8s bs)) (hn : n ≤ 1048576) (hB : B ≤ w.heap.size) :
    Calls Tryd.prog 8 #[.slice A n c] w fun e w' => ∃ r : ByteArray, e = .returned (.string r) ∧ r.size ≤ 300 ∧ Below w.heap.size w w' := by
  have H1 := hide (new_any A n c B bs w hr hn hB)
  clear hr
  go_enter Tryd.func8, Tryd.ntmps8
  go_wp2_with fail
  refine (unhide H1).mono ?_
  rintro e w1 ⟨cb, rfl, hcb, hc1, hb1⟩
  have hS0 := Side.start hc1
  have H2 := hide (l8draw_any B cb w1 hc1)
  clear H1 hc1
  go_wp2_with fail
  refine (unhide H2).mono ?_
  rintro e w2 ⟨A2, c2, P2, d2, q, J, rfl, hlq, hlJ, hN, hc2, hg2⟩
  have hS2 := hS0.drawn hc2 hg2
  have H3 := hide (sntxt_any A2 P2 q.length c2 w2.heap.size J.length d2 w2.heap.size q J w2 (hlq.arg hN.p (by omega)) (hlJ.arg hN.j (by omega)))
  clear H2 hS0 hlq hlJ hN hc2 hg2
  go_wp2_with fail
  refine (unhide H3).mono ?_
  rintro e w3 ⟨rfl, hb3⟩
  have hS3 := hS2.below hb3
  have hps := ntext_size q J
  obtain ⟨s, hs⟩ : ∃ s, s = ntext q J := ⟨_, rfl⟩
  rw [← hs] at hps ⊢
  have hal := (Below.refl w3.heap.size w3).alloc (Nat.le_refl _) (.cells (marks5.map Value.string).toArray 9)
  have hS4 := hS3.below hal
  have hlt := hS3.cur.lt
  have H4 := hide (turned_any B cb w3.heap.size 5 5 marks5 s _ hS4.cur (Blk.new w3 _ _) (by omega) rfl (by omega) (by omega) (by omega) marks5_short)
  clear H3 hs hb3 hal hS3 hS2
  simp only [marks5, List.map_cons, List.map_nil] at hS4 H4
  go_wp2_with fail
  refine (unhide H4).mono ?_
  rintro e w5 ⟨v, rfl, ⟨r, rfl, hz⟩, hc5, hg5⟩
  have hb5 := (hS4.drawn hc5 hg5).under hb1 hcb
  clear H4 hS4 hc5 hg5
  go_wp2
  go_ret
  exact ⟨r, rfl, hz, hb5⟩
set_option maxHeartbeats 800000 in
theorem dcon_any (A : Option Addr) (n c B : Nat) (bs : List UInt8) (w : World) (hr : Reads w B A n (u8s bs)) (hn : n ≤ 1048576) (hB : B ≤ w.heap.size) :
    Calls Tryd.prog 13 #[.slice A n c] w (DrewI w 9) := by
  have H1 := hide (new_any A n c B bs w hr hn hB)
  clear hr
  go_enter Tryd.func13, Tryd.ntmps13
  go_wp2_with fail
  refine (unhide H1).mono ?_
  rintro e w1 ⟨cb, rfl, hcb, hc1, hb1⟩
  have hS0 := Side.start hc1
  have H2 := hide (once_any B cb 4 (by omega) w1 hc1)
  have hsz := hb1.size
  clear H1 hc1
  go_wp2_with fail
  refine (unhide H2).mono ?_
  rintro e w2 ⟨v, rfl, ⟨b, rfl⟩, hc2, hg2⟩
  have hS2 := hS0.drawn hc2 hg2
  have hs2 := hg2.size
  clear H2 hg2
  cases b with
  | true =>
    have H3 := hide (l2bent_any B cb w2 hc2)
    clear hc2
    go_wp2_with fail
    refine (unhide H3).mono ?_
    rintro e w3 ⟨A3, c3, q, rfl, hl, o3, hc3, hg3⟩
    have hb5 := (hS2.drawn hc3 hg3).under hb1 hcb
    have o4 := o3.low (show w.heap.size ≤ w2.heap.size by omega)
    have HL := hide hl
    clear H3 hS2 hS0 hc3 hg3 o3 hl
    go_wp2
    go_ret
    exact DrewI.mk o4 (unhide HL) hb5
  | false =>
    have H3 := hide (below_any B cb 5 (by omega) w2 hc2)
    clear hc2
    go_wp2_with fail
    refine (unhide H3).mono ?_
    rintro e w3 ⟨v, rfl, ⟨x, rfl, hx0, hx1⟩, hc3, hg3⟩
    rw [if_pos (by omega)] at hx1
    have hS3 := hS2.drawn hc3 hg3
    have hs3 := hg3.size
    obtain ⟨m, rfl⟩ : ∃ m : Nat, x = m := ⟨x.toNat, by omega⟩
    have hm : m ≤ 4 := by omega
    have H4 := hide (l2draw_any B cb m (by omega) w3 hc3)
    clear H3 hS2 hS0 hg3 hx0 hx1 hc3
    go_wp2_with fail
    refine (unhide H4).mono ?_
    rintro e w4 ⟨A4, c4, q, rfl, hl, hown, hc4, hg4⟩
    have hb5 := (hS3.drawn hc4 hg4).under hb1 hcb
    have o4 : Ints w4 w.heap.size (.slice A4 q.length c4) q := (Ints.of_own hown).low (by omega)
    have HL := hide (hl.more (show m ≤ 9 by omega))
    clear H4 hS3 hc4 hg4 hown hl
    go_wp2
    go_ret
    exact DrewI.mk o4 (unhide HL) hb5
end Go.Proofs.YtabfjmabiapgoaaDoor


/-
  spec.CountRuns, by its contract.
-/

namespace Go.Proofs.YtabfjmabiapgoaaDoor
set_option maxRecDepth 100000
open Go.RowKit

def numRun (p q : List Int) : Int := if isP p && isP q && decide (q.length ≠ 0) then (runN p q : Int) else -1
theorem runK_step (p q : List Int) (k : Nat) : (runK p q (k + 1)).length = (runK p q k).length + (if patL ((p.drop k).take q.length) = q then 1 else 0) := by
  unfold runK
  rw [List.range_succ, List.filter_append, List.length_append]
  congr 1
  by_cases h : patL ((p.drop k).take q.length) = q
  · rw [if_pos h, List.filter_cons_of_pos (by simp [h])]; rfl
  · rw [if_neg h, List.filter_cons_of_neg (by simp [h])]; rfl
theorem runK_le (p q : List Int) (k : Nat) : (runK p q k).length ≤ k := by
  unfold runK
  have := List.length_filter_le (fun i => decide (patL ((p.drop i).take q.length) = q)) (List.range k)
  rwa [List.length_range] at this
theorem patL_small8 {l : List Int} (h : l.length ≤ 1048576) : Small (patL l) := fun z hz => by have := patL_range z hz; omega
set_option maxHeartbeats 800000 in
theorem srun_any (A A' : Option Addr) (n c B n' c' B' : Nat) (p q : List Int) (w : World) (h : Arg w B A n c p) (h' : Arg w B' A' n' c' q) :
    Calls Tryd.prog 22 #[.slice A n c, .slice A' n' c'] w (GivesN w (numRun p q)) := by
  have hl := h.len
  have hl' := h'.len
  obtain ⟨bp, hp⟩ : ∃ b, isP p = b := ⟨_, rfl⟩
  obtain ⟨bq, hq⟩ : ∃ b, isP q = b := ⟨_, rfl⟩
  have H1 := hide (sisperm_any A n c B p bp hp w h.reads h.le h.cap)
  cases bp with
  | false =>
    rw [show numRun p q = -1 by unfold numRun; rw [hp]; rfl]
    clear h h' hp hq hl hl'
    go_enter Tryd.func22, Tryd.ntmps22
    go_wp2_with fail
    refine (unhide H1).mono ?_
    rintro e w1 ⟨rfl, d1⟩
    have hb := d1.below w.heap.size
    clear H1 d1
    go_wp2
    go_ret
    exact ⟨rfl, hb⟩
  | true =>
    have H2 := hide (show ∀ w1, Drew w w1 → _ from fun w1 d1 => sisperm_any A' n' c' B' q bq hq w1 (h'.reads.ofDrew d1) h'.le h'.cap)
    cases bq with
    | false =>
      rw [show numRun p q = -1 by unfold numRun; rw [hp, hq]; rfl]
      clear h h' hp hq hl hl'
      go_enter Tryd.func22, Tryd.ntmps22
      go_wp2_with fail
      refine (unhide H1).mono ?_
      rintro e w1 ⟨rfl, d1⟩
      have H3 := hide (unhide H2 w1 d1)
      clear H1 H2
      go_wp2_with fail
      refine (unhide H3).mono ?_
      rintro e w2 ⟨rfl, d2⟩
      have hb := (d1.trans d2).below w.heap.size
      clear H3 d1 d2
      go_wp2
      go_ret
      exact ⟨rfl, hb⟩
    | true =>
      by_cases h0 : n' = 0
      · subst h0
        rw [show numRun p q = -1 by unfold numRun; rw [hp, hq, hl']; rfl]
        clear h h' hp hq hl hl'
        go_enter Tryd.func22, Tryd.ntmps22
        go_wp2_with fail
        refine (unhide H1).mono ?_
        rintro e w1 ⟨rfl, d1⟩
        have H3 := hide (unhide H2 w1 d1)
        clear H1 H2
        go_wp2_with fail
        refine (unhide H3).mono ?_
        rintro e w2 ⟨rfl, d2⟩
        have hb := (d1.trans d2).below w.heap.size
        clear H3 d1 d2
        go_wp2
        go_ret
        exact ⟨rfl, hb⟩
      · rw [show numRun p q = ((runK p q (n + 1 - n')).length : Nat) by unfold numRun runN; rw [hp, hq, hl', hl, decide_eq_true h0]; rfl]
        have hn8 : n ≤ 8 := by have := isP_le hp; omega
        have hn8' : n' ≤ 8 := by have := isP_le hq; omega
        have h0' : ((n' : Int) == 0) = false := by simp; omega
        have HA := hide (⟨h, h'⟩ : Arg w B A n c p ∧ Arg w B' A' n' c' q)
        have HL := hide (⟨hl, hl'⟩ : p.length = n ∧ q.length = n')
        have hcap := h.cap
        clear h h' hp hq hl hl'
        go_enter Tryd.func22, Tryd.ntmps22
        go_wp2_with fail
        refine (unhide H1).mono ?_
        rintro e w1 ⟨rfl, d1⟩
        have H3 := hide (unhide H2 w1 d1)
        clear H1 H2
        go_wp2_with fail
        refine (unhide H3).mono ?_
        rintro e w2 ⟨rfl, d2⟩
        have hb2 := (d1.trans d2).below w.heap.size
        clear H3 d1 d2
        go_wp2
        go_loopw [5, 6] (fun s i wr => ∃ k : Nat, (k ≤ n + 1 - n' ∨ k = 0) ∧ i = .int .i64 k ∧ s = .int .i64 ((runK p q k).length : Nat) ∧ Below w.heap.size w wr) (fun _ i _ => n + 1 - n' - (intOf i).toNat)
        case atStart => exact ⟨0, .inr rfl, rfl, rfl, hb2⟩
        case round =>
          obtain ⟨k, hk, rfl, rfl, hb⟩ := hrel
          clear hb2
          have hrk := runK_le p q k
          have hst := runK_step p q k
          by_cases hlt : k + n' ≤ n
          · obtain ⟨hA, hA'⟩ := unhide HA
            have hAr := hA.below hb
            obtain ⟨ad, rfl⟩ : ∃ ad, A = some ad := by
              obtain ⟨ad, u, e, _⟩ := hAr.reads.at_ (show k < n by omega)
              exact ⟨ad, e⟩
            have hcut := hAr.cut (f := k) (m := n') (by omega)
            have H4 := hide (l2pat_any (some (ad.add k)) n' (c - k) B _ wr hcut (by omega))
            have hle1 : ((k : Int) + (n' : Int)) ≤ (n : Int) := by omega
            have hle2 : ((k : Int) + (n' : Int)) ≤ (c : Int) := by omega
            have hle3 : (k : Int) ≤ (k : Int) + (n' : Int) := by omega
            have hne : ¬ c = k := by omega
            have hwk : IntKind.i64.wrap ((k : Int) + (n' : Int)) = (k : Int) + (n' : Int) := by rw [IntKind.wrap_i64]; omega
            obtain ⟨Z, hZ⟩ : ∃ Z, Z = patL ((p.drop k).take n') := ⟨_, rfl⟩
            have hZl : Z.length = n' := by rw [hZ, patL_length, List.length_take, List.length_drop]; have := (unhide HL).1; omega
            have hZs : Small Z := by rw [hZ]; exact patL_small8 (by rw [List.length_take]; omega)
            rw [(unhide HL).2, ← hZ] at hst
            rw [← hZ] at H4
            obtain ⟨bb, hbb⟩ : ∃ b, decide (Z = q) = b := ⟨_, rfl⟩
            have H5 := hide (show ∀ w3 A3 c3, Below wr.heap.size wr w3 → Ints w3 wr.heap.size (.slice A3 Z.length c3) Z → _ from fun w3 A3 c3 d3 o3 => l2same_any A3 A' Z.length c3 _ n' c' B' Z q bb hbb w3 (o3.arg (by omega) o3.cap hZs) ((hA'.below hb).below d3))
            have H6 := hide (fun w4 => bit_any bb w4)
            have hbit : ((runK p q k).length : Int) + bitI bb = ((runK p q (k + 1)).length : Nat) := by
              rw [hst, ← hbb]
              by_cases e : Z = q
              · rw [if_pos e, decide_eq_true e]; simp [bitI]
              · rw [if_neg e, decide_eq_false e]; simp [bitI]
            have hbi : 0 ≤ bitI bb ∧ bitI bb ≤ 1 := by cases bb <;> simp [bitI]
            have HBI := hide hbit
            obtain ⟨bi, hbi2⟩ : ∃ bi, bi = bitI bb := ⟨_, rfl⟩
            rw [← hbi2] at hbi
            rw [← hbi2] at HBI H6
            clear hst hcut hA hA' hAr hZ hbb hbit hbi2 hZs
            go_wp2_with fail
            refine (unhide H4).mono ?_
            rintro e w3 ⟨A3, c3, rfl, o3, d3⟩
            have H7 := hide (unhide H5 w3 A3 c3 d3 o3)
            rw [hZl] at H7
            have hb3 := below_after hb d3
            clear H4 H5 o3 d3 hb
            go_wp2_with fail
            refine (unhide H7).mono ?_
            rintro e w4 ⟨rfl, d4⟩
            have hb4 := hb3.trans (d4.below _)
            have H8 := hide (unhide H6 w4)
            clear H7 H6 d4 hb3
            go_wp2_with fail
            refine (unhide H8).mono ?_
            rintro e w5 ⟨rfl, rfl⟩
            clear H8
            go_wp2
            go_roundw
            case rel => exact ⟨k + 1, .inl (by omega), by go_num, by rw [unhide HBI], hb4⟩
            case measure => simp [intOf]; omega
          · have hk2 : n + 1 - n' = k := by omega
            have hgt : ¬ ((k : Int) + (n' : Int) ≤ (n : Int)) := by omega
            have hwk : IntKind.i64.wrap ((k : Int) + (n' : Int)) = (k : Int) + (n' : Int) := by rw [IntKind.wrap_i64]; omega
            have HK := hide hk2
            clear hst hk2
            go_wp2
            go_ret
            exact ⟨ret_int (by rw [unhide HK]), hb⟩
end Go.Proofs.YtabfjmabiapgoaaDoor


/-
  PLAIN: what the law FnNears says of counts and texts. Nothing here speaks of the program.
-/

namespace Go.Proofs.YtabfjmabiapgoaaDoor
set_option maxRecDepth 100000

theorem ntext_dig {q J : List Int} (h : nearOK q J = true) : digB (ntext q J) = ptext q ∧ parJ (ntext q J) = J := by
  obtain ⟨hq, hJ⟩ := nearOK_iff.1 h
  by_cases h0 : q.length = 0
  · have hJ0 : J = [] := by
      have := plOK_len hJ
      exact List.eq_nil_of_length_eq_zero (by omega)
    subst hJ0
    rw [ntext_nil h h0, ptext_nil hq h0]
    exact ⟨rfl, rfl⟩
  · rw [ntext_yes h h0, ptext_yes hq h0]
    obtain ⟨h1, h2⟩ := scan_back h
    constructor
    · unfold digB
      rw [show (ByteArray.mk (nearB q J q.length).toArray).data.toList = nearB q J q.length by simp, h1]
    · unfold parJ
      rw [show (ByteArray.mk (nearB q J q.length).toArray).data.toList = nearB q J q.length by simp]
      rw [show (ByteArray.mk (nearB q J q.length).toArray).size = (nearB q J q.length).length by show (nearB q J q.length).toArray.size = _; simp]
      exact h2
theorem near_back {q J : List Int} (h : nearOK q J = true) : parOK (ntext q J) = true ∧ parQ (ntext q J) = q ∧ parN (ntext q J) = J := by
  obtain ⟨hq, _⟩ := nearOK_iff.1 h
  obtain ⟨h1, h2⟩ := ntext_dig h
  obtain ⟨h3, h4⟩ := pp_text q
  have hok : parOK (ntext q J) = true := by
    unfold parOK
    rw [h1, h2, h3, hq, h4 hq]
    simp
  refine ⟨hok, ?_, ?_⟩
  · unfold parQ; rw [if_pos hok, h1, h4 hq]
  · unfold parN; rw [if_pos hok, h2]
theorem near_back_no {q J : List Int} (h : nearOK q J = false) : parOK (ntext q J) = false ∧ parQ (ntext q J) = [] ∧ parN (ntext q J) = [] := by
  have hok : parOK (ntext q J) = false := by
    rw [ntext_no h]
    unfold parOK
    have : ppOK (digB ByteArray.empty) = false := ppOK_none (by decide) (by decide)
    rw [this]; rfl
  refine ⟨hok, ?_, ?_⟩
  · unfold parQ; rw [if_neg (by simp [hok])]
  · unfold parN; rw [if_neg (by simp [hok])]
theorem num_revN {p q J : List Int} (hp : isP p = true) (h : nearOK q J = true) : numNear (revR p) (revQ q J) (revJJ q J) = numNear p q J := by
  obtain ⟨hq, hJ⟩ := nearOK_iff.1 h
  have h1 : nearOK q.reverse (plRev (q.length - 1) J) = true := nearOK_iff.2 ⟨isP_rev hq, by rw [List.length_reverse]; exact plRev_ok hJ⟩
  rw [revR_yes hp, show revQ q J = q.reverse by unfold revQ; rw [if_pos h], show revJJ q J = plRev (q.length - 1) J by unfold revJJ; rw [if_pos h], numNear_yes (isP_rev hp) h1, numNear_yes hp h, near_rev hJ]
theorem num_plain {p q : List Int} (hp : isP p = true) (hq : isP q = true) : numNear p q [] = ((occR p q).length : Nat) := by
  rw [numNear_yes hp (nearOK_nil hq), near_plain]
theorem num_occ {p q : List Int} (hp : isP p = true) (hq : isP q = true) : numOcc p q = ((occR p q).length : Nat) := by
  unfold numOcc; rw [hp, hq]; rfl
theorem num_con {p y : List Int} (hp : isP p = true) (hy : isP y = true) (h0 : y.length ≠ 0) : numNear p (conQ y) (conR y) = numRun p y := by
  rw [show conQ y = y by unfold conQ; rw [if_pos hy], show conR y = conJ y.length by unfold conR; rw [if_pos hy], numNear_yes hp (con_near hy), near_runs hp hy (by omega)]
  unfold numRun
  rw [hp, hy, decide_eq_true h0]; rfl
theorem num_le {p q J : List Int} (hp : isP p = true) (h : nearOK q J = true) : numNear p q J ≤ ((occR p q).length : Nat) := by
  rw [numNear_yes hp h]
  exact Int.ofNat_le.2 (near_le p q J)
theorem parQ_le (s : ByteArray) : (parQ s).length ≤ 8 ∧ (parN s).length ≤ 1048576 := by
  unfold parQ parN
  cases h : parOK s with
  | false => simp
  | true =>
    rw [if_pos rfl, if_pos rfl]
    have h8 := ppR_le (digB s)
    refine ⟨h8, ?_⟩
    unfold parOK at h
    rw [Bool.and_eq_true, decide_eq_true_eq] at h
    cases hn : nearOK (ppR (digB s)) (parJ s) with
    | true => have := plOK_len (nearOK_iff.1 hn).2; omega
    | false =>
      have h2 := h.2
      rw [ntext_no hn] at h2
      have h3 := scanJ_len s.data.toList s.size
      have hz : s.size = 0 := by rw [← h2]; rfl
      show (scanJ s.data.toList s.size).length ≤ 1048576
      omega
theorem isP_lite {p : List Int} (h : isP p = true) : Lite 9 p := ⟨by have := isP_le h; omega, fun z hz => by
  obtain ⟨k, hk⟩ := List.getElem?_of_mem hz
  have := isP_range h hk
  have := isP_le h
  omega⟩
theorem plOK_lite {n : Nat} {J : List Int} (h : PlOK n J) (hn : n ≤ 8) : Lite 9 J := ⟨by have := plOK_len h; omega, fun z hz => by have := h.1 z hz; omega⟩
theorem rev_lite (q J : List Int) : Lite 9 (revQ q J) ∧ Lite 9 (revJJ q J) := by
  unfold revQ revJJ
  cases h : nearOK q J with
  | false => exact ⟨⟨by simp, small_nil⟩, ⟨by simp, small_nil⟩⟩
  | true =>
    obtain ⟨hq, hJ⟩ := nearOK_iff.1 h
    have h8 := isP_le hq
    exact ⟨isP_lite (isP_rev hq), plOK_lite (plRev_ok hJ) (by omega)⟩
theorem con_lite (y : List Int) : Lite 9 (conQ y) ∧ Lite 9 (conR y) := by
  unfold conQ conR
  cases h : isP y with
  | false => exact ⟨⟨by simp, small_nil⟩, ⟨by simp, small_nil⟩⟩
  | true =>
    have h8 := isP_le h
    exact ⟨isP_lite h, plOK_lite (conJ_ok _) (by omega)⟩
theorem revR_lite9 {p : List Int} (h : isP p = true) : Lite 9 (revR p) := by rw [revR_yes h]; exact isP_lite (isP_rev h)
end Go.Proofs.YtabfjmabiapgoaaDoor
