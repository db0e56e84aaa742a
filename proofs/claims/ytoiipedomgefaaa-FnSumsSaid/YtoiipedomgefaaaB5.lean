/-
  Words and contracts that the laws lean on, bundled: Draw, DrawI, Fresh, DrawL, AtS, IntsA, SumAll, Join, Joins.
-/
import Derived.Test.YtoiipedomgefaaaB4
import Derived.Deep.RegionHeld3
import Derived.Laws.BitsAllLaws
import Derived.Test.YtoiipedomgefaaaB2
import Derived.LaidMore
import Derived.Test.YtoiipedomgefaaaB1
import Derived.Test.YtoiipedomgefaaaB3

/-
  THE CURSOR OVER A DRAW (l1New, l1Byte, l1Below, l1Once, l1Pick, l1PickInt), by contracts: whatever is drawn lies in its range; nothing but the cursor's own block turns.
-/

namespace Go.Proofs.Ytoiipedomgefaaa
set_option maxRecDepth 100000
open Go.RowKit

/-- A block that is known whole. -/
def Blk (w : World) (g : Nat) (t : TypeId) (cs : Array Value) : Prop := w.heap[g]? = some (.cells cs t (0, 0))
section
variable {w w' : World} {g : Nat} {t : TypeId} {cs : Array Value}
theorem Blk.lt (h : Blk w g t cs) : g < w.heap.size := by
  rcases Nat.lt_or_ge g w.heap.size with hlt | hge
  · exact hlt
  · unfold Blk at h; rw [Array.getElem?_eq_none hge] at h; cases h
theorem Blk.cell (h : Blk w g t cs) (i : Nat) : w.cell? ⟨g, i, none⟩ = cs[i]? := cell_of_row w g i cs t (0, 0) h
theorem Blk.frozen (h : Blk w g t cs) (i : Nat) : w.frozen? ⟨g, i, none⟩ = false := by
  unfold Blk at h
  simp [World.frozen?, h]
theorem Blk.new (w : World) (t : TypeId) (cs : Array Value) : Blk (w.alloc (.cells cs t)) w.heap.size t cs := heap_alloc_new w _
theorem Blk.drewN (h : Blk w g t cs) (n : Nat) : Blk (w.drewN n) g t cs := h
theorem Blk.alloc (h : Blk w g t cs) (o : Obj) : Blk (w.alloc o) g t cs := (Below.heap_alloc w o g h.lt).trans h
theorem Blk.set_ (h : Blk w g t cs) (i : Nat) (u : Value) : Blk (w.setCell ⟨g, i, none⟩ u) g t (cs.setIfInBounds i u) := by
  unfold Blk at h ⊢
  simp [World.setCell, Array.getElem?_modify, h]
theorem Blk.grown {row : Option Nat} (h : Blk w g t cs) (hb : w.grownBy w' row) (hg : some g ≠ row) : Blk w' g t cs := (hb.block g h.lt hg).trans h
theorem Blk.below (h : Blk w g t cs) (hb : Below w.heap.size w w') : Blk w' g t cs := h.grown (grown_of_below hb none) (by simp)
end

/-- THE CURSOR: block cb holds the bytes' slice, the place, the mixed number. -/
def Cur (w : World) (B cb : Nat) : Prop := ∃ (A : Option Addr) (n c k : Nat) (bs : List UInt8) (h : Int),
  Blk w cb 53 #[.slice A n c, .int .i64 k, .int .i64 h] ∧ Reads w B A n (u8s bs) ∧ n ≤ 1048576 ∧ k ≤ n ∧ B ≤ cb
theorem Cur.keep {w w' : World} {B cb : Nat} (h : Cur w B cb) (hg : w.grownBy w' none) : Cur w' B cb := by
  obtain ⟨A, n, c, k, bs, x, hb, hr, hn, hk, hB⟩ := h
  exact ⟨A, n, c, k, bs, x, hb.grown hg (by simp), hr.grown hg (by have := hb.lt; omega) (by simp), hn, hk, hB⟩
theorem Cur.below {w w' : World} {B cb : Nat} (h : Cur w B cb) (hg : Below w.heap.size w w') : Cur w' B cb := h.keep (grown_of_below hg none)
theorem Cur.drewN {w : World} {B cb : Nat} (h : Cur w B cb) (n : Nat) : Cur (w.drewN n) B cb := h
theorem Cur.lt {w : World} {B cb : Nat} (h : Cur w B cb) : cb < w.heap.size := by
  obtain ⟨_, _, _, _, _, _, hb, _⟩ := h
  exact hb.lt

/-- What a draw leaves. -/
def Drawn (B cb : Nat) (w : World) (P : Value → Prop) (e : Ending) (w' : World) : Prop := ∃ v, e = .returned v ∧ P v ∧ Cur w' B cb ∧ w.grownBy w' (some cb)
def IntIn (lo hi : Int) (v : Value) : Prop := ∃ x : Int, v = .int .i64 x ∧ lo ≤ x ∧ x ≤ hi

theorem and255 (x : Int) : 0 ≤ bits .and .i64 x 255 ∧ bits .and .i64 x 255 ≤ 255 := by
  have h : (BitVec.ofInt 64 x &&& BitVec.ofInt 64 255).toNat ≤ 255 := by
    rw [BitVec.toNat_and]
    exact Nat.le_trans Nat.and_le_right (by decide)
  show 0 ≤ IntKind.i64.wrap ((BitVec.ofInt 64 x &&& BitVec.ofInt 64 255).toNat : Int) ∧ IntKind.i64.wrap ((BitVec.ofInt 64 x &&& BitVec.ofInt 64 255).toNat : Int) ≤ 255
  rw [IntKind.wrap_i64]
  omega
theorem grown_set {w : World} {g : Nat} (i : Nat) (u : Value) : w.grownBy (w.setCell ⟨g, i, none⟩ u) (some g) :=
  ⟨rfl, rfl, rfl, by simp, fun k _ hk => heap_setCell_other w ⟨g, i, none⟩ k u (fun e => hk (by simp [e]))⟩
theorem grown_drewN {a w : World} {row : Option Nat} (h : a.grownBy w row) (n : Nat) : a.grownBy (w.drewN n) row := ⟨h.os, h.tape, h.output, h.size, h.block⟩

theorem cur_byte {w : World} {B cb n c k : Nat} {A : Option Addr} {bs : List UInt8} {h : Int} (hb : Blk w cb 53 #[.slice A n c, .int .i64 k, .int .i64 h]) (hr : Reads w B A n (u8s bs)) (hn : n ≤ 1048576) (hk : k + 1 ≤ n) (hB : B ≤ cb) (h' : Int) (m : Nat) :
    Cur (((w.setCell ⟨cb, 2, none⟩ (.int .i64 h')).drewN m).setCell ⟨cb, 1, none⟩ (.int .i64 ((k : Int) + 1))) B cb := by
  refine ⟨A, n, c, k + 1, bs, h', ?_, ?_, hn, hk, hB⟩
  · exact ((hb.set_ 2 (.int .i64 h')).drewN m).set_ 1 (.int .i64 ((k : Int) + 1))
  · exact ((hr.setCell (p := ⟨cb, 2, none⟩) hB _).drewN m).setCell (p := ⟨cb, 1, none⟩) hB _
theorem cur_past {w : World} {B cb n c k : Nat} {A : Option Addr} {bs : List UInt8} {h : Int} (hb : Blk w cb 53 #[.slice A n c, .int .i64 k, .int .i64 h]) (hr : Reads w B A n (u8s bs)) (hn : n ≤ 1048576) (hk : k ≤ n) (hB : B ≤ cb) (h' : Int) (m : Nat) :
    Cur ((w.setCell ⟨cb, 2, none⟩ (.int .i64 h')).drewN m) B cb := by
  refine ⟨A, n, c, k, bs, h', ?_, ?_, hn, hk, hB⟩
  · exact (hb.set_ 2 (.int .i64 h')).drewN m
  · exact (hr.setCell (p := ⟨cb, 2, none⟩) hB _).drewN m

set_option maxRecDepth 100000 in
set_option maxHeartbeats 800000 in
theorem byte_any (B cb : Nat) (w : World) (hc : Cur w B cb) : Calls Try.prog 54 #[.pointer (some ⟨cb, 0, none⟩)] w (Drawn B cb w (IntIn 0 255)) := by
  obtain ⟨A, n, c, k, bs, h, hb, hr, hn, hk, hB⟩ := hc
  have c0 : w.cell? ⟨cb, 0, none⟩ = some (.slice A n c) := hb.cell 0
  have c1 : w.cell? ⟨cb, 1, none⟩ = some (.int .i64 k) := hb.cell 1
  have c2 : w.cell? ⟨cb, 2, none⟩ = some (.int .i64 h) := hb.cell 2
  have f1 := hb.frozen 1
  have f2 := hb.frozen 2
  by_cases hlt : k < n
  · obtain ⟨ad, u, rfl, had, hu, hx⟩ := hr.at_ hlt
    obtain ⟨b, hbk, rfl⟩ := u8_at hu
    have hx2 : ∀ v, (w.setCell ⟨cb, 2, none⟩ v).cell? (ad.add k) = some (.int .u8 b.toNat) := fun v => by
      rw [World.cell?_setCell_other w _ _ _ (fun e => by have := congrArg Addr.block e; rw [block_of_add] at this; simp at this; omega)]
      exact hx
    clear hu hx hbk
    have HB := hide hb
    have HR := hide hr
    clear hb hr
    go_enter Try.func54, Try.ntmps54
    go_wp2
    go_quiet (fail)
    go_wp2
    go_quiet (fail)
    go_wp2
    go_quiet (fail)
    go_wp2
    go_ret
    exact ⟨_, rfl, ⟨_, rfl, (and255 _).1, (and255 _).2⟩, cur_byte (unhide HB) (unhide HR) hn hlt hB _ _, grown_then (grown_drewN (grown_set 2 _) _) (grown_set 1 _)⟩
  · have HB := hide hb
    have HR := hide hr
    clear hb hr
    go_enter Try.func54, Try.ntmps54
    go_wp2
    go_quiet (fail)
    go_wp2
    go_quiet (fail)
    go_wp2
    go_ret
    exact ⟨_, rfl, ⟨_, rfl, (and255 _).1, (and255 _).2⟩, (cur_past (unhide HB) (unhide HR) hn hk hB _ _).drewN _, grown_drewN (grown_drewN (grown_set 2 _) _) _⟩

set_option maxRecDepth 100000 in
set_option maxHeartbeats 800000 in
/-- l1Below: 0 to n - 1; 0 where n is not above 0. -/
theorem below_any (B cb : Nat) (n : Int) (hn : n ≤ 1073741824) (w : World) (hc : Cur w B cb) :
    Calls Try.prog 40 #[.pointer (some ⟨cb, 0, none⟩), .int .i64 n] w (Drawn B cb w (IntIn 0 (if 0 < n then n - 1 else 0))) := by
  have H := hide (fun w hc => byte_any B cb w hc)
  have HC := hide hc
  clear hc
  by_cases h0 : 0 < n
  · rw [if_pos h0]
    by_cases h1 : n ≤ 256
    · go_enter Try.func40, Try.ntmps40
      go_wp2_with fail
      refine (unhide H _ (unhide HC)).mono ?_
      rintro e w1 ⟨v, rfl, ⟨x, rfl, hx0, hx1⟩, hc1, hg1⟩
      have HC1 := hide hc1
      have HG1 := hide hg1
      clear hc1 hg1
      have hm0 : 0 ≤ x % n := Int.emod_nonneg _ (by omega)
      have hm1 : x % n ≤ n - 1 := by have := Int.emod_lt_of_pos x h0; omega
      go_wp2
      go_ret
      exact ⟨_, rfl, ⟨_, rfl, hm0, hm1⟩, unhide HC1, unhide HG1⟩
    · go_enter Try.func40, Try.ntmps40
      go_wp2_with fail
      refine (unhide H _ (unhide HC)).mono ?_
      rintro e w1 ⟨v, rfl, ⟨x, rfl, hx0, hx1⟩, hc1, hg1⟩
      have HC1 := hide hc1
      have HG1 := hide hg1
      clear hc1 hg1
      go_wp2_with fail
      refine (unhide H _ (unhide HC1)).mono ?_
      rintro e w2 ⟨v, rfl, ⟨y, rfl, hy0, hy1⟩, hc2, hg2⟩
      have HC2 := hide hc2
      have HG2 := hide (grown_then (unhide HG1) hg2)
      clear hc2 hg2
      go_wp2_with fail
      refine (unhide H _ (unhide HC2)).mono ?_
      rintro e w3 ⟨v, rfl, ⟨z, rfl, hz0, hz1⟩, hc3, hg3⟩
      have HC3 := hide hc3
      have HG3 := hide (grown_then (unhide HG2) hg3)
      clear hc3 hg3
      go_wp2_with fail
      refine (unhide H _ (unhide HC3)).mono ?_
      rintro e w4 ⟨v, rfl, ⟨u, rfl, hu0, hu1⟩, hc4, hg4⟩
      have HC4 := hide hc4
      have HG4 := hide (grown_then (unhide HG3) hg4)
      clear hc4 hg4
      have hm0 : 0 ≤ (x * 16777216 + y * 65536 + z * 256 + u) % n := Int.emod_nonneg _ (by omega)
      have hm1 : (x * 16777216 + y * 65536 + z * 256 + u) % n ≤ n - 1 := by have := Int.emod_lt_of_pos (x * 16777216 + y * 65536 + z * 256 + u) h0; omega
      go_wp2
      go_ret
      exact ⟨_, rfl, ⟨_, rfl, hm0, hm1⟩, unhide HC4, unhide HG4⟩
  · rw [if_neg h0]
    go_enter Try.func40, Try.ntmps40
    go_wp2
    go_ret
    exact ⟨_, rfl, ⟨_, rfl, Int.le_refl _, Int.le_refl _⟩, unhide HC, World.grownBy.refl _ _⟩

def IsBool (v : Value) : Prop := ∃ b : Bool, v = .bool b
def StrOf (ss : List ByteArray) (v : Value) : Prop := ∃ s, s ∈ ss ∧ v = .string s

theorem once_any (B cb : Nat) (n : Int) (hn : n ≤ 1073741824) (w : World) (hc : Cur w B cb) :
    Calls Try.prog 37 #[.pointer (some ⟨cb, 0, none⟩), .int .i64 n] w (Drawn B cb w IsBool) := by
  have H := hide (below_any B cb n hn w hc)
  clear hc
  go_enter Try.func37, Try.ntmps37
  go_wp2_with fail
  refine (unhide H).mono ?_
  rintro e w1 ⟨v, rfl, ⟨x, rfl, hx0, hx1⟩, hc1, hg1⟩
  have HC1 := hide hc1
  have HG1 := hide hg1
  clear hc1 hg1 hx0 hx1 H
  go_wp2
  go_ret
  exact ⟨_, rfl, ⟨_, rfl⟩, unhide HC1, unhide HG1⟩

def IntOf (zs : List Int) (v : Value) : Prop := ∃ z, z ∈ zs ∧ v = .int .i64 z
set_option maxHeartbeats 800000 in
theorem pickInt_any (B cb g : Nat) (n c : Nat) (zs : List Int) (w : World) (hc : Cur w B cb) (hl : Blk w g 3 (zs.map (Value.int .i64)).toArray) (hne : g ≠ cb) (hn : zs.length = n) (h0 : 0 < n) (h1 : n ≤ 1048576) :
    Calls Try.prog 58 #[.pointer (some ⟨cb, 0, none⟩), .slice (some ⟨g, 0, none⟩) n c] w (Drawn B cb w (IntOf zs)) := by
  have H := hide (below_any B cb n (by omega) w hc)
  have HL := hide hl
  have HN := hide hn
  clear hc hl hn
  go_enter Try.func58, Try.ntmps58
  go_wp2_with fail
  refine (unhide H).mono ?_
  rintro e w1 ⟨v, rfl, ⟨x, rfl, hx0, hx1⟩, hc1, hg1⟩
  rw [if_pos (by omega)] at hx1
  obtain ⟨k, rfl⟩ : ∃ k : Nat, x = k := ⟨x.toNat, by omega⟩
  have hk : k < n := by omega
  have hcell : w1.cell? ⟨g, k, none⟩ = some (.int .i64 (zs[k]'(by have := unhide HN; omega))) := by
    rw [((unhide HL).grown hg1 (by simp; omega)).cell k]
    simp [show k < zs.length by have := unhide HN; omega]
  have hmem : zs[k]'(by have := unhide HN; omega) ∈ zs := List.getElem_mem _
  generalize zs[k]'(by have := unhide HN; omega) = z at hcell hmem
  have HM := hide hmem
  have HC1 := hide hc1
  have HG1 := hide hg1
  clear hc1 hg1 hmem H
  go_wp2
  go_ret
  exact ⟨_, rfl, ⟨_, unhide HM, rfl⟩, unhide HC1, unhide HG1⟩

/-- A new cursor. -/
def NewCur (B : Nat) (w : World) (e : Ending) (w' : World) : Prop := ∃ cb, e = .returned (.pointer (some ⟨cb, 0, none⟩)) ∧ w.heap.size ≤ cb ∧ Cur w' B cb ∧ Below w.heap.size w w'
set_option maxRecDepth 100000 in
set_option maxHeartbeats 800000 in
theorem new_any (A : Option Addr) (n c B : Nat) (bs : List UInt8) (w : World) (hr : Reads w B A n (u8s bs)) (hn : n ≤ 1048576) (hB : B ≤ w.heap.size) :
    Calls Try.prog 28 #[.slice A n c] w (NewCur B w) := by
  go_enter Try.func28, Try.ntmps28
  go_wp2
  go_loop [3, 4] (fun hv i => ∃ (k : Nat) (x : Int), k ≤ n ∧ i = .int .i64 k ∧ hv = .int .i64 x) (fun _ i => n - (intOf i).toNat)
  case atStart => exact ⟨0, _, Nat.zero_le _, rfl, rfl⟩
  case round =>
    obtain ⟨k, x, hk, rfl, rfl⟩ := hrel
    by_cases hlt : k < n
    · obtain ⟨ad, u, rfl, had, hu, hx⟩ := hr.at_ hlt
      obtain ⟨b, hbk, rfl⟩ := u8_at hu
      clear hu hbk
      by_cases h4 : k < 4000
      · go_wp2
        go_round
        case rel => exact ⟨k + 1, _, by omega, by go_num, rfl⟩
        case measure => simp [intOf]; omega
      · go_wp2
        go_ret
        exact ⟨w.heap.size, rfl, Nat.le_refl _, ⟨some ad, n, c, 0, bs, x, Blk.new _ _ _, hr.alloc hB _, hn, Nat.zero_le _, hB⟩, (Below.refl _ _).alloc (Nat.le_refl _) _⟩
    · go_wp2
      go_ret
      exact ⟨w.heap.size, rfl, Nat.le_refl _, ⟨A, n, c, 0, bs, x, Blk.new _ _ _, hr.alloc hB _, hn, Nat.zero_le _, hB⟩, (Below.refl _ _).alloc (Nat.le_refl _) _⟩
end Go.Proofs.Ytoiipedomgefaaa


/-
  DRAWS OF ROWS OF INTEGERS: spec.l2Draw, spec.l2Any, spec.l2Bent, by their contracts.
-/

namespace Go.Proofs.Ytoiipedomgefaaa
set_option maxRecDepth 100000
open Go.RowKit

/-- What a call that draws has done so far: the cursor stands in block cb; of the blocks that were there the cursor's alone may have turned. -/
structure Side (B cb : Nat) (w wr : World) : Prop where
  cur : Cur wr B cb
  lt : cb < w.heap.size
  gr : w.grownBy wr (some cb)
theorem Cur.base {w : World} {B cb : Nat} (h : Cur w B cb) : B ≤ cb := by
  obtain ⟨_, _, _, _, _, _, _, _, _, _, hB⟩ := h
  exact hB
theorem Side.start {B cb : Nat} {w : World} (h : Cur w B cb) : Side B cb w w := ⟨h, h.lt, World.grownBy.refl w _⟩
theorem Side.size {B cb : Nat} {w wr : World} (h : Side B cb w wr) : w.heap.size ≤ wr.heap.size := h.gr.size
theorem Cur.low {w w' : World} {B cb L : Nat} (h : Cur w B cb) (hL : cb < L) (hb : Below L w w') : Cur w' B cb := by
  obtain ⟨A, n, c, k, bs, x, h1, hr, hn, hk, hB⟩ := h
  exact ⟨A, n, c, k, bs, x, (hb.block cb hL).trans h1, hr.below (hb.mono (by omega)), hn, hk, hB⟩
/-- Work of the call's own. -/
theorem Side.low {B cb : Nat} {w wr w' : World} (h : Side B cb w wr) (hb : Below w.heap.size wr w') : Side B cb w w' :=
  ⟨h.cur.low h.lt hb, h.lt, ⟨hb.os.trans h.gr.os, hb.tape.trans h.gr.tape, hb.output.trans h.gr.output, Nat.le_trans h.gr.size hb.size, fun i hi hne => (hb.block i hi).trans (h.gr.block i hi hne)⟩⟩
theorem Side.below {B cb : Nat} {w wr w' : World} (h : Side B cb w wr) (hb : Below wr.heap.size wr w') : Side B cb w w' := h.low (hb.mono h.size)
/-- A draw. -/
theorem Side.drawn {B cb : Nat} {w wr w' : World} (h : Side B cb w wr) (hc : Cur w' B cb) (hg : wr.grownBy w' (some cb)) : Side B cb w w' := ⟨hc, h.lt, grown_then h.gr hg⟩
theorem own_drawn {w w' : World} {B cb n : Nat} {e : TypeId} {v : Value} {xs : List Value} (h : w.ownsRow B e 1 v n xs) (hg : w.grownBy w' (some cb)) (hc : cb < B) : w'.ownsRow B e 1 v n xs := by
  refine h.kept hg ?_
  cases hv : v.ownBlock with
  | none => exact .inl rfl
  | some k => exact .inr (fun e => by have := (h.lt k hv).1; injection e with e; omega)
theorem Ints.drawn {w w' : World} {B cb : Nat} {v : Value} {zs : List Int} (h : Ints w B v zs) (hg : w.grownBy w' (some cb)) (hc : cb < B) : Ints w' B v zs := by
  refine h.kept hg ?_
  cases hv : v.ownBlock with
  | none => exact .inl rfl
  | some k => exact .inr (fun e => by have := h.since k hv; injection e with e; omega)
theorem Inner.drawn {w w' : World} {B cb : Nat} {vs : List Value} {zss : List (List Int)} (h : Inner w B vs zss) (hg : w.grownBy w' (some cb)) (hc : cb < B) : Inner w' B vs zss :=
  ⟨h.len, fun i u zs hu hz => (h.row i u zs hu hz).drawn hg hc, h.away⟩
theorem IntsS.drawn {w w' : World} {B cb : Nat} {v : Value} {zss : List (List Int)} (h : IntsS w B v zss) (hg : w.grownBy w' (some cb)) (hc : cb < B) : IntsS w' B v zss := by
  obtain ⟨vs, h1, h2⟩ := h
  exact ⟨vs, own_drawn h1 hg hc, h2.drawn hg hc⟩

/-- What is drawn is short and its numbers have 64 bits. -/
def Lite (L : Nat) (zs : List Int) : Prop := zs.length ≤ L ∧ Small zs
/-- A row that was drawn, with room to grow. -/
def DrawnO (B cb : Nat) (w : World) (L : Nat) (e : Ending) (w' : World) : Prop :=
  ∃ A c zs, e = .returned (.slice A zs.length c) ∧ Lite L zs ∧ w'.ownsRow w.heap.size 3 1 (.slice A zs.length c) zs.length (i64s zs) ∧ Cur w' B cb ∧ w.grownBy w' (some cb)
/-- .. of a known length. -/
def DrawnE (B cb : Nat) (w : World) (L : Nat) (e : Ending) (w' : World) : Prop :=
  ∃ A c zs, e = .returned (.slice A L c) ∧ zs.length = L ∧ Small zs ∧ w'.ownsRow w.heap.size 3 1 (.slice A L c) L (i64s zs) ∧ Cur w' B cb ∧ w.grownBy w' (some cb)
theorem DrawnE.mk {B cb L : Nat} {w w' : World} {v : Value} {zs : List Int} (hI : w'.ownsRow w.heap.size 3 1 v L (i64s zs)) (hn : zs.length = L) (hl : Small zs) (h : Side B cb w w') : DrawnE B cb w L (.returned v) w' := by
  obtain ⟨A, c, rfl, _⟩ := Reads.of_own hI
  exact ⟨A, c, zs, rfl, hn, hl, hI, h.cur, h.gr⟩
theorem DrawnO.mk {B cb L : Nat} {w w' : World} {v : Value} {zs : List Int} (hI : w'.ownsRow w.heap.size 3 1 v zs.length (i64s zs)) (hl : Lite L zs) (h : Side B cb w w') : DrawnO B cb w L (.returned v) w' := by
  obtain ⟨A, c, rfl, _⟩ := Reads.of_own hI
  exact ⟨A, c, zs, rfl, hl, hI, h.cur, h.gr⟩
/-- A row that was drawn. -/
def DrawnI (B cb : Nat) (w : World) (L : Nat) (e : Ending) (w' : World) : Prop :=
  ∃ A c zs, e = .returned (.slice A zs.length c) ∧ Lite L zs ∧ Ints w' w.heap.size (.slice A zs.length c) zs ∧ Cur w' B cb ∧ w.grownBy w' (some cb)
theorem DrawnI.mk {B cb L : Nat} {w w' : World} {v : Value} {zs : List Int} (hI : Ints w' w.heap.size v zs) (hl : Lite L zs) (h : Side B cb w w') : DrawnI B cb w L (.returned v) w' := by
  obtain ⟨A, c, rfl⟩ := hI.slice
  exact ⟨A, c, zs, rfl, hl, hI, h.cur, h.gr⟩
theorem Lite.more {L L' : Nat} {zs : List Int} (h : Lite L zs) (hL : L ≤ L') : Lite L' zs := ⟨Nat.le_trans h.1 hL, h.2⟩
theorem Lite.arg {w : World} {B n c L : Nat} {A : Option Addr} {zs : List Int} (h : Lite L zs) (hI : Ints w B (.slice A n c) zs) (hL : L ≤ 1048576) : Arg w w.heap.size A n c zs :=
  hI.arg (by have := hI.len; have := h.1; omega) hI.cap h.2
theorem small_nil : Small [] := fun z hz => by simp at hz
theorem small_put {zs : List Int} {at_ : Nat} {k : Int} (h : Small zs) (hk : -9223372036854775808 ≤ k ∧ k ≤ 9223372036854775807) : Small (zs.take at_ ++ [k] ++ zs.drop at_) := fun z hz => by
  rcases List.mem_append.1 hz with hz | hz
  · rcases List.mem_append.1 hz with hz | hz
    · exact h z (List.mem_of_mem_take hz)
    · rw [List.mem_singleton] at hz; subst hz; exact hk
  · exact h z (List.mem_of_mem_drop hz)

theorem own_base {w : World} {B B' n : Nat} {e : TypeId} {v : Value} {xs : List Value} (h : w.ownsRow B e 1 v n xs) (hB : B' ≤ B) : w.ownsRow B' e 1 v n xs := by
  refine ⟨h.1, ?_⟩
  rcases h.2 with h2 | ⟨g, cap, cur, e, hb, h2⟩
  · exact .inl h2
  · exact .inr ⟨g, cap, cur, e, Nat.le_trans hB hb, h2⟩
theorem take_i64 (zs : List Int) (s : Nat) : (i64s zs).take s = i64s (zs.take s) := by unfold i64s; rw [List.map_take]
theorem drop_i64 (zs : List Int) (s : Nat) : (i64s zs).drop s = i64s (zs.drop s) := by unfold i64s; rw [List.map_drop]
theorem i64_snoc2 (xs : List Int) (z : Int) : i64s xs ++ [Value.int .i64 z] = i64s (xs ++ [z]) := by unfold i64s; simp

set_option maxHeartbeats 1600000 in
theorem l2drawE_any (B cb m : Nat) (hm : m ≤ 16) (w : World) (hc : Cur w B cb) :
    Calls Try.prog 52 #[.pointer (some ⟨cb, 0, none⟩), .int .i64 m] w (DrawnE B cb w m) := by
  obtain ⟨i0, hi, hz0, hz1, hz2⟩ := info_parts intInfo
  have hS0 := Side.start hc
  have hst := own0 w w.heap.size (Nat.le_refl _)
  have hS := hS0.below ((Below.refl w.heap.size w).alloc (Nat.le_refl _) (.cells #[] 3))
  clear hS0 hc
  go_enter Try.func52, Try.ntmps52
  go_wp2
  go_loopw [5, 6, 7, 8] (fun v i _ _ wr => ∃ (k : Nat) (zs : List Int) (g cap : Nat), k ≤ m ∧ i = .int .i64 ((k : Int) + 1) ∧ v = .slice (some ⟨g, 0, none⟩) k cap ∧ zs.length = k ∧ k ≤ cap ∧ w.heap.size ≤ g ∧ Hid (Small zs) ∧ Side B cb w wr ∧ wr.ownsRow w.heap.size 3 1 (.slice (some ⟨g, 0, none⟩) k cap) k (i64s zs)) (fun _ i _ _ _ => m + 1 - (intOf i).toNat)
  case atStart => exact ⟨0, [], w.heap.size, 0, Nat.zero_le _, rfl, rfl, rfl, Nat.le_refl _, Nat.le_refl _, small_nil, hS, hst⟩
  case round =>
    obtain ⟨k, zs, g, cap, hk, rfl, rfl, hzl, hkc, hgb, hsm, hS, hown⟩ := hrel
    clear hst
    by_cases hlt : k < m
    · have H1 := hide (below_any B cb ((k : Int) + 1) (by omega) wr hS.cur)
      have hlt' : (k : Int) + 1 ≤ (m : Int) := by omega
      have HZL := hide hzl
      clear hzl
      go_wp2_with fail
      refine (unhide H1).mono ?_
      rintro e w1 ⟨v, rfl, ⟨x, rfl, hx0, hx1⟩, hc1, hg1⟩
      rw [if_pos (by omega)] at hx1
      obtain ⟨s, rfl⟩ : ∃ s : Nat, x = s := ⟨x.toNat, by omega⟩
      have hsk : s ≤ k := by omega
      have hown1 := own_drawn hown hg1 hS.lt
      have hS1 := hS.drawn hc1 hg1
      clear H1 hown hc1 hg1 hS hx0 hx1
      by_cases hsc : s < cap
      · have hsc' : (s : Int) < (cap : Int) := by omega
        have hsk' : (s : Int) ≤ (k : Int) := by omega
        have hE := own0 w1 w1.heap.size (Nat.le_refl _)
        have hal := (Below.refl w1.heap.size w1).alloc (Nat.le_refl _) (.cells #[] 3)
        have hsz1 := hS1.size
        have hA : Arg (w1.alloc (.cells #[] 3)) w1.heap.size (some ⟨g, s, none⟩) (k - s) (cap - s) (zs.drop s) := by
          refine ⟨by rw [← drop_i64]; exact (own_rest hown1 hsk).below hal, by simp, by omega, by omega, fun z hz => unhide hsm z (List.mem_of_mem_drop hz), fun e => by cases e⟩
        go_wp2_with (first
          | (at_builtin; refine wpList_append_arg rfl (.tmp 20) (.tmp 23) rfl w1.heap.size w1.heap.size 0 (k - s) (cap - s) w1 _ (some ⟨g, s, none⟩) [] (zs.drop s) rfl rfl hE hA (by omega) hal hal.size ?_))
        intro v2 w2 hown2 hb2 hg2
        clear hE hA hal hg2
        have hown3 := own_cut (own_below hown1 hb2) hsk
        rw [take_i64] at hown3
        have hS2 := hS1.below hb2
        have hgw1 := (hown1.lt g rfl).2
        clear hown1 hS1
        go_wp2_with (first
          | (at_builtin; refine wpList_append_one rfl (.tmp 27) (.tmp 29) 24 rfl w.heap.size 3 i0 (.int .i64 0) 8 Try.underlying24 hi hz0 hz1 hz2 rfl w2 w2 _ _ _ rfl hown3 (.int .i64 ((k : Int) + 1)) rfl rfl rfl (by omega) (by unfold maxLen; omega) (Below.refl _ _) hS2.size ?_))
        intro v4 w4 hown4 hb4 hg4
        have hI2 : Ints w4 w1.heap.size v2 (zs.drop s) := by
          have h : Ints w2 w1.heap.size v2 (zs.drop s) := Ints.of_own hown2
          refine h.kept hg4 ?_
          cases hv : v2.ownBlock with
          | none => exact .inl rfl
          | some q => exact .inr (fun e => by have := h.since q hv; simp [Value.ownBlock] at e; omega)
        obtain ⟨A2, c2, rfl, _⟩ := Reads.of_own hown2
        have hdl : (zs.drop s).length = k - s := by have h := hown2.1; rw [i64_length] at h; omega
        have hA4 := hI2.arg (by omega) hI2.cap (show Small (zs.drop s) from fun z hz => unhide hsm z (List.mem_of_mem_drop hz))
        rw [i64_snoc2] at hown4
        have hS4 := hS2.low hb4
        clear hown2 hI2 hown3 hS2 hg4 hb2
        go_wp2_with (first
          | (at_builtin; refine wpList_append_arg rfl (.tmp 30) (.tmp 31) rfl w.heap.size w4.heap.size (s + 1) (k - s) c2 w4 _ A2 (zs.take s ++ [(k : Int) + 1]) (zs.drop s) rfl rfl hown4 hA4 (by omega) (Below.refl _ _) hS4.size ?_))
        intro v5 w5 hown5 hb5 hg5
        obtain ⟨g5, c5, rfl, hg5b, hc5⟩ := own_first hown5 (by omega)
        have hS5 := hS4.low hb5
        have hk1 : s + 1 + (k - s) = k + 1 := by omega
        rw [hk1] at hown5 hc5 ⊢
        have hsm5 := hide (small_put (at_ := s) (k := (k : Int) + 1) (unhide hsm) (by omega))
        have hlen5 : (zs.take s ++ [(k : Int) + 1] ++ zs.drop s).length = k + 1 := by
          have := unhide HZL
          simp only [List.length_append, List.length_take, List.length_drop, List.length_singleton]; omega
        clear hown4 hA4 hS4 hb4 hb5 hg5
        go_wp2
        go_roundw
        case rel => exact ⟨k + 1, _, g5, c5, by omega, by go_num, rfl, hlen5, hc5, hg5b, hsm5, hS5, by rw [List.append_assoc]; exact hown5⟩
        case measure => simp [intOf]; omega
      · have hsk2 : s = k := by omega
        have hkc2 : k = cap := by omega
        subst hsk2
        subst hkc2
        have hsk' : (s : Int) ≤ (s : Int) := by omega
        have hE := own0 w1 w1.heap.size (Nat.le_refl _)
        have hal := (Below.refl w1.heap.size w1).alloc (Nat.le_refl _) (.cells #[] 3)
        have hsz1 := hS1.size
        have hA : Arg (w1.alloc (.cells #[] 3)) w1.heap.size (some ⟨g, 0, none⟩) (0) (0) (zs.drop s) := by
          have hz0 : zs.drop s = [] := List.drop_of_length_le (by have := unhide HZL; omega)
          rw [hz0]
          exact ⟨⟨rfl, fun h => absurd h (by omega)⟩, by simp, by omega, by omega, small_nil, fun e => by cases e⟩
        go_wp2_with (first
          | (at_builtin; refine wpList_append_arg rfl (.tmp 20) (.tmp 23) rfl w1.heap.size w1.heap.size 0 (0) (0) w1 _ (some ⟨g, 0, none⟩) [] (zs.drop s) rfl rfl hE hA (by omega) hal hal.size ?_))
        intro v2 w2 hown2 hb2 hg2
        clear hE hA hal hg2
        have hown3 := own_cut (own_below hown1 hb2) hsk
        rw [take_i64] at hown3
        have hS2 := hS1.below hb2
        have hgw1 := (hown1.lt g rfl).2
        clear hown1 hS1
        go_wp2_with (first
          | (at_builtin; refine wpList_append_one rfl (.tmp 27) (.tmp 29) 24 rfl w.heap.size 3 i0 (.int .i64 0) 8 Try.underlying24 hi hz0 hz1 hz2 rfl w2 w2 _ _ _ rfl hown3 (.int .i64 ((s : Int) + 1)) rfl rfl rfl (by omega) (by unfold maxLen; omega) (Below.refl _ _) hS2.size ?_))
        intro v4 w4 hown4 hb4 hg4
        have hI2 : Ints w4 w1.heap.size v2 (zs.drop s) := by
          have h : Ints w2 w1.heap.size v2 (zs.drop s) := Ints.of_own hown2
          refine h.kept hg4 ?_
          cases hv : v2.ownBlock with
          | none => exact .inl rfl
          | some q => exact .inr (fun e => by have := h.since q hv; simp [Value.ownBlock] at e; omega)
        obtain ⟨A2, c2, rfl, _⟩ := Reads.of_own hown2
        have hdl : (zs.drop s).length = 0 := by have h := hown2.1; rw [i64_length] at h; omega
        have hA4 := hI2.arg (by omega) hI2.cap (show Small (zs.drop s) from fun z hz => unhide hsm z (List.mem_of_mem_drop hz))
        rw [i64_snoc2] at hown4
        have hS4 := hS2.low hb4
        clear hown2 hI2 hown3 hS2 hg4 hb2
        go_wp2_with (first
          | (at_builtin; refine wpList_append_arg rfl (.tmp 30) (.tmp 31) rfl w.heap.size w4.heap.size (s + 1) (0) c2 w4 _ A2 (zs.take s ++ [(s : Int) + 1]) (zs.drop s) rfl rfl hown4 hA4 (by omega) (Below.refl _ _) hS4.size ?_))
        intro v5 w5 hown5 hb5 hg5
        obtain ⟨g5, c5, rfl, hg5b, hc5⟩ := own_first hown5 (by omega)
        have hS5 := hS4.low hb5
        have hk1 : s + 1 + (0) = s + 1 := by omega
        rw [hk1] at hown5 hc5 ⊢
        have hsm5 := hide (small_put (at_ := s) (k := (s : Int) + 1) (unhide hsm) (by omega))
        have hlen5 : (zs.take s ++ [(s : Int) + 1] ++ zs.drop s).length = s + 1 := by
          have := unhide HZL
          simp only [List.length_append, List.length_take, List.length_drop, List.length_singleton]; omega
        clear hown4 hA4 hS4 hb4 hb5 hg5
        go_wp2
        go_roundw
        case rel => exact ⟨s + 1, _, g5, c5, by omega, by go_num, rfl, hlen5, hc5, hg5b, hsm5, hS5, by rw [List.append_assoc]; exact hown5⟩
        case measure => simp [intOf]; omega
    · obtain rfl : k = m := by omega
      have hlt' : ¬ (k : Int) + 1 ≤ (k : Int) := by omega
      have HS := hide hS
      have HZ := hide hzl
      clear hzl hS
      go_wp2
      go_ret
      exact DrawnE.mk hown (unhide HZ) (unhide hsm) (unhide HS)
theorem l2draw_any (B cb m : Nat) (hm : m ≤ 16) (w : World) (hc : Cur w B cb) :
    Calls Try.prog 52 #[.pointer (some ⟨cb, 0, none⟩), .int .i64 m] w (DrawnO B cb w m) := by
  refine (l2drawE_any B cb m hm w hc).mono ?_
  rintro e w1 ⟨A, c, zs, rfl, hl, hs, hown, hc1, hg1⟩
  refine ⟨A, c, zs, by rw [hl], ⟨by omega, hs⟩, ?_, hc1, hg1⟩
  rw [hl]
  exact hown

set_option maxHeartbeats 800000 in
theorem l2any_any (B cb : Nat) (w : World) (hc : Cur w B cb) : Calls Try.prog 55 #[.pointer (some ⟨cb, 0, none⟩)] w (DrawnO B cb w 8) := by
  have hal := (Below.refl w.heap.size w).alloc (Nat.le_refl _) (.cells ([0, 1, 2, 3, 4, 5, 5, 6, 6, 7, 8].map (Value.int .i64)).toArray 3)
  have hS := (Side.start hc).below hal
  have hne : w.heap.size ≠ cb := by have := hc.lt; omega
  have H1 := hide (pickInt_any B cb w.heap.size 11 11 [0, 1, 2, 3, 4, 5, 5, 6, 6, 7, 8] _ hS.cur (Blk.new w _ _) hne rfl (by omega) (by omega))
  clear hal hc
  simp only [List.map_cons, List.map_nil] at hS H1
  go_enter Try.func55, Try.ntmps55
  go_wp2_with fail
  refine (unhide H1).mono ?_
  rintro e w1 ⟨v, rfl, ⟨x, hx, rfl⟩, hc1, hg1⟩
  have hx8 : 0 ≤ x ∧ x ≤ 8 := by
    simp only [List.mem_cons, List.not_mem_nil, or_false] at hx
    omega
  obtain ⟨m, rfl⟩ : ∃ m : Nat, x = m := ⟨x.toNat, by omega⟩
  have hm : m ≤ 8 := by omega
  have hS1 := hS.drawn hc1 hg1
  have H2 := hide (l2draw_any B cb m (by omega) w1 hc1)
  clear H1 hx hx8 hS hc1 hg1
  go_wp2_with fail
  refine (unhide H2).mono ?_
  rintro e w2 ⟨A2, c2, zs, rfl, hl, hown, hc2, hg2⟩
  have hS2 := hS1.drawn hc2 hg2
  have hown2 := own_base hown hS1.size
  have HL := hide (hl.more hm)
  have HS := hide hS2
  clear H2 hl hc2 hg2 hS2 hown
  go_wp2
  go_ret
  exact ⟨A2, c2, zs, rfl, unhide HL, hown2, (unhide HS).cur, (unhide HS).gr⟩

set_option maxHeartbeats 1600000 in
theorem l2bent_any (B cb : Nat) (w : World) (hc : Cur w B cb) : Calls Try.prog 41 #[.pointer (some ⟨cb, 0, none⟩)] w (DrawnI B cb w 9) := by
  obtain ⟨i0, hi, hz0, hz1, hz2⟩ := info_parts intInfo
  have hS := Side.start hc
  have H1 := hide (l2any_any B cb w hc)
  clear hc
  go_enter Try.func41, Try.ntmps41
  go_wp2_with fail
  refine (unhide H1).mono ?_
  rintro e w1 ⟨A, c, zs, rfl, hl, hown, hc1, hg1⟩
  have hS1 := hS.drawn hc1 hg1
  have H2 := hide (below_any B cb 14 (by omega) w1 hc1)
  have HL := hide hl
  have hl8 := hl.1
  clear H1 hS hc1 hg1 hl
  go_wp2_with fail
  refine (unhide H2).mono ?_
  rintro e w2 ⟨v, rfl, ⟨x, rfl, hx0, hx1⟩, hc2, hg2⟩
  have hS2 := hS1.drawn hc2 hg2
  have hown2 := own_drawn hown hg2 hS1.lt
  clear H2 hown hS1 hg2
  by_cases h0 : x = 0
  · subst h0
    have H3 := hide (below_any B cb 12 (by omega) w2 hc2)
    clear hc2
    go_wp2_with fail
    refine (unhide H3).mono ?_
    rintro e w3 ⟨v, rfl, ⟨y, rfl, hy0, hy1⟩, hc3, hg3⟩
    rw [if_pos (by omega)] at hy1
    have hS3 := hS2.drawn hc3 hg3
    have hown3 := own_drawn hown2 hg3 hS2.lt
    have hsz := hS3.size
    clear H3 hown2 hS2 hc3 hg3
    go_wp2_with (first
      | (at_builtin; refine wpList_append_one rfl (.tmp 10) (.tmp 14) 24 rfl w.heap.size 3 i0 (.int .i64 0) 8 Try.underlying24 hi hz0 hz1 hz2 rfl w3 w3 _ _ _ rfl hown3 (.int .i64 (y - 1)) rfl rfl rfl (by omega) (by unfold maxLen; omega) (Below.refl _ _) hsz ?_))
    intro v4 w4 hown4 hb4 _
    rw [i64_snoc2] at hown4
    have hI : Ints w4 w.heap.size v4 (zs ++ [y - 1]) := by
      have h := hown4
      rw [show zs.length + 1 = (zs ++ [y - 1]).length by simp] at h
      exact Ints.of_own h
    have hS4 := hS3.low hb4
    have HL2 := hide (show Lite 9 (zs ++ [y - 1]) from ⟨by simp; omega, fun z hz => by
      rcases List.mem_append.1 hz with hz | hz
      · exact (unhide HL).2 z hz
      · rw [List.mem_singleton] at hz; subst hz; omega⟩)
    have HS := hide hS4
    clear hown3 hS3 hown4 hb4 hS4
    go_wp2
    go_ret
    exact DrawnI.mk hI (unhide HL2) (unhide HS)
  · have HS := hide hS2
    have HL2 := hide ((unhide HL).more (show 8 ≤ 9 by omega))
    by_cases h1 : x = 1
    · subst h1
      by_cases hlen : 0 < zs.length
      · obtain ⟨g, c', hv, hgb, hcc⟩ := own_first hown2 hlen
        injection hv with hv1 hv2 hv3
        subst hv1
        subst hv3
        have H3 := hide (below_any B cb 11 (by omega) w2 hc2)
        have hlen' : (0 : Int) < (zs.length : Int) := by omega
        clear hc2
        go_wp2_with fail
        refine (unhide H3).mono ?_
        rintro e w3 ⟨v, rfl, ⟨y, rfl, hy0, hy1⟩, hc3, hg3⟩
        rw [if_pos (by omega)] at hy1
        have hS3 := hS2.drawn hc3 hg3
        have hown3 := own_drawn hown2 hg3 hS2.lt
        obtain ⟨old, hold⟩ : ∃ old, w3.cell? ⟨g, 0, none⟩ = some old := ⟨_, by rw [hown3.cellAt 0 (by omega)]; exact List.getElem?_eq_getElem (by rw [i64_length]; exact hlen)⟩
        have hfz := hown3.frozenAt 0
        have hst := hown3.stored 0 (.int .i64 (y - 1))
        have hb4 := (Below.refl w.heap.size w3).setCell (p := ⟨g, 0, none⟩) hgb (.int .i64 (y - 1))
        have hS4 := hS3.low hb4
        have hI : Ints (w3.setCell ⟨g, 0, none⟩ (.int .i64 (y - 1))) w.heap.size (.slice (some ⟨g, 0, none⟩) zs.length c) (zs.set 0 (y - 1)) := by
          have h := hst.1
          rw [show (i64s zs).set 0 (.int .i64 (y - 1)) = i64s (zs.set 0 (y - 1)) by unfold i64s; rw [List.map_set]] at h
          have h9 := Ints.of_own (zs := zs.set 0 (y - 1)) (n := zs.length) h
          exact h9
        have HL3 := hide (show Lite 9 (zs.set 0 (y - 1)) from ⟨by rw [List.length_set]; omega, fun z hz => by
          rcases List.mem_or_eq_of_mem_set hz with hz | hz
          · exact (unhide HL).2 z hz
          · subst hz; omega⟩)
        have HS4 := hide hS4
        clear H3 hown2 hS2 hc3 hg3 hown3 hS3 hst hb4 hS4
        go_wp2
        go_ret
        exact DrawnI.mk hI (unhide HL3) (unhide HS4)
      · obtain rfl : zs = [] := List.eq_nil_of_length_eq_zero (by omega)
        have hI : Ints w2 w.heap.size (.slice A 0 c) [] := Ints.of_own hown2
        clear hown2 hc2 hS2 hlen
        go_wp2
        go_ret
        exact DrawnI.mk hI (unhide HL2) (unhide HS)
    · have hI : Ints w2 w.heap.size (.slice A zs.length c) zs := Ints.of_own hown2
      clear hown2 hc2 hS2
      go_wp2
      go_ret
      exact DrawnI.mk hI (unhide HL2) (unhide HS)
end Go.Proofs.Ytoiipedomgefaaa


/-
  WORDS: a row that lies apart from all rows of a list; it is put behind the list, or at a place of it. Nothing here speaks of a function of the program.
-/

namespace Go.Proofs.Ytoiipedomgefaaa
set_option maxRecDepth 100000
open Go.RowKit

/-- A list of rows and a row that lies apart from all of it. -/
def Fresh (w : World) (B : Nat) (v : Value) (zss : List (List Int)) (u : Value) : Prop := ∃ vs, w.ownsRow B 24 1 v zss.length vs ∧ Inner w B vs zss ∧ ∀ x ∈ vs, Away x u
theorem wpList_push_fresh_keep {ops : Array Oper} {rest : List Oper} {o : Oper} {a : Act} {W : World} {Q : Exit → Act → World → Prop} (hgd : o.guard = none) (sl x : Operand)
    (ho : o.op = .call { callee := .builtin .append, args := #[sl, x], argTypes := #[26, 26] })
    (base : Nat) (wr : World) (v u : Value) (zss : List (List Int)) (zs : List Int) (hs : a.eval sl = v) (hx : a.eval x = .slice (some ⟨wr.heap.size, 0, none⟩) 1 1) (hW : W = wr.alloc (.cells #[u] 24))
    (hS : Fresh wr base v zss u) (hu : Ints wr base u zs) (hn : zss.length ≤ 1048576) (hbase : base ≤ wr.heap.size)
    (K : ∀ v' w', IntsS w' base v' (zss ++ [zs]) → Below base wr w' → KeepI wr w' → wpList Try.prog ops Q rest (a.put o.dst v') w') : wpList Try.prog ops Q (o :: rest) a W := by
  obtain ⟨i0, hi, hz0, hz1, hz2⟩ := info_parts rowsInfo
  obtain ⟨vs, hown, hin, ha⟩ := hS
  obtain ⟨A1, c1, rfl⟩ := hu.slice
  refine wpList_append_one hgd sl x 26 ho base 24 i0 (.slice none 0 0) 24 Try.underlying26 hi hz0 hz1 hz2 rfl wr wr v _ _ hs hown _ hx hW rfl (by omega) (by unfold maxLen; omega) (Below.refl _ _) hbase fun v' w' h1 h2 h3 => K v' w' ?_ h2 (KeepI.of_grown hown h3)
  have hk := KeepI.of_grown hown h3
  refine ⟨vs ++ [.slice A1 zs.length c1], by rw [List.length_append]; exact h1, ?_⟩
  exact (hin.keepI hk).push (hu.keepI hk) ha

theorem IntsS.putFresh {w : World} {B g n cap k : Nat} {zss : List (List Int)} {z : List Int} {u : Value} (h : Fresh w B (.slice (some ⟨g, 0, none⟩) n cap) zss u) (hu : Ints w B u z) :
    IntsS (w.setCell ⟨g, k, none⟩ u) B (.slice (some ⟨g, 0, none⟩) n cap) (zss.set k z) ∧ KeepI w (w.setCell ⟨g, k, none⟩ u) := by
  obtain ⟨vs, h2, h3, ha⟩ := h
  have hl : n = zss.length := by
    rcases h2.2 with ⟨hv, hz⟩ | ⟨g', cap', cur, hv, _⟩
    · injection hv with _ h3; omega
    · injection hv
  subst hl
  have st := h2.stored k u
  have hk := KeepI.of_grown h2 st.2
  refine ⟨⟨vs.set k u, by rw [List.length_set]; exact st.1, ?_⟩, hk⟩
  exact (h3.keepI hk).set k (hu.keepI hk) ha
/-- A list of two rows that was just built. -/
theorem IntsS.two {w : World} {B : Nat} {u v : Value} {p q : List Int} (hp : Ints w B u p) (hq : Ints w B v q) (ha : Away u v) (hB : B ≤ w.heap.size) :
    IntsS (w.alloc (.cells #[u, v] 24)) B (.slice (some ⟨w.heap.size, 0, none⟩) 2 2) [p, q] := by
  have hal := (Below.refl w.heap.size w).alloc (Nat.le_refl _) (.cells #[u, v] 24)
  refine ⟨[u, v], ⟨rfl, .inr ⟨w.heap.size, 2, #[u, v], rfl, hB, heap_alloc_new w _, Nat.le_refl _, by unfold maxLen; omega, rfl, rfl⟩⟩, ?_⟩
  have h1 := (Inner.nil (w.alloc (.cells #[u, v] 24)) B).push (hp.below hal) (fun x hx => by simp at hx)
  exact h1.push (hq.below hal) (fun x hx => by simp at hx; subst hx; exact ha)
theorem away_since {w : World} {B : Nat} {u v : Value} {zs : List Int} (hu : Ints w B u zs) (hv : Since w.heap.size v) : Away u v := by
  unfold Away
  cases h : u.ownBlock with
  | none => exact .inl rfl
  | some k =>
    refine .inr fun e => ?_
    have h1 := hv k e.symm
    have h2 := hu.until_ k h
    omega

theorem Fresh.two {w : World} {B : Nat} {u v r : Value} {p q : List Int} (hp : Ints w B u p) (hq : Ints w B v q) (ha : Away u v) (hr1 : Away u r) (hr2 : Away v r) (hB : B ≤ w.heap.size) :
    Fresh (w.alloc (.cells #[u, v] 24)) B (.slice (some ⟨w.heap.size, 0, none⟩) 2 2) [p, q] r := by
  have hal := (Below.refl w.heap.size w).alloc (Nat.le_refl _) (.cells #[u, v] 24)
  refine ⟨[u, v], ⟨rfl, .inr ⟨w.heap.size, 2, #[u, v], rfl, hB, heap_alloc_new w _, Nat.le_refl _, by unfold maxLen; omega, rfl, rfl⟩⟩, ?_, ?_⟩
  · have h1 := (Inner.nil (w.alloc (.cells #[u, v] 24)) B).push (hp.below hal) (fun x hx => by simp at hx)
    exact h1.push (hq.below hal) (fun x hx => by simp at hx; subst hx; exact ha)
  · intro x hx
    simp only [List.mem_cons, List.not_mem_nil, or_false] at hx
    rcases hx with rfl | rfl
    · exact hr1
    · exact hr2
end Go.Proofs.Ytoiipedomgefaaa


/-
  DRAWS OF LISTS: spec.l3List, by its contract.
-/

namespace Go.Proofs.Ytoiipedomgefaaa
set_option maxRecDepth 100000
open Go.RowKit

theorem IntsS.fresh {w0 w : World} {B cb : Nat} {v u : Value} {zss : List (List Int)} {zs : List Int} (h : IntsS w0 B v zss) (hg : w0.grownBy w (some cb)) (hc : cb < B) (hu : Ints w w0.heap.size u zs) : Fresh w B v zss u := by
  obtain ⟨vs, h1, h2⟩ := h
  exact ⟨vs, own_drawn h1 hg hc, h2.drawn hg hc, h2.away_new hu.since (Nat.le_refl _)⟩
theorem wpList_push_fresh {ops : Array Oper} {rest : List Oper} {o : Oper} {a : Act} {W : World} {Q : Exit → Act → World → Prop} (hgd : o.guard = none) (sl x : Operand)
    (ho : o.op = .call { callee := .builtin .append, args := #[sl, x], argTypes := #[26, 26] })
    (base : Nat) (wr : World) (v u : Value) (zss : List (List Int)) (zs : List Int) (hs : a.eval sl = v) (hx : a.eval x = .slice (some ⟨wr.heap.size, 0, none⟩) 1 1) (hW : W = wr.alloc (.cells #[u] 24))
    (hS : Fresh wr base v zss u) (hu : Ints wr base u zs) (hn : zss.length ≤ 1048576) (hbase : base ≤ wr.heap.size)
    (K : ∀ v' w', IntsS w' base v' (zss ++ [zs]) → Below base wr w' → wpList Try.prog ops Q rest (a.put o.dst v') w') : wpList Try.prog ops Q (o :: rest) a W := by
  obtain ⟨i0, hi, hz0, hz1, hz2⟩ := info_parts rowsInfo
  obtain ⟨vs, hown, hin, ha⟩ := hS
  obtain ⟨A1, c1, rfl⟩ := hu.slice
  refine wpList_append_one hgd sl x 26 ho base 24 i0 (.slice none 0 0) 24 Try.underlying26 hi hz0 hz1 hz2 rfl wr wr v _ _ hs hown _ hx hW rfl (by omega) (by unfold maxLen; omega) (Below.refl _ _) hbase fun v' w' h1 h2 h3 => K v' w' ?_ h2
  have hk := KeepI.of_grown hown h3
  refine ⟨vs ++ [.slice A1 zs.length c1], by rw [List.length_append]; exact h1, ?_⟩
  exact (hin.keepI hk).push (hu.keepI hk) ha
theorem IntsS.putDrawn {w0 w : World} {B cb g n cap k : Nat} {zss : List (List Int)} {z : List Int} {u : Value} (h : IntsS w0 B (.slice (some ⟨g, 0, none⟩) n cap) zss) (hg : w0.grownBy w (some cb)) (hc : cb < B) (hu : Ints w w0.heap.size u z) (hB : B ≤ w0.heap.size) :
    IntsS (w.setCell ⟨g, k, none⟩ u) B (.slice (some ⟨g, 0, none⟩) n cap) (zss.set k z) := by
  have hl := h.len
  subst hl
  obtain ⟨vs, h2, h3⟩ := h
  have o := own_drawn h2 hg hc
  have ha := h3.away_new hu.since (Nat.le_refl _)
  have st := o.stored k u
  have hk := KeepI.of_grown o st.2
  refine ⟨vs.set k u, by rw [List.length_set]; exact st.1, ?_⟩
  exact ((h3.drawn hg hc).keepI hk).set k ((hu.low hB).keepI hk) ha
/-- A list of rows that was drawn. -/
def DrawnSS (B cb : Nat) (w : World) (e : Ending) (w' : World) : Prop :=
  ∃ A c zss, e = .returned (.slice A zss.length c) ∧ zss.length ≤ 4 ∧ (∀ z ∈ zss, Lite 9 z) ∧ IntsS w' w.heap.size (.slice A zss.length c) zss ∧ Cur w' B cb ∧ w.grownBy w' (some cb)
theorem DrawnSS.mk {B cb : Nat} {w w' : World} {v : Value} {zss : List (List Int)} (hI : IntsS w' w.heap.size v zss) (hn : zss.length ≤ 4) (hl : ∀ z ∈ zss, Lite 9 z) (h : Side B cb w w') : DrawnSS B cb w (.returned v) w' := by
  obtain ⟨A, c, rfl⟩ := hI.slice
  exact ⟨A, c, zss, rfl, hn, hl, hI, h.cur, h.gr⟩

set_option maxHeartbeats 1600000 in
theorem l3list_any (B cb : Nat) (w : World) (hc : Cur w B cb) : Calls Try.prog 36 #[.pointer (some ⟨cb, 0, none⟩)] w (DrawnSS B cb w) := by
  have hI0 := IntsS.made0 w w.heap.size (Nat.le_refl _)
  have hS0 := (Side.start hc).below ((Below.refl w.heap.size w).alloc (Nat.le_refl _) (.cells #[] 24))
  have H1 := hide (below_any B cb 5 (by omega) _ hS0.cur)
  clear hc
  go_enter Try.func36, Try.ntmps36
  go_wp2_with fail
  refine (unhide H1).mono ?_
  rintro e w1 ⟨v, rfl, ⟨x, rfl, hx0, hx1⟩, hc1, hg1⟩
  rw [if_pos (by omega)] at hx1
  obtain ⟨n, rfl⟩ : ∃ n : Nat, x = n := ⟨x.toNat, by omega⟩
  have hn4 : n ≤ 4 := by omega
  have hS1 := hS0.drawn hc1 hg1
  have hI1 := hI0.drawn hg1 hS0.lt
  clear H1 hS0 hI0 hc1 hg1 hx0 hx1
  go_wp2
  go_loopw [3, 5] (fun v i wr => ∃ (k : Nat) (zss : List (List Int)), k ≤ n ∧ i = .int .i64 k ∧ zss.length = k ∧ IntsS wr w.heap.size v zss ∧ Hid (∀ z ∈ zss, Lite 9 z) ∧ Side B cb w wr) (fun _ i _ => n - (intOf i).toNat)
  case atStart => exact ⟨0, [], Nat.zero_le _, rfl, rfl, hI1, fun z hz => by simp at hz, hS1⟩
  case round =>
    obtain ⟨k, zss, hk, rfl, hzl, hI, hL, hS⟩ := hrel
    clear hI1 hS1
    by_cases hlt : k < n
    · have H2 := hide (below_any B cb 5 (by omega) wr hS.cur)
      have HZL := hide hzl
      clear hzl
      go_wp2_with fail
      refine (unhide H2).mono ?_
      rintro e w2 ⟨v, rfl, ⟨y, rfl, hy0, hy1⟩, hc2, hg2⟩
      rw [if_pos (by omega)] at hy1
      obtain ⟨m, rfl⟩ : ∃ m : Nat, y = m := ⟨y.toNat, by omega⟩
      have hS2 := hS.drawn hc2 hg2
      have hI2 := hI.drawn hg2 hS.lt
      have H3 := hide (l2draw_any B cb m (by omega) w2 hc2)
      have hm4 : m ≤ 4 := by omega
      clear H2 hS hI hc2 hg2 hy0 hy1
      go_wp2_with fail
      refine (unhide H3).mono ?_
      rintro e w3 ⟨A3, c3, zs, rfl, hl, hown, hc3, hg3⟩
      have hu := Ints.of_own hown
      have hF := hI2.fresh hg3 hS2.lt hu
      have hS3 := hS2.drawn hc3 hg3
      have hu3 := hu.low hS2.size
      have hlen : zss.length ≤ 1048576 := by have := unhide HZL; omega
      have hL2 := hide (show ∀ z ∈ zss ++ [zs], Lite 9 z from fun z hz => by
        rcases List.mem_append.1 hz with hz | hz
        · exact unhide hL z hz
        · rw [List.mem_singleton] at hz; subst hz; exact hl.more (by omega))
      have hsz := hS3.size
      clear H3 hl hown hu hI2 hS2 hc3 hg3 hL
      go_wp2_with (first
        | (at_builtin; refine wpList_push_fresh rfl (.tmp 14) (.tmp 19) rfl w.heap.size w3 _ _ zss zs rfl rfl rfl hF hu3 hlen hsz ?_))
      intro v4 w4 hI4 hb4
      have hS4 := hS3.low hb4
      have hlen4 : (zss ++ [zs]).length = k + 1 := by rw [List.length_append, unhide HZL]; rfl
      clear hF hu3 hS3 hb4
      go_wp2
      go_roundw
      case rel => exact ⟨k + 1, zss ++ [zs], by omega, by go_num, hlen4, hI4, hL2, hS4⟩
      case measure => simp [intOf]; omega
    · obtain rfl : n = k := by omega
      subst hzl
      obtain ⟨A3, c3, rfl⟩ := hI.slice
      have HL := hide (unhide hL)
      by_cases h0 : 0 < zss.length
      · have H4 := hide (once_any B cb 12 (by omega) wr hS.cur)
        have h0' : (0 : Int) < (zss.length : Int) := by omega
        go_wp2_with fail
        refine (unhide H4).mono ?_
        rintro e w5 ⟨v, rfl, ⟨b, rfl⟩, hc5, hg5⟩
        have hS5 := hS.drawn hc5 hg5
        have hI5 := hI.drawn hg5 hS.lt
        clear H4 hS hI hg5
        cases b with
        | false =>
          have HS := hide hS5
          clear hS5 hc5
          go_wp2
          go_ret
          exact DrawnSS.mk hI5 hn4 (unhide HL) (unhide HS)
        | true =>
          obtain ⟨g, rfl⟩ := hI5.shape h0
          have H5 := hide (l2bent_any B cb w5 hc5)
          clear hc5
          go_wp2_with fail
          refine (unhide H5).mono ?_
          rintro e w6 ⟨A6, c6, zs, rfl, hl, hu, hc6, hg6⟩
          obtain ⟨⟨old, hold⟩, hfz, hge⟩ := (hI5.drawn hg6 hS5.lt).old (k := 0) h0
          have hI7 := hI5.putDrawn (k := 0) hg6 hS5.lt hu hS5.size
          have hS7 := (hS5.drawn hc6 hg6).low ((Below.refl w.heap.size w6).setCell (p := ⟨g, 0, none⟩) hge (.slice A6 zs.length c6))
          have hL7 := hide (show ∀ z ∈ zss.set 0 zs, Lite 9 z from fun z hz => by
            rcases List.mem_or_eq_of_mem_set hz with hz | hz
            · exact unhide HL z hz
            · subst hz; exact hl)
          have hlen7 : (zss.set 0 zs).length ≤ 4 := by rw [List.length_set]; exact hn4
          have HS := hide hS7
          clear H5 hl hu hc6 hg6 hI5 hS5 hS7 hge
          go_wp2
          go_ret
          exact DrawnSS.mk hI7 hlen7 (unhide hL7) (unhide HS)
      · obtain rfl : zss = [] := List.eq_nil_of_length_eq_zero (by omega)
        have HS := hide hS
        clear hS h0
        go_wp2
        go_ret
        exact DrawnSS.mk hI hn4 (unhide HL) (unhide HS)

/-- What stood before the cursor was made is as it was. -/
theorem Side.under {B cb : Nat} {w w1 w2 : World} (h : Side B cb w1 w2) (hb : Below w.heap.size w w1) (hc : w.heap.size ≤ cb) : Below w.heap.size w w2 :=
  hb.grown h.gr hb.size (fun k hk => by injection hk with hk; omega)
/-- A row that was drawn from the bytes. -/
def DrewI (w : World) (L : Nat) (e : Ending) (w' : World) : Prop := ∃ A c zs, e = .returned (.slice A zs.length c) ∧ Lite L zs ∧ Ints w' w.heap.size (.slice A zs.length c) zs ∧ Below w.heap.size w w'
def DrewII (w : World) (L : Nat) (e : Ending) (w' : World) : Prop :=
  ∃ A c p A' c' q, e = .returned (.tuple #[.slice A p.length c, .slice A' q.length c']) ∧ Lite L p ∧ Lite L q ∧ Ints w' w.heap.size (.slice A p.length c) p ∧ Ints w' w.heap.size (.slice A' q.length c') q ∧ Below w.heap.size w w'
def DrewSB (w : World) (e : Ending) (w' : World) : Prop :=
  ∃ A c zss b, e = .returned (.tuple #[.slice A zss.length c, .bool b]) ∧ zss.length ≤ 4 ∧ (∀ z ∈ zss, Lite 9 z) ∧ IntsS w' w.heap.size (.slice A zss.length c) zss ∧ Below w.heap.size w w'
theorem DrewI.mk {L : Nat} {w w' : World} {v : Value} {zs : List Int} (hI : Ints w' w.heap.size v zs) (hl : Lite L zs) (h : Below w.heap.size w w') : DrewI w L (.returned v) w' := by
  obtain ⟨A, c, rfl⟩ := hI.slice
  exact ⟨A, c, zs, rfl, hl, hI, h⟩
theorem DrewII.mk {L : Nat} {w w' : World} {v v' : Value} {p q : List Int} (hp : Ints w' w.heap.size v p) (hq : Ints w' w.heap.size v' q) (hl : Lite L p) (hl' : Lite L q) (h : Below w.heap.size w w') : DrewII w L (.returned (.tuple #[v, v'])) w' := by
  obtain ⟨A, c, rfl⟩ := hp.slice
  obtain ⟨A', c', rfl⟩ := hq.slice
  exact ⟨A, c, p, A', c', q, rfl, hl, hl', hp, hq, h⟩

end Go.Proofs.Ytoiipedomgefaaa


/-
  A list of rows that is read place by place.
-/

namespace Go.Proofs.Ytoiipedomgefaaa
set_option maxRecDepth 100000
open Go.RowKit

/-- How a list of rows reads, place by place, in every world behind it. -/
def AtS (w : World) (A : Option Addr) (n : Nat) (zss : List (List Int)) : Prop :=
  zss.length = n ∧ ∀ wr, Below w.heap.size w wr → ∀ k, k < n → ∃ ad A' c' z, A = some ad ∧ zss[k]? = some z ∧ wr.cell? (ad.add k) = some (.slice A' z.length c') ∧ Arg wr wr.heap.size A' z.length c' z
theorem IntsS.atS {w : World} {B n c : Nat} {A : Option Addr} {zss : List (List Int)} (h : IntsS w B (.slice A n c) zss) (hsm : ∀ z ∈ zss, z.length ≤ 1048576 ∧ Small z) : AtS w A n zss :=
  ⟨h.len, fun wr hb k hk => by
    obtain ⟨ad, A', c', z, hA, hz, hc, hI⟩ := (h.below hb).at_ hk
    have hs := hsm z (List.mem_of_getElem? hz)
    exact ⟨ad, A', c', z, hA, hz, hc, hI.arg hs.1 hI.cap hs.2⟩⟩
/-- 'list[f:]', f a place of it. -/
theorem AtS.rest {w : World} {n f : Nat} {ad : Addr} {zss : List (List Int)} (h : AtS w (some ad) n zss) (hf : f ≤ n) : AtS w (some (ad.add f)) (n - f) (zss.drop f) :=
  ⟨by rw [List.length_drop, h.1], fun wr hb k hk => by
    obtain ⟨ad', A', c', z, hA, hz, hc, hI⟩ := h.2 wr hb (f + k) (by omega)
    injection hA with hA
    subst hA
    exact ⟨_, A', c', z, rfl, by rw [List.getElem?_drop]; exact hz, by rw [add_of_add]; exact hc, hI⟩⟩
theorem AtS.below {w w' : World} {n : Nat} {A : Option Addr} {zss : List (List Int)} (h : AtS w A n zss) (hb : Below w.heap.size w w') : AtS w' A n zss :=
  ⟨h.1, fun wr hb' k hk => h.2 wr (hb.trans (hb'.mono hb.size)) k hk⟩
end Go.Proofs.Ytoiipedomgefaaa


/-
  LISTS OF ROWS AS ARGUMENTS: how they read; szIntS, szIntSS, toIntSS by their contracts.
-/

namespace Go.Proofs.Ytoiipedomgefaaa
set_option maxRecDepth 100000
open Go.RowKit Go.ChangeShapes Go.WideShapes Go.ChangeAt

/-- The slice value '.slice A n c' holds rows that read as the lists zss, all below block B. -/
structure ReadsS (w : World) (B : Nat) (A : Option Addr) (n : Nat) (zss : List (List Int)) : Prop where
  len : zss.length = n
  rows : 0 < n → ∃ ad, A = some ad ∧ ad.block < B ∧ ∀ (j : Nat) z, zss[j]? = some z → ∃ A' c', w.cell? (ad.add j) = some (.slice A' z.length c') ∧ Reads w B A' z.length (i64s z)
theorem ReadsS.below {w w' : World} {B n : Nat} {A : Option Addr} {zss : List (List Int)} (h : ReadsS w B A n zss) (hb : Below B w w') : ReadsS w' B A n zss :=
  ⟨h.len, fun hn => by
    obtain ⟨ad, e, h1, h2⟩ := h.rows hn
    refine ⟨ad, e, h1, fun j z hz => ?_⟩
    obtain ⟨A', c', h3, h4⟩ := h2 j z hz
    exact ⟨A', c', (hb.cell (by rw [block_of_add]; exact h1)).trans h3, h4.below hb⟩⟩
theorem ReadsS.at_ {w : World} {B n k : Nat} {A : Option Addr} {zss : List (List Int)} (h : ReadsS w B A n zss) (hk : k < n) : ∃ ad A' c' z, A = some ad ∧ zss[k]? = some z ∧ w.cell? (ad.add k) = some (.slice A' z.length c') ∧ Reads w B A' z.length (i64s z) := by
  obtain ⟨ad, e, h1, h2⟩ := h.rows (by omega)
  have hz : zss[k]? = some (zss[k]'(by rw [h.len]; exact hk)) := List.getElem?_eq_getElem _
  obtain ⟨A', c', h3, h4⟩ := h2 k _ hz
  exact ⟨ad, A', c', _, e, hz, h3, h4⟩
theorem list_of {β : Type} {P : Nat → β → Prop} : ∀ n : Nat, (∀ i, i < n → ∃ z, P i z) → ∃ l : List β, l.length = n ∧ ∀ (i : Nat) z, l[i]? = some z → P i z
  | 0, _ => ⟨[], rfl, fun i z h => by simp at h⟩
  | n + 1, h => by
    obtain ⟨l, h1, h2⟩ := list_of n fun i hi => h i (by omega)
    obtain ⟨z, hz⟩ := h n (by omega)
    refine ⟨l ++ [z], by simp [h1], fun i y hy => ?_⟩
    by_cases hi : i < l.length
    · rw [List.getElem?_append_left hi] at hy
      exact h2 i y hy
    · rw [List.getElem?_append_right (by omega)] at hy
      have h0 : i - l.length = 0 := by
        have := (List.getElem?_eq_some_iff.1 hy).1
        simp at this
        omega
      rw [h0] at hy
      simp at hy
      subst hy
      rw [show i = n by omega]
      exact hz
/-- An argument [][]int, as 'ReadsS'. -/
theorem open_intss_reads {H : Type} {enc : TypeId × Value → H} {P : Program} {w : World} {r : Reach} {b0 t e ei : TypeId} {v : Value} {d : DataW H} {ps : List MemPlace} (ht : P.underlying t = some (.slice e)) (he : P.underlying e = some (.slice ei)) (hei : P.underlying ei = some (.int .i64)) (hc : P.cellsOf e = 1) (hci : P.cellsOf ei = 1)
    (hval : Value.okWide P w r b0 t v) (h : DataW.Trod enc P w 0 (fun _ => true) true t v d ps) (hlt : ∀ x ∈ ps, x.block < w.heap.size) :
    ∃ (A : Option Addr) (n c : Nat) (zss : List (List Int)), v = .slice A n c ∧ ReadsS w w.heap.size A n zss ∧ n ≤ maxLen ∧ ∀ z ∈ zss, z.length ≤ maxLen ∧ Small z := by
  obtain ⟨a0, len, cap, rfl⟩ := okWide_slice ht hval
  obtain ⟨fuel, hf⟩ := h
  rcases DataW.trod_slice ht hf with ⟨hcs, hx⟩ | ⟨a, len', cap', elems, rest, m, _, hcs, hx, _, hl, hm, hlen, hel, _, _⟩
  · simp [Value.cells] at hcs
    obtain ⟨rfl, rfl, rfl⟩ := hcs
    exact ⟨none, 0, 0, [], rfl, ⟨rfl, fun h => absurd h (by omega)⟩, Nat.zero_le _, by simp⟩
  · simp [Value.cells] at hcs
    obtain ⟨rfl, rfl, rfl⟩ := hcs
    simp only [Prod.mk.injEq] at hx
    obtain ⟨_, rfl⟩ := hx
    have each : ∀ i, i < len → ∃ z : List Int, (∃ A' c', w.cell? (a.add i) = some (.slice A' z.length c') ∧ Reads w w.heap.size A' z.length (i64s z)) ∧ z.length ≤ maxLen ∧ Small z := by
      intro i hi
      have h1 := hel i hi
      rw [hc, Nat.mul_one, List.getElem?_eq_getElem (by omega), Option.bind_eq_some_iff] at h1
      obtain ⟨cs', hcs', htr⟩ := h1
      have hq : ∀ x ∈ (elems[i]'(by omega)).2, x.block < w.heap.size := fun x hx => hlt x (by
        refine List.mem_append.2 (.inr (List.mem_flatMap.2 ⟨elems[i]'(by omega), List.mem_append.2 (.inl (List.getElem_mem _)), hx⟩))
      )
      rcases open_ints he hei hci htr with ⟨rfl, _⟩ | ⟨a', len'', cap'', zs, rfl, _, hl', hm', hz, hx', hcell, hws⟩
      · exact ⟨[], ⟨none, 0, cell_of_cells?_one hcs', Reads.none_⟩, Nat.zero_le _, fun z hz => by simp at hz⟩
      · simp only [if_true] at hz
        have e1 : (zs.take len'').length = len'' := by rw [List.length_take]; omega
        refine ⟨zs.take len'', ⟨some a', cap'', by rw [e1]; exact cell_of_cells?_one hcs', ?_⟩, by omega, small_of_wf fun z hz => hws z (List.mem_of_mem_take hz)⟩
        refine ⟨by rw [i64_length], fun hn => ⟨a', rfl, ?_, fun j u hu => ?_⟩⟩
        · rw [hx'] at hq
          exact lt_of_row (j := 0) hq (by omega)
        · unfold i64s at hu
          rw [List.getElem?_map, List.getElem?_take] at hu
          by_cases hj : j < len''
          · rw [if_pos hj] at hu
            rw [hcell j (by omega), ← hu, List.getD_eq_getElem?_getD]
            have : zs[j]? = some zs[j] := List.getElem?_eq_getElem (by omega)
            rw [this]; rfl
          · rw [if_neg hj] at hu; cases hu
    obtain ⟨zss, hz1, hz2⟩ := list_of len each
    refine ⟨some a, len, cap, zss, rfl, ⟨hz1, fun hn => ⟨a, rfl, ?_, fun j z hz => (hz2 j z hz).1⟩⟩, by omega, fun z hz => ?_⟩
    · rw [hc] at hlt
      refine lt_of_row (m := (elems.length + rest.length) * 1) (j := 0) (fun x hx => hlt x (List.mem_append.2 (.inl hx))) (by omega)
    · obtain ⟨i, hi, rfl⟩ := List.getElem_of_mem hz
      exact (hz2 i _ (List.getElem?_eq_getElem hi)).2
theorem cellsRow : Try.prog.cellsOf 24 = 1 := by kernel_rfl

end Go.Proofs.Ytoiipedomgefaaa


/-
  impl.sumOfAll: a list of rows that reads, by its contract. (Written by wip/tools/mkall.py.)
-/

namespace Go.Proofs.Ytoiipedomgefaaa
set_option maxRecDepth 100000
open Go.RowKit

theorem flat_part {s : Bool} {L : Nat} {zss : List (List Int)} {k : Nat} {z : List Int} (h : zss[k]? = some z) :
    flatAll s L (zss.take (k + 1)) 0 = flatAll s L (zss.take k) 0 ++ z.map (fun v => v + ((if s then L - tot (zss.take k) - z.length else tot (zss.take k) : Nat) : Int)) := by
  rw [take_snoc_r h, flatAll_snoc]
  simp only [Nat.zero_add]
theorem ReadsS.at2 {w wr : World} {B n k : Nat} {A : Option Addr} {zss : List (List Int)} (h : ReadsS w B A n zss) (hb : Below B w wr) (hk : k < n) : ∃ ad A' c' z, A = some ad ∧ zss[k]? = some z ∧ wr.cell? (ad.add k) = some (.slice A' z.length c') ∧ Reads w B A' z.length (i64s z) := by
  obtain ⟨ad, e, h1, h2⟩ := h.rows (by omega)
  have hz : zss[k]? = some (zss[k]'(by rw [h.len]; exact hk)) := List.getElem?_eq_getElem _
  obtain ⟨A', c', h3, h4⟩ := h2 k _ hz
  exact ⟨ad, A', c', _, e, hz, (hb.cell (by rw [block_of_add]; exact h1)).trans h3, h4⟩
theorem flatAll_length (s : Bool) (L : Nat) : ∀ (l : List (List Int)) (n : Nat), (flatAll s L l n).length = tot l
  | [], _ => by simp [flatAll, tot]
  | z :: l, n => by
    rw [flatAll, List.length_append, flatAll_length s L l]
    simp [tot]
theorem map_take_step {z : List Int} {j : Nat} {x r : Int} (h : z[j]? = some x) : (z.take (j + 1)).map (fun v => v + r) = (z.take j).map (fun v => v + r) ++ [x + r] := by rw [take_snoc_i h, List.map_append]; rfl
theorem i64s_app (a b : List Int) : i64s (a ++ b) = i64s a ++ i64s b := by unfold i64s; rw [List.map_append]

set_option maxHeartbeats 1600000 in
theorem sumall_false (A : Option Addr) (n c B : Nat) (zss : List (List Int)) (w : World) (hS : ReadsS w B A n zss) (hB : B ≤ w.heap.size) (hn : n ≤ 1048576) (hsm : ∀ z ∈ zss, z.length ≤ 1048576 ∧ Small z) :
    Calls Try.prog 33 #[.bool false, .slice A n c] w (GivesIB w (joinsR false zss) (allFit zss)) := by
  obtain ⟨i0, hi, hz0, hz1, hz2⟩ := info_parts intInfo
  have hl := hS.len
  have HL := hide hl
  have HSM := hide hsm
  clear hl hsm
  go_enter Try.func33, Try.ntmps33
  go_wp2
  go_loopw [6, 8, 17] (fun lv _ i wr => ∃ k : Nat, k ≤ n ∧ i = .int .i64 k ∧ lv = .int .i64 (tot (zss.take k) : Int) ∧ tot (zss.take k) ≤ 8 ∧ Below w.heap.size w wr ∧ Hid (∀ z ∈ zss.take k, isP z = true)) (fun _ _ i _ => n - (intOf i).toNat)
  case atStart => exact ⟨0, Nat.zero_le _, rfl, rfl, by simp [tot], Below.refl _ _, fun z hz => by simp at hz⟩
  case round =>
    obtain ⟨k, hk, rfl, rfl, h8, hbw, hP⟩ := hrel
    by_cases hlt : k < n
    · obtain ⟨ad, A1, c1, z, rfl, hz, hcell, hrd⟩ := (hS.below (hbw.mono hB)).at_ hlt
      obtain ⟨hzl, hzs⟩ := unhide HSM z (List.mem_of_getElem? hz)
      obtain ⟨b, hb⟩ : ∃ b, isP z = b := ⟨_, rfl⟩
      have H1 := hide (iisperm_any A1 z.length c1 B z b hb wr hrd (Nat.le_trans hB hbw.size) hzl hzs)
      have HZ := hide hz
      have hts := hide (tot_step hz)
      have htt := hide (tot_take zss (k + 1))
      cases b with
      | false =>
        have hno := hide (allFit_no1 (List.mem_of_getElem? hz) hb)
        clear hz hb hrd hP hzs
        go_wp2_with fail
        refine (unhide H1).mono ?_
        rintro e w2 ⟨rfl, hb⟩
        have hb2 := below_after hbw hb
        clear H1 hb hbw
        go_wp2
        go_ret2
        rw [joinsR_no (unhide hno), unhide hno]
        exact GivesIB.mk false (v := .slice none 0 0) (Ints.nil _ _) hb2
      | true =>
        by_cases hle : tot (zss.take k) + z.length ≤ 8
        · have hnext : Hid (∀ z ∈ zss.take (k + 1), isP z = true) := hide (fun y hy => by
            rw [take_snoc_r hz] at hy
            rcases List.mem_append.1 hy with h | h
            · exact unhide hP y h
            · rw [List.mem_singleton] at h
              subst h
              exact hb)
          have hle2 : tot (zss.take (k + 1)) ≤ 8 := by rw [unhide hts]; exact hle
          have hcast : (tot (zss.take k) : Int) + (z.length : Int) = (tot (zss.take (k + 1)) : Int) := by rw [unhide hts]; omega
          have hgt : decide ((8 : Int) < (tot (zss.take (k + 1)) : Int)) = false := by simp; omega
          have hgt' : ¬ 8 < tot (zss.take (k + 1)) := by omega
          clear hz hb hrd hP hzs
          go_wp2_with fail
          refine (unhide H1).mono ?_
          rintro e w2 ⟨rfl, hb⟩
          have hb2 := below_after hbw hb
          clear H1 hb hbw
          go_wp2
          go_roundw
          case rel => exact ⟨k + 1, by omega, by go_num, rfl, hle2, hb2, hnext⟩
          case measure => simp [intOf]; omega
        · have hno := hide (allFit_no2 (l := zss) (by have := unhide htt; rw [unhide hts] at this; omega))
          have hgt : decide ((8 : Int) < (tot (zss.take k) : Int) + (z.length : Int)) = true := by simp; omega
          have hgt' : 8 < tot (zss.take k) + z.length := by omega
          clear hz hb hrd hP hzs
          go_wp2_with fail
          refine (unhide H1).mono ?_
          rintro e w2 ⟨rfl, hb⟩
          have hb2 := below_after hbw hb
          clear H1 hb hbw
          go_wp2
          go_ret2
          rw [joinsR_no (unhide hno), unhide hno]
          exact GivesIB.mk false (v := .slice none 0 0) (Ints.nil _ _) hb2
    · obtain rfl : n = k := by omega
      rw [List.take_of_length_le (by rw [unhide HL]; exact Nat.le_refl _)] at h8 hP ⊢
      have hyes := hide (allFit_yes (unhide hP) h8)
      have HP := hide (fun z (hz : z ∈ zss) k x hx => isP_range (unhide hP z hz) (k := k) (z := x) hx)
      clear hP
      have hs0 := hbw.size
      go_wp2_with (first
        | (at_make; refine wpList_make_own _ rfl (.const (.int .i64 0)) (.tmp 33) 24 rfl w.heap.size 3 i0 (.int .i64 0) 1 Try.underlying24 hi hz0 hz1 _ _ _ (tot zss) rfl rfl (by first | rfl | omega) (by rw [hz2]; omega) (by unfold maxLen; omega) (by omega) ?_; intro w1 hown hg))
      have hb1 := hbw.grown hg hs0 (by simp)
      clear hg hbw hs0
      go_loopw [9, 11, 12, 14, 37] (fun v _ _ _ i wr => ∃ k : Nat, k ≤ n ∧ i = .int .i64 k ∧ Below w.heap.size w wr ∧ wr.ownsRow w.heap.size 3 1 v (tot (zss.take k)) (i64s (flatAll false (tot zss) (zss.take k) 0))) (fun _ _ _ _ i _ => n - (intOf i).toNat)
      case atStart => exact ⟨0, Nat.zero_le _, rfl, hb1, hown⟩
      case round =>
        obtain ⟨k, hk, rfl, hbw, hown'⟩ := hrel
        clear hown hb1
        by_cases hlt : k < n
        · obtain ⟨ad, A1, c1, z, rfl, hz, hcell, hrd⟩ := hS.at2 (hbw.mono hB) hlt
          have HZ := hide (unhide HP z (List.mem_of_getElem? hz))
          have hstep := hide (flat_part (s := false) (L := tot zss) hz)
          have hts := tot_step hz
          have htt := tot_take zss (k + 1)
          have hFl := flatAll_length false (tot zss) (zss.take k) 0
          obtain ⟨T, hT⟩ : ∃ T, tot (zss.take k) = T := ⟨_, rfl⟩
          rw [hT] at hown' hts hstep hFl
          obtain ⟨r, hr⟩ : ∃ r : Nat, r = T := ⟨_, rfl⟩
          have hr8 : r ≤ 8 := by omega
          obtain ⟨fl, hfl⟩ : ∃ fl, fl = flatAll false (tot zss) (zss.take k) 0 := ⟨_, rfl⟩
          rw [← hfl] at hown' hFl
          obtain ⟨A9, c9, rfl, _⟩ := Reads.of_own hown'
          have hst : wr.ownsRow w.heap.size 3 1 (.slice A9 T c9) (T + 0) (i64s (fl ++ (z.take 0).map (fun v => v + (r : Int)))) := by
            rw [List.take_zero, List.map_nil, List.append_nil, Nat.add_zero]
            exact hown'
          have HTS := hide hts
          have hTL : T + z.length ≤ 8 := by omega
          have HST := hide (show i64s (flatAll false (tot zss) (zss.take (k + 1)) 0) = i64s (fl ++ z.map (fun v => v + (r : Int))) by
            rw [unhide hstep, ← hfl]
            simp only [Bool.false_eq_true, if_false]
            rw [← hr])
          clear hstep hts htt hT hfl hown' hz hFl
          subst r
          obtain ⟨wo, rfl⟩ : ∃ wo : World, wo = wr := ⟨_, rfl⟩
          have hbo := hbw
          go_wp2
          go_loopw [9, 14, 53] (fun v _ i wr => ∃ j : Nat, j ≤ z.length ∧ i = .int .i64 j ∧ Below w.heap.size w wr ∧ wr.ownsRow w.heap.size 3 1 v (T + j) (i64s (fl ++ (z.take j).map (fun v => v + (T : Int))))) (fun _ _ i _ => z.length - (intOf i).toNat)
          case atStart => exact ⟨0, Nat.zero_le _, rfl, hbo, hst⟩
          case round =>
            obtain ⟨j, hj, rfl, hbw2, hown⟩ := hrel
            clear hst hbo
            by_cases hlj : j < z.length
            · obtain ⟨ad1, u, rfl, had, hu, hc⟩ := (hrd.below (hbw2.mono hB)).at_ hlj
              obtain ⟨x, hx, rfl⟩ := i64_at hu
              obtain ⟨hx1, hx2⟩ := unhide HZ j x hx
              have hnext := hide (map_take_step (r := (T : Int)) hx)
              have hs2 := hbw2.size
              clear hu hx hrd hbw hcell
              go_wp2_with (first
                | (at_builtin; refine wpList_append_one rfl (.tmp 57) (.tmp 61) 24 rfl w.heap.size 3 i0 (.int .i64 0) 8 Try.underlying24 hi hz0 hz1 hz2 rfl w wr _ _ _ rfl hown (.int .i64 (x + (T : Int))) rfl rfl rfl (by omega) (by unfold maxLen; omega) hbw2 hs2 ?_; intro v2 w2 hown2 hb2 _))
              have e2 : i64s (fl ++ (z.take j).map (fun v => v + (T : Int))) ++ [Value.int .i64 (x + (T : Int))] = i64s (fl ++ (z.take (j + 1)).map (fun v => v + (T : Int))) := by rw [unhide hnext, ← List.append_assoc, i64s_app (fl ++ _)]; rfl
              rw [e2] at hown2
              clear e2 hown hbw2 hnext
              go_roundw
              case rel => exact ⟨j + 1, by omega, by go_num, hb2, hown2⟩
              case measure => simp [intOf]; omega
            · obtain rfl : z.length = j := by omega
              have hown3 : wr.ownsRow w.heap.size 3 1 u9 (tot (zss.take (k + 1))) (i64s (flatAll false (tot zss) (zss.take (k + 1)) 0)) := by
                rw [unhide HST, unhide HTS]
                have h := hown
                rwa [List.take_length] at h
              clear hown hrd hbw hcell
              go_wp2
              go_roundw
              case rel => exact ⟨k + 1, by omega, by go_num, hbw2, hown3⟩
              case measure => simp [intOf]; omega
        · obtain rfl : n = k := by omega
          have hI : Ints wr w.heap.size u9 (joinsR false zss) := by
            have h := hown'
            rw [List.take_of_length_le (by rw [unhide HL]; exact Nat.le_refl _), flat_join, ← joinAll_length false zss] at h
            rw [joinsR_yes (unhide hyes)]
            exact Ints.of_own h
          clear hown'
          go_wp2
          go_ret2
          rw [unhide hyes]
          exact GivesIB.mk true hI hbw

set_option maxHeartbeats 1600000 in
theorem sumall_true (A : Option Addr) (n c B : Nat) (zss : List (List Int)) (w : World) (hS : ReadsS w B A n zss) (hB : B ≤ w.heap.size) (hn : n ≤ 1048576) (hsm : ∀ z ∈ zss, z.length ≤ 1048576 ∧ Small z) :
    Calls Try.prog 33 #[.bool true, .slice A n c] w (GivesIB w (joinsR true zss) (allFit zss)) := by
  obtain ⟨i0, hi, hz0, hz1, hz2⟩ := info_parts intInfo
  have hl := hS.len
  have HL := hide hl
  have HSM := hide hsm
  clear hl hsm
  go_enter Try.func33, Try.ntmps33
  go_wp2
  go_loopw [6, 8, 17] (fun lv _ i wr => ∃ k : Nat, k ≤ n ∧ i = .int .i64 k ∧ lv = .int .i64 (tot (zss.take k) : Int) ∧ tot (zss.take k) ≤ 8 ∧ Below w.heap.size w wr ∧ Hid (∀ z ∈ zss.take k, isP z = true)) (fun _ _ i _ => n - (intOf i).toNat)
  case atStart => exact ⟨0, Nat.zero_le _, rfl, rfl, by simp [tot], Below.refl _ _, fun z hz => by simp at hz⟩
  case round =>
    obtain ⟨k, hk, rfl, rfl, h8, hbw, hP⟩ := hrel
    by_cases hlt : k < n
    · obtain ⟨ad, A1, c1, z, rfl, hz, hcell, hrd⟩ := (hS.below (hbw.mono hB)).at_ hlt
      obtain ⟨hzl, hzs⟩ := unhide HSM z (List.mem_of_getElem? hz)
      obtain ⟨b, hb⟩ : ∃ b, isP z = b := ⟨_, rfl⟩
      have H1 := hide (iisperm_any A1 z.length c1 B z b hb wr hrd (Nat.le_trans hB hbw.size) hzl hzs)
      have HZ := hide hz
      have hts := hide (tot_step hz)
      have htt := hide (tot_take zss (k + 1))
      cases b with
      | false =>
        have hno := hide (allFit_no1 (List.mem_of_getElem? hz) hb)
        clear hz hb hrd hP hzs
        go_wp2_with fail
        refine (unhide H1).mono ?_
        rintro e w2 ⟨rfl, hb⟩
        have hb2 := below_after hbw hb
        clear H1 hb hbw
        go_wp2
        go_ret2
        rw [joinsR_no (unhide hno), unhide hno]
        exact GivesIB.mk false (v := .slice none 0 0) (Ints.nil _ _) hb2
      | true =>
        by_cases hle : tot (zss.take k) + z.length ≤ 8
        · have hnext : Hid (∀ z ∈ zss.take (k + 1), isP z = true) := hide (fun y hy => by
            rw [take_snoc_r hz] at hy
            rcases List.mem_append.1 hy with h | h
            · exact unhide hP y h
            · rw [List.mem_singleton] at h
              subst h
              exact hb)
          have hle2 : tot (zss.take (k + 1)) ≤ 8 := by rw [unhide hts]; exact hle
          have hcast : (tot (zss.take k) : Int) + (z.length : Int) = (tot (zss.take (k + 1)) : Int) := by rw [unhide hts]; omega
          have hgt : decide ((8 : Int) < (tot (zss.take (k + 1)) : Int)) = false := by simp; omega
          have hgt' : ¬ 8 < tot (zss.take (k + 1)) := by omega
          clear hz hb hrd hP hzs
          go_wp2_with fail
          refine (unhide H1).mono ?_
          rintro e w2 ⟨rfl, hb⟩
          have hb2 := below_after hbw hb
          clear H1 hb hbw
          go_wp2
          go_roundw
          case rel => exact ⟨k + 1, by omega, by go_num, rfl, hle2, hb2, hnext⟩
          case measure => simp [intOf]; omega
        · have hno := hide (allFit_no2 (l := zss) (by have := unhide htt; rw [unhide hts] at this; omega))
          have hgt : decide ((8 : Int) < (tot (zss.take k) : Int) + (z.length : Int)) = true := by simp; omega
          have hgt' : 8 < tot (zss.take k) + z.length := by omega
          clear hz hb hrd hP hzs
          go_wp2_with fail
          refine (unhide H1).mono ?_
          rintro e w2 ⟨rfl, hb⟩
          have hb2 := below_after hbw hb
          clear H1 hb hbw
          go_wp2
          go_ret2
          rw [joinsR_no (unhide hno), unhide hno]
          exact GivesIB.mk false (v := .slice none 0 0) (Ints.nil _ _) hb2
    · obtain rfl : n = k := by omega
      rw [List.take_of_length_le (by rw [unhide HL]; exact Nat.le_refl _)] at h8 hP ⊢
      have hyes := hide (allFit_yes (unhide hP) h8)
      have HP := hide (fun z (hz : z ∈ zss) k x hx => isP_range (unhide hP z hz) (k := k) (z := x) hx)
      clear hP
      have hs0 := hbw.size
      go_wp2_with (first
        | (at_make; refine wpList_make_own _ rfl (.const (.int .i64 0)) (.tmp 33) 24 rfl w.heap.size 3 i0 (.int .i64 0) 1 Try.underlying24 hi hz0 hz1 _ _ _ (tot zss) rfl rfl (by first | rfl | omega) (by rw [hz2]; omega) (by unfold maxLen; omega) (by omega) ?_; intro w1 hown hg))
      have hb1 := hbw.grown hg hs0 (by simp)
      clear hg hbw hs0
      go_loopw [9, 11, 12, 14, 37] (fun v _ _ _ i wr => ∃ k : Nat, k ≤ n ∧ i = .int .i64 k ∧ Below w.heap.size w wr ∧ wr.ownsRow w.heap.size 3 1 v (tot (zss.take k)) (i64s (flatAll true (tot zss) (zss.take k) 0))) (fun _ _ _ _ i _ => n - (intOf i).toNat)
      case atStart => exact ⟨0, Nat.zero_le _, rfl, hb1, hown⟩
      case round =>
        obtain ⟨k, hk, rfl, hbw, hown'⟩ := hrel
        clear hown hb1
        by_cases hlt : k < n
        · obtain ⟨ad, A1, c1, z, rfl, hz, hcell, hrd⟩ := hS.at2 (hbw.mono hB) hlt
          have HZ := hide (unhide HP z (List.mem_of_getElem? hz))
          have hstep := hide (flat_part (s := true) (L := tot zss) hz)
          have hts := tot_step hz
          have htt := tot_take zss (k + 1)
          have hFl := flatAll_length true (tot zss) (zss.take k) 0
          obtain ⟨T, hT⟩ : ∃ T, tot (zss.take k) = T := ⟨_, rfl⟩
          rw [hT] at hown' hts hstep hFl
          obtain ⟨r, hr⟩ : ∃ r : Nat, r = tot zss - T - z.length := ⟨_, rfl⟩
          have hr8 : r ≤ 8 := by omega
          have q1 : IntKind.i64.wrap ((tot zss : Int) - (T : Int)) = (tot zss : Int) - (T : Int) := by rw [IntKind.wrap_i64]; omega
          have q2 : IntKind.i64.wrap ((tot zss : Int) - (T : Int) - (z.length : Int)) = (r : Int) := by rw [IntKind.wrap_i64]; omega
          have q3 : (tot zss : Int) - (T : Int) - (z.length : Int) = (r : Int) := by omega
          obtain ⟨fl, hfl⟩ : ∃ fl, fl = flatAll true (tot zss) (zss.take k) 0 := ⟨_, rfl⟩
          rw [← hfl] at hown' hFl
          obtain ⟨A9, c9, rfl, _⟩ := Reads.of_own hown'
          have hst : wr.ownsRow w.heap.size 3 1 (.slice A9 T c9) (T + 0) (i64s (fl ++ (z.take 0).map (fun v => v + (r : Int)))) := by
            rw [List.take_zero, List.map_nil, List.append_nil, Nat.add_zero]
            exact hown'
          have HTS := hide hts
          have hTL : T + z.length ≤ 8 := by omega
          have HST := hide (show i64s (flatAll true (tot zss) (zss.take (k + 1)) 0) = i64s (fl ++ z.map (fun v => v + (r : Int))) by
            rw [unhide hstep, ← hfl]
            simp only [if_true]
            rw [← hr])
          clear hstep hts htt hT hfl hown' hz hFl
          clear hr
          obtain ⟨wo, rfl⟩ : ∃ wo : World, wo = wr := ⟨_, rfl⟩
          have hbo := hbw
          go_wp2
          go_loopw [9, 14, 53] (fun v _ i wr => ∃ j : Nat, j ≤ z.length ∧ i = .int .i64 j ∧ Below w.heap.size w wr ∧ wr.ownsRow w.heap.size 3 1 v (T + j) (i64s (fl ++ (z.take j).map (fun v => v + (r : Int))))) (fun _ _ i _ => z.length - (intOf i).toNat)
          case atStart => exact ⟨0, Nat.zero_le _, rfl, hbo, hst⟩
          case round =>
            obtain ⟨j, hj, rfl, hbw2, hown⟩ := hrel
            clear hst hbo
            by_cases hlj : j < z.length
            · obtain ⟨ad1, u, rfl, had, hu, hc⟩ := (hrd.below (hbw2.mono hB)).at_ hlj
              obtain ⟨x, hx, rfl⟩ := i64_at hu
              obtain ⟨hx1, hx2⟩ := unhide HZ j x hx
              have hnext := hide (map_take_step (r := (r : Int)) hx)
              have hs2 := hbw2.size
              clear hu hx hrd hbw hcell
              go_wp2_with (first
                | (at_builtin; refine wpList_append_one rfl (.tmp 57) (.tmp 61) 24 rfl w.heap.size 3 i0 (.int .i64 0) 8 Try.underlying24 hi hz0 hz1 hz2 rfl w wr _ _ _ rfl hown (.int .i64 (x + (r : Int))) rfl rfl rfl (by omega) (by unfold maxLen; omega) hbw2 hs2 ?_; intro v2 w2 hown2 hb2 _))
              have e2 : i64s (fl ++ (z.take j).map (fun v => v + (r : Int))) ++ [Value.int .i64 (x + (r : Int))] = i64s (fl ++ (z.take (j + 1)).map (fun v => v + (r : Int))) := by rw [unhide hnext, ← List.append_assoc, i64s_app (fl ++ _)]; rfl
              rw [e2] at hown2
              clear e2 hown hbw2 hnext
              go_roundw
              case rel => exact ⟨j + 1, by omega, by go_num, hb2, hown2⟩
              case measure => simp [intOf]; omega
            · obtain rfl : z.length = j := by omega
              have hown3 : wr.ownsRow w.heap.size 3 1 u9 (tot (zss.take (k + 1))) (i64s (flatAll true (tot zss) (zss.take (k + 1)) 0)) := by
                rw [unhide HST, unhide HTS]
                have h := hown
                rwa [List.take_length] at h
              clear hown hrd hbw hcell
              go_wp2
              go_roundw
              case rel => exact ⟨k + 1, by omega, by go_num, hbw2, hown3⟩
              case measure => simp [intOf]; omega
        · obtain rfl : n = k := by omega
          have hI : Ints wr w.heap.size u9 (joinsR true zss) := by
            have h := hown'
            rw [List.take_of_length_le (by rw [unhide HL]; exact Nat.le_refl _), flat_join, ← joinAll_length true zss] at h
            rw [joinsR_yes (unhide hyes)]
            exact Ints.of_own h
          clear hown'
          go_wp2
          go_ret2
          rw [unhide hyes]
          exact GivesIB.mk true hI hbw
end Go.Proofs.Ytoiipedomgefaaa


/-
  spec.l4Fit, spec.l4Join, spec.SumOf, spec.SkewSumOf, by their contracts.
-/

namespace Go.Proofs.Ytoiipedomgefaaa
set_option maxRecDepth 100000
open Go.RowKit

def bitI (b : Bool) : Int := if b then 1 else 0
theorem bit_any (b : Bool) (w : World) : Calls Try.prog 53 #[.bool b] w fun e w' => e = .returned (.int .i64 (bitI b)) ∧ w' = w := by
  cases b with
  | true => exact bit_true w
  | false => exact bit_false w
theorem joinL_at1 {s : Bool} {p q : List Int} {k : Nat} {z : Int} (h : p[k]? = some z) : (joinL s p q)[k]? = some (z + bitI s * (q.length : Int)) := by
  have hk : k < p.length := (List.getElem?_eq_some_iff.1 h).1
  cases s with
  | true =>
    simp only [joinL, if_true, bitI]
    rw [List.getElem?_append_left (by simpa using hk), List.getElem?_map, h, Int.one_mul]; rfl
  | false =>
    simp only [joinL, bitI, Bool.false_eq_true, if_false]
    rw [List.getElem?_append_left hk, h, Int.zero_mul, Int.add_zero]
theorem joinL_at2 {s : Bool} {p q : List Int} {k : Nat} {z : Int} (h : q[k]? = some z) : (joinL s p q)[p.length + k]? = some (z + bitI (!s) * (p.length : Int)) := by
  cases s with
  | true =>
    simp only [joinL, if_true, bitI, Bool.not_true, Bool.false_eq_true, if_false]
    rw [List.getElem?_append_right (by simp), List.length_map, Nat.add_sub_cancel_left, h, Int.zero_mul, Int.add_zero]
  | false =>
    simp only [joinL, bitI, Bool.not_false, if_true, Bool.false_eq_true, if_false]
    rw [List.getElem?_append_right (by omega), Nat.add_sub_cancel_left, List.getElem?_map, h, Int.one_mul]; rfl
theorem bit_le (s : Bool) (n : Nat) : 0 ≤ bitI s * (n : Int) ∧ bitI s * (n : Int) ≤ n := by
  cases s
  · simp [bitI]
  · simp [bitI]

theorem l4fit_any (A A' : Option Addr) (n c B n' c' B' : Nat) (p q : List Int) (b : Bool) (hb : fit p q = b) (w : World) (h : Arg w B A n c p) (h' : Arg w B' A' n' c' q) :
    Calls Try.prog 34 #[.slice A n c, .slice A' n' c'] w fun e w' => e = .returned (.bool b) ∧ Drew w w' := by
  have hn := h.le
  have hn' := h'.le
  have hl := h.len
  have hl' := h'.len
  obtain ⟨b1, hb1⟩ : ∃ b1, isP p = b1 := ⟨_, rfl⟩
  obtain ⟨b2, hb2⟩ : ∃ b2, isP q = b2 := ⟨_, rfl⟩
  have H1 := hide (sisperm_any A n c B p b1 hb1 w h.reads h.le h.cap)
  have H2 := hide (fun w' (hd : Drew w w') => sisperm_any A' n' c' B' q b2 hb2 w' (h'.reads.ofDrew hd) h'.le h'.cap)
  clear h h'
  cases b1 with
  | false =>
    obtain rfl : b = false := hb.symm.trans (fit_no1 hb1)
    clear hb hb1 hb2 H2 hl hl'
    go_enter Try.func34, Try.ntmps34
    go_wp2_with fail
    refine (unhide H1).mono ?_
    rintro e w1 ⟨rfl, hd⟩
    clear H1
    go_wp2
    go_ret
    exact ⟨rfl, hd⟩
  | true =>
    cases b2 with
    | false =>
      obtain rfl : b = false := hb.symm.trans (fit_no2 hb2)
      clear hb hb1 hb2 hl hl'
      go_enter Try.func34, Try.ntmps34
      go_wp2_with fail
      refine (unhide H1).mono ?_
      rintro e w1 ⟨rfl, hd⟩
      have H3 := hide (unhide H2 w1 hd)
      clear H1 H2
      go_wp2_with fail
      refine (unhide H3).mono ?_
      rintro e w2 ⟨rfl, hd2⟩
      clear H3
      go_wp2
      go_ret
      exact ⟨rfl, hd.trans hd2⟩
    | true =>
      by_cases h8 : n + n' ≤ 8
      · obtain rfl : b = true := hb.symm.trans (fit_yes hb1 hb2 (by omega))
        have h8b : decide ((n : Int) + (n' : Int) ≤ 8) = true := by simp; omega
        clear hb hb1 hb2 hl hl'
        go_enter Try.func34, Try.ntmps34
        go_wp2_with fail
        refine (unhide H1).mono ?_
        rintro e w1 ⟨rfl, hd⟩
        have H3 := hide (unhide H2 w1 hd)
        clear H1 H2
        go_wp2_with fail
        refine (unhide H3).mono ?_
        rintro e w2 ⟨rfl, hd2⟩
        clear H3
        go_wp2
        go_ret
        exact ⟨rfl, hd.trans hd2⟩
      · obtain rfl : b = false := hb.symm.trans (fit_no3 (by omega))
        have h8b : decide ((n : Int) + (n' : Int) ≤ 8) = false := by simp; omega
        clear hb hb1 hb2 hl hl'
        go_enter Try.func34, Try.ntmps34
        go_wp2_with fail
        refine (unhide H1).mono ?_
        rintro e w1 ⟨rfl, hd⟩
        have H3 := hide (unhide H2 w1 hd)
        clear H1 H2
        go_wp2_with fail
        refine (unhide H3).mono ?_
        rintro e w2 ⟨rfl, hd2⟩
        clear H3
        go_wp2
        go_ret
        exact ⟨rfl, hd.trans hd2⟩

theorem keep_low {B : Nat} {wr w : World} {p : Addr} {v : Value} (h : wr.cell? p = some v) (hp : p.block < B) (hb : Below B wr w) : w.cell? p = some v ∧ Below B wr w := ⟨(hb.cell hp).trans h, hb⟩
set_option maxHeartbeats 800000 in
theorem l4join_any (A A' : Option Addr) (n c B n' c' B' : Nat) (s : Bool) (p q : List Int) (w : World) (h : Arg w B A n c p) (h' : Arg w B' A' n' c' q) (hf : fit p q = true) :
    Calls Try.prog 35 #[.slice A n c, .slice A' n' c', .bool s] w (GivesI w (joinL s p q)) := by
  obtain ⟨i0, hi, hz0, hz1, hz2⟩ := info_parts intInfo
  obtain ⟨hp, hq, h8⟩ := fit_all hf
  have hl := h.len
  have hr := h.reads
  have hB := h.under
  have hl' := h'.len
  have hr' := h'.reads
  have hB' := h'.under
  have hn8 : n + n' ≤ 8 := by omega
  have HP := hide (fun k z hz => isP_range hp (k := k) (z := z) hz)
  have HQ := hide (fun k z hz => isP_range hq (k := k) (z := z) hz)
  have HL := hide hl
  have HL' := hide hl'
  have hst := own0 w w.heap.size (Nat.le_refl _)
  have hbel := (Below.refl w.heap.size w).alloc (Nat.le_refl _) (.cells #[] 3)
  obtain ⟨R, hR⟩ : ∃ R, R = joinL s p q := ⟨_, rfl⟩
  have H1 := hide (fun k z (hz : p[k]? = some z) => show R[k]? = some (z + bitI s * (q.length : Int)) by rw [hR]; exact joinL_at1 hz)
  have H2 := hide (fun k z (hz : q[k]? = some z) => show R[p.length + k]? = some (z + bitI (!s) * (p.length : Int)) by rw [hR]; exact joinL_at2 hz)
  have HR := hide (show R.length = n + n' by rw [hR, joinL_length]; omega)
  rw [← hR]
  obtain ⟨x1, hx1⟩ : ∃ x1, x1 = bitI s * (n' : Int) := ⟨_, rfl⟩
  obtain ⟨x2, hx2⟩ : ∃ x2, x2 = bitI (!s) * (n : Int) := ⟨_, rfl⟩
  have hx1b := bit_le s n'
  have hx2b := bit_le (!s) n
  rw [← hx1] at hx1b
  rw [← hx2] at hx2b
  have hw1 : IntKind.i64.wrap (bitI s * (n' : Int)) = x1 := by rw [← hx1, IntKind.wrap_i64]; omega
  have hw2 : IntKind.i64.wrap (bitI (!s) * (n : Int)) = x2 := by rw [← hx2, IntKind.wrap_i64]; omega
  have HX1 := hide hx1
  have HX2 := hide hx2
  clear h hl h' hl' hp hq h8 hR hx1 hx2 hf
  go_enter Try.func35, Try.ntmps35
  go_wp2
  go_loopw [7, 8] (fun v i wr => ∃ k : Nat, k ≤ n ∧ i = .int .i64 k ∧ Below w.heap.size w wr ∧ wr.ownsRow w.heap.size 3 1 v k (i64s (R.take k))) (fun _ i _ => n - (intOf i).toNat)
  case atStart => exact ⟨0, Nat.zero_le _, rfl, hbel, hst⟩
  case round =>
    obtain ⟨k, hk, rfl, hbw, hown⟩ := hrel
    clear hst hbel
    by_cases hlt : k < n
    · obtain ⟨ad, u, rfl, had, hu, hc⟩ := ((hr.more hB).below hbw).at_ hlt
      obtain ⟨z, hz, rfl⟩ := i64_at hu
      obtain ⟨hz1', hz2'⟩ := unhide HP k z hz
      have hst := unhide H1 k z hz
      rw [unhide HL] at hz2'
      rw [unhide HL', ← unhide HX1] at hst
      have hstep := hide (take_snoc_i hst)
      have hw3 : IntKind.i64.wrap (z + x1) = z + x1 := by rw [IntKind.wrap_i64]; omega
      clear hu hz hst
      go_wp2
      have hblk : (ad.add k).block < w.heap.size := by rw [block_of_add]; omega
      have hb0 := Below.refl w.heap.size wr
      have hsz := hbw.size
      go_region_held3 (fun w' => w'.cell? (ad.add k) = some (.int .i64 z) ∧ Below w.heap.size wr w') ((refine keep_low hc hblk ?_; first | assumption | (apply Below.drew; assumption) | exact (hb0.alloc (by omega) _).drew))
        (first
          | (go_simp; go_at_call 53; refine (bit_any _ _).mono ?_; rintro e w' ⟨rfl, rfl⟩)
          | (refine step_append_one (by rfl) (.tmp 17) (.tmp 28) (by rfl) w.heap.size k wr wr _ _ (z + x1) (by rfl) (by rfl) (by rfl) hown (by omega) (by omega) hb0 hsz ?_; intro v2 w2 hown2 hb2))
      have hb3 := hbw.trans hb2
      rw [← unhide hstep] at hown2
      clear hown hbw hstep hb0 hb2
      go_wp2
      go_roundw
      case rel => exact ⟨k + 1, by omega, by go_num, hb3, hown2⟩
      case measure => simp [intOf]; omega
    · obtain rfl : n = k := by omega
      obtain ⟨wo, hwo⟩ : ∃ wo : World, wo = wr := ⟨_, rfl⟩
      have hbo := hbw
      have hst : wr.ownsRow w.heap.size 3 1 u7 (n + 0) (i64s (R.take (n + 0))) := hown
      clear hown
      go_wp2
      go_loopw [7, 9] (fun v i wr => ∃ k : Nat, k ≤ n' ∧ i = .int .i64 k ∧ Below w.heap.size w wr ∧ wr.ownsRow w.heap.size 3 1 v (n + k) (i64s (R.take (n + k)))) (fun _ i _ => n' - (intOf i).toNat)
      case atStart => exact ⟨0, Nat.zero_le _, rfl, hbo, hst⟩
      case round =>
        obtain ⟨k, hk, rfl, hbw2, hown⟩ := hrel
        clear hst hbo hbw
        by_cases hlt : k < n'
        · obtain ⟨ad, u, rfl, had, hu, hc⟩ := ((hr'.more hB').below hbw2).at_ hlt
          obtain ⟨z, hz, rfl⟩ := i64_at hu
          obtain ⟨hz1', hz2'⟩ := unhide HQ k z hz
          have hst := unhide H2 k z hz
          rw [unhide HL'] at hz2'
          rw [unhide HL, ← unhide HX2] at hst
          have hstep := hide (take_snoc_i hst)
          have hw3 : IntKind.i64.wrap (z + x2) = z + x2 := by rw [IntKind.wrap_i64]; omega
          clear hu hz hst
          go_wp2
          have hblk : (ad.add k).block < w.heap.size := by rw [block_of_add]; omega
          have hb0 := Below.refl w.heap.size wr
          have hsz := hbw2.size
          go_region_held3 (fun w' => w'.cell? (ad.add k) = some (.int .i64 z) ∧ Below w.heap.size wr w') ((refine keep_low hc hblk ?_; first | assumption | (apply Below.drew; assumption) | exact (hb0.alloc (by omega) _).drew))
            (first
              | (go_simp; go_at_call 53; refine (bit_any _ _).mono ?_; rintro e w' ⟨rfl, rfl⟩)
              | (refine step_append_one (by rfl) (.tmp 36) (.tmp 48) (by rfl) w.heap.size (n + k) wr wr _ _ (z + x2) (by rfl) (by rfl) (by rfl) hown (by omega) (by omega) hb0 hsz ?_; intro v2 w2 hown2 hb2))
          have hb3 := hbw2.trans hb2
          rw [← unhide hstep] at hown2
          clear hown hbw2 hstep hb0 hb2
          go_wp2
          go_roundw
          case rel => exact ⟨k + 1, by omega, by go_num, hb3, hown2⟩
          case measure => simp [intOf]; omega
        · obtain rfl : n' = k := by omega
          have hI : Ints wr w.heap.size u7 R := by
            have h := hown
            rw [List.take_of_length_le (by rw [unhide HR]; exact Nat.le_refl _), ← unhide HR] at h
            exact Ints.of_own h
          clear hown
          go_wp2
          go_ret
          exact GivesI.mk hI hbw2
end Go.Proofs.Ytoiipedomgefaaa


/-
  impl.SumOf, impl.SkewSumOf, impl.JoinParts; spec.JoinParts, by their contracts. (Written by wip/tools/mkjoins.py.)
-/

namespace Go.Proofs.Ytoiipedomgefaaa
set_option maxRecDepth 100000
open Go.RowKit

theorem sumall_any (s : Bool) (A : Option Addr) (n c B : Nat) (zss : List (List Int)) (w : World) (hS : ReadsS w B A n zss) (hB : B ≤ w.heap.size) (hn : n ≤ 1048576) (hsm : ∀ z ∈ zss, z.length ≤ 1048576 ∧ Small z) :
    Calls Try.prog 33 #[.bool s, .slice A n c] w (GivesIB w (joinsR s zss) (allFit zss)) := by
  cases s with
  | false => exact sumall_false A n c B zss w hS hB hn hsm
  | true => exact sumall_true A n c B zss w hS hB hn hsm
theorem IntsS.readsS {w : World} {B n c : Nat} {A : Option Addr} {zss : List (List Int)} (h : IntsS w B (.slice A n c) zss) : ReadsS w w.heap.size A n zss := by
  refine ⟨h.len, fun hn => ?_⟩
  obtain ⟨ad, A', c', z, e, _⟩ := h.at_ hn
  subst e
  refine ⟨ad, rfl, ?_, fun j z hz => ?_⟩
  · have hl := h.len
    subst hl
    obtain ⟨vs, hown, hin⟩ := h
    obtain ⟨ad', he, hb, _⟩ := (Reads.of_own_at hown).2 hn
    injection he with he
    subst he
    exact hb
  · have hj : j < n := by have := (List.getElem?_eq_some_iff.1 hz).1; have := h.len; omega
    obtain ⟨ad2, A2, c2, z2, e2, hz2, hc, hI⟩ := h.at_ hj
    injection e2 with e2
    subst e2
    rw [hz] at hz2
    injection hz2 with hz2
    subst hz2
    exact ⟨A2, c2, hc, hI.reads⟩
theorem allFit_two (p q : List Int) : allFit [p, q] = fit p q := by simp [allFit, allP, fit, tot]
theorem joins_two (s : Bool) (p q : List Int) : joinsR s [p, q] = joinR s p q := by
  have e : joinAll s [p, q] = joinL s p q := by
    have h0 : joinL s [] p = p := by cases s <;> simp [joinL]
    simp [joinAll, h0]
  unfold joinsR joinR
  rw [allFit_two, e]

theorem isum_any (A A' : Option Addr) (n c B n' c' B' : Nat) (p q : List Int) (w : World) (h : Arg w B A n c p) (h' : Arg w B' A' n' c' q) :
    Calls Try.prog 10 #[.slice A n c, .slice A' n' c'] w (GivesIB w (joinR false p q) (fit p q)) := by
  have hbel := (Below.refl w.heap.size w).alloc (Nat.le_refl _) (.cells #[.slice A n c, .slice A' n' c'] 24)
  have hR : ReadsS (w.alloc (.cells #[.slice A n c, .slice A' n' c'] 24)) (w.heap.size + 1) (some ⟨w.heap.size, 0, none⟩) 2 [p, q] := by
    refine ⟨rfl, fun _ => ⟨_, rfl, by simp, fun j z hz => ?_⟩⟩
    rw [show (⟨w.heap.size, 0, none⟩ : Addr).add j = ⟨w.heap.size, j, none⟩ by unfold Addr.add; split <;> simp_all, World.cell?_alloc_new]
    have e1 := h.len
    have e2 := h'.len
    match j, hz with
    | 0, hz =>
      injection hz with hz
      subst hz
      exact ⟨A, c, by rw [e1]; rfl, by rw [e1]; exact (h.reads.below (hbel.mono h.under)).more (Nat.le_trans h.under (Nat.le_succ _))⟩
    | 1, hz =>
      injection hz with hz
      subst hz
      exact ⟨A', c', by rw [e2]; rfl, by rw [e2]; exact (h'.reads.below (hbel.mono h'.under)).more (Nat.le_trans h'.under (Nat.le_succ _))⟩
  have hsm : ∀ z ∈ [p, q], z.length ≤ 1048576 ∧ Small z := fun z hz => by
    rcases List.mem_cons.1 hz with rfl | hz
    · exact ⟨by have := h.len; have := h.le; omega, h.small⟩
    · rw [List.mem_singleton] at hz
      subst hz
      exact ⟨by have := h'.len; have := h'.le; omega, h'.small⟩
  have H1 := hide (sumall_any false (some ⟨w.heap.size, 0, none⟩) 2 2 (w.heap.size + 1) [p, q] _ hR (by simp) (by omega) hsm)
  rw [← allFit_two p q, ← joins_two false p q]
  clear h h' hR hsm
  go_enter Try.func10, Try.ntmps10
  go_wp2_with fail
  refine (unhide H1).mono ?_
  rintro e w1 ⟨A1, c1, rfl, own1, hb1⟩
  clear H1
  go_wp2
  go_ret2
  exact GivesIB.mk _ (own1.low hbel.size) (below_after hbel hb1)

theorem iskew_any (A A' : Option Addr) (n c B n' c' B' : Nat) (p q : List Int) (w : World) (h : Arg w B A n c p) (h' : Arg w B' A' n' c' q) :
    Calls Try.prog 12 #[.slice A n c, .slice A' n' c'] w (GivesIB w (joinR true p q) (fit p q)) := by
  have hbel := (Below.refl w.heap.size w).alloc (Nat.le_refl _) (.cells #[.slice A n c, .slice A' n' c'] 24)
  have hR : ReadsS (w.alloc (.cells #[.slice A n c, .slice A' n' c'] 24)) (w.heap.size + 1) (some ⟨w.heap.size, 0, none⟩) 2 [p, q] := by
    refine ⟨rfl, fun _ => ⟨_, rfl, by simp, fun j z hz => ?_⟩⟩
    rw [show (⟨w.heap.size, 0, none⟩ : Addr).add j = ⟨w.heap.size, j, none⟩ by unfold Addr.add; split <;> simp_all, World.cell?_alloc_new]
    have e1 := h.len
    have e2 := h'.len
    match j, hz with
    | 0, hz =>
      injection hz with hz
      subst hz
      exact ⟨A, c, by rw [e1]; rfl, by rw [e1]; exact (h.reads.below (hbel.mono h.under)).more (Nat.le_trans h.under (Nat.le_succ _))⟩
    | 1, hz =>
      injection hz with hz
      subst hz
      exact ⟨A', c', by rw [e2]; rfl, by rw [e2]; exact (h'.reads.below (hbel.mono h'.under)).more (Nat.le_trans h'.under (Nat.le_succ _))⟩
  have hsm : ∀ z ∈ [p, q], z.length ≤ 1048576 ∧ Small z := fun z hz => by
    rcases List.mem_cons.1 hz with rfl | hz
    · exact ⟨by have := h.len; have := h.le; omega, h.small⟩
    · rw [List.mem_singleton] at hz
      subst hz
      exact ⟨by have := h'.len; have := h'.le; omega, h'.small⟩
  have H1 := hide (sumall_any true (some ⟨w.heap.size, 0, none⟩) 2 2 (w.heap.size + 1) [p, q] _ hR (by simp) (by omega) hsm)
  rw [← allFit_two p q, ← joins_two true p q]
  clear h h' hR hsm
  go_enter Try.func12, Try.ntmps12
  go_wp2_with fail
  refine (unhide H1).mono ?_
  rintro e w1 ⟨A1, c1, rfl, own1, hb1⟩
  clear H1
  go_wp2
  go_ret2
  exact GivesIB.mk _ (own1.low hbel.size) (below_after hbel hb1)

theorem ijoins_any (A : Option Addr) (n c B : Nat) (s : Bool) (zss : List (List Int)) (w : World) (hS : IntsS w B (.slice A n c) zss) (hn : n ≤ 1048576) (hsm : ∀ z ∈ zss, z.length ≤ 1048576 ∧ Small z) :
    Calls Try.prog 15 #[.slice A n c, .bool s] w (GivesIB w (joinsR s zss) (allFit zss)) := by
  have H1 := hide (sumall_any s A n c w.heap.size zss w hS.readsS (Nat.le_refl _) hn hsm)
  clear hS hsm
  go_enter Try.func15, Try.ntmps15
  go_wp2_with fail
  refine (unhide H1).mono ?_
  rintro e w1 ⟨A1, c1, rfl, own1, hb1⟩
  clear H1
  go_wp2
  go_ret2
  exact GivesIB.mk _ own1 hb1

set_option maxHeartbeats 800000 in
theorem sjoinsA_any (A : Option Addr) (n c : Nat) (s : Bool) (zss : List (List Int)) (w : World) (hS : AtS w A n zss) (hn : n ≤ 1048576) :
    Calls Try.prog 16 #[.slice A n c, .bool s] w (GivesIB w (joinsR s zss) (allFit zss)) := by
  have hl := hS.1
  have HL := hide hl
  have HS := hide hS.2
  have hI0 := Ints.made0 w w.heap.size (Nat.le_refl _)
  have hbel := (Below.refl w.heap.size w).alloc (Nat.le_refl _) (.cells #[] 3)
  clear hl hS
  go_enter Try.func16, Try.ntmps16
  go_wp2
  go_loopw [6, 7] (fun v i wr => ∃ k : Nat, k ≤ n ∧ i = .int .i64 k ∧ Below w.heap.size w wr ∧ Ints wr w.heap.size v (joinAll s (zss.take k)) ∧ Hid (∀ z ∈ zss.take k, isP z = true) ∧ tot (zss.take k) ≤ 8) (fun _ i _ => n - (intOf i).toNat)
  case atStart => exact ⟨0, Nat.zero_le _, rfl, hbel, hI0, fun z hz => by simp at hz, by simp [tot]⟩
  case round =>
    obtain ⟨k, hk, rfl, hbw, hI, hP, h8⟩ := hrel
    clear hI0 hbel
    have hlen := joinAll_length s (zss.take k)
    have hisP := joinAll_isP (s := s) _ (allP_yes (unhide hP)) h8
    obtain ⟨out, hout⟩ : ∃ out, out = joinAll s (zss.take k) := ⟨_, rfl⟩
    rw [← hout] at hI hlen hisP
    obtain ⟨A6, c6, rfl⟩ := hI.slice
    by_cases hlt : k < n
    · obtain ⟨ad, A1, c1, z, rfl, hz, hcell, hAz⟩ := unhide HS wr hbw k hlt
      have hAo := hI.argP hisP
      obtain ⟨b, hb⟩ : ∃ b, fit out z = b := ⟨_, rfl⟩
      have H1 := hide (l4fit_any A6 A1 out.length c6 wr.heap.size z.length c1 wr.heap.size out z b hb wr hAo hAz)
      have hts := tot_step hz
      have htt := tot_take zss (k + 1)
      cases b with
      | false =>
        have hno : allFit zss = false := by
          cases hpz : isP z with
          | false => exact allFit_no1 (List.mem_of_getElem? hz) hpz
          | true =>
            refine allFit_no2 ?_
            by_cases h : out.length + z.length ≤ 8
            · rw [fit_yes hisP hpz h] at hb; cases hb
            · omega
        have HNO := hide hno
        rw [joinsR_no hno, hno]
        clear hb hts htt hno hz hI hAz hAo hP hisP hlen hout
        go_wp2_with fail
        refine (unhide H1).mono ?_
        rintro e w1 ⟨rfl, hd⟩
        have hb := hbw.trans (hd.below w.heap.size)
        clear hd H1
        go_wp2
        go_ret2
        exact GivesIB.mk false (Ints.made0 w1 w.heap.size hb.size) (hb.alloc hb.size _)
      | true =>
        obtain ⟨_, hpz, hle⟩ := fit_all hb
        have H2 := hide (fun w' (hb' : Below wr.heap.size wr w') => l4join_any A6 A1 out.length c6 wr.heap.size z.length c1 wr.heap.size s out z w' (hAo.below hb') (hAz.below hb') hb)
        have hnext : Hid (∀ z ∈ zss.take (k + 1), isP z = true) := hide (fun y hy => by
          rw [take_snoc_r hz] at hy
          rcases List.mem_append.1 hy with h | h
          · exact unhide hP y h
          · rw [List.mem_singleton] at h
            subst h
            exact hpz)
        have hje := hide (joinAll_take (s := s) hz)
        have h82 : tot (zss.take (k + 1)) ≤ 8 := by omega
        have HOUT := hide hout
        have hsz := hbw.size
        clear hb hpz hts htt hz hI hAz hAo hP hisP hlen hout
        go_wp2_with fail
        refine (unhide H1).mono ?_
        rintro e w1 ⟨rfl, hd⟩
        have hb1 := hd.below wr.heap.size
        have hcell1 := (hd.cell _).trans hcell
        have H3 := hide (unhide H2 w1 hb1)
        clear hd H1 H2 hcell
        go_wp2_with fail
        refine (unhide H3).mono ?_
        rintro e w2 ⟨A2, c2, rfl, own2, hb2⟩
        have hb3 := below_after hb1 hb2
        have hb4 := below_after hbw hb3
        have hI4 : Ints w2 w.heap.size (.slice A2 (joinL s out z).length c2) (joinAll s (zss.take (k + 1))) := by
          rw [unhide hje, ← unhide HOUT]
          exact own2.low (Nat.le_trans hsz hb1.size)
        clear H3 own2 hb2 hb3 hb1
        go_wp2
        go_roundw
        case rel => exact ⟨k + 1, by omega, by go_num, hb4, hI4, hnext, h82⟩
        case measure => simp [intOf]; omega
    · obtain rfl : n = k := by omega
      have hfull : zss.take n = zss := List.take_of_length_le (by rw [unhide HL]; exact Nat.le_refl _)
      rw [hfull] at hout h8 hP
      have hyes := allFit_yes (unhide hP) h8
      have hE : joinsR s zss = out := by rw [joinsR_yes hyes, hout]
      have HE := hide hE
      have HY := hide hyes
      clear hlen hisP hout h8 hP hyes hfull hE
      go_wp2
      go_ret2
      rw [unhide HE, unhide HY]
      exact GivesIB.mk true hI hbw
theorem sjoins_any (A : Option Addr) (n c B : Nat) (s : Bool) (zss : List (List Int)) (w : World) (hS : IntsS w B (.slice A n c) zss) (hn : n ≤ 1048576) (hsm : ∀ z ∈ zss, z.length ≤ 1048576 ∧ Small z) :
    Calls Try.prog 16 #[.slice A n c, .bool s] w (GivesIB w (joinsR s zss) (allFit zss)) := sjoinsA_any A n c s zss w (hS.atS hsm) hn
end Go.Proofs.Ytoiipedomgefaaa
