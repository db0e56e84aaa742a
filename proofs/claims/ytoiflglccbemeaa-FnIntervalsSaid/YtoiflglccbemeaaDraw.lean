
/-
  THE CURSOR OVER A DRAW (l1New, l1Byte, l1Below, l1Once, l1Pick, l1PickInt), by contracts: whatever is drawn lies in its range; nothing but the cursor's own block turns.
-/
import Derived.Test.YtoiflglccbemeaaStrs
import Derived.Deep.RegionHeld3
import Derived.Laws.BitsAllLaws
namespace Go.Proofs.Ytoiflglccbemeaa
set_option maxRecDepth 100000
open Go.RowKit

/-- A block that is known whole. -/
def Blk (w : World) (g : Nat) (t : TypeId) (cs : Array Value) : Prop := w.heap[g]? = some (.cells cs t (0, 0))
section
variable {w w' : World} {g : Nat} {t : TypeId} {cs : Array Value}
theorem Blk.lt (h : Blk w g t cs) : g < w.heap.size := by
  rcases Nat.lt_or_ge g w.heap.size with hlt | hge
  · exact hlt
  · unfold Blk at h; rw [Array.getElem?_eq_none hge] at h; cases h
theorem Blk.cell (h : Blk w g t cs) (i : Nat) : w.cell? ⟨g, i, none⟩ = cs[i]? := cell_of_row w g i cs t (0, 0) h
theorem Blk.frozen (h : Blk w g t cs) (i : Nat) : w.frozen? ⟨g, i, none⟩ = false := by
  unfold Blk at h
  simp [World.frozen?, h]
theorem Blk.new (w : World) (t : TypeId) (cs : Array Value) : Blk (w.alloc (.cells cs t)) w.heap.size t cs := heap_alloc_new w _
theorem Blk.drewN (h : Blk w g t cs) (n : Nat) : Blk (w.drewN n) g t cs := h
theorem Blk.alloc (h : Blk w g t cs) (o : Obj) : Blk (w.alloc o) g t cs := (Below.heap_alloc w o g h.lt).trans h
theorem Blk.set_ (h : Blk w g t cs) (i : Nat) (u : Value) : Blk (w.setCell ⟨g, i, none⟩ u) g t (cs.setIfInBounds i u) := by
  unfold Blk at h ⊢
  simp [World.setCell, Array.getElem?_modify, h]
theorem Blk.grown {row : Option Nat} (h : Blk w g t cs) (hb : w.grownBy w' row) (hg : some g ≠ row) : Blk w' g t cs := (hb.block g h.lt hg).trans h
theorem Blk.below (h : Blk w g t cs) (hb : Below w.heap.size w w') : Blk w' g t cs := h.grown (grown_of_below hb none) (by simp)
end

/-- THE CURSOR: block cb holds the bytes' slice, the place, the mixed number. -/
def Cur (w : World) (B cb : Nat) : Prop := ∃ (A : Option Addr) (n c k : Nat) (bs : List UInt8) (h : Int),
  Blk w cb 66 #[.slice A n c, .int .i64 k, .int .i64 h] ∧ Reads w B A n (u8s bs) ∧ n ≤ 1048576 ∧ k ≤ n ∧ B ≤ cb
theorem Cur.keep {w w' : World} {B cb : Nat} (h : Cur w B cb) (hg : w.grownBy w' none) : Cur w' B cb := by
  obtain ⟨A, n, c, k, bs, x, hb, hr, hn, hk, hB⟩ := h
  exact ⟨A, n, c, k, bs, x, hb.grown hg (by simp), hr.grown hg (by have := hb.lt; omega) (by simp), hn, hk, hB⟩
theorem Cur.below {w w' : World} {B cb : Nat} (h : Cur w B cb) (hg : Below w.heap.size w w') : Cur w' B cb := h.keep (grown_of_below hg none)
theorem Cur.drewN {w : World} {B cb : Nat} (h : Cur w B cb) (n : Nat) : Cur (w.drewN n) B cb := h
theorem Cur.lt {w : World} {B cb : Nat} (h : Cur w B cb) : cb < w.heap.size := by
  obtain ⟨_, _, _, _, _, _, hb, _⟩ := h
  exact hb.lt

/-- What a draw leaves. -/
def Drawn (B cb : Nat) (w : World) (P : Value → Prop) (e : Ending) (w' : World) : Prop := ∃ v, e = .returned v ∧ P v ∧ Cur w' B cb ∧ w.grownBy w' (some cb)
def IntIn (lo hi : Int) (v : Value) : Prop := ∃ x : Int, v = .int .i64 x ∧ lo ≤ x ∧ x ≤ hi

theorem and255 (x : Int) : 0 ≤ bits .and .i64 x 255 ∧ bits .and .i64 x 255 ≤ 255 := by
  have h : (BitVec.ofInt 64 x &&& BitVec.ofInt 64 255).toNat ≤ 255 := by
    rw [BitVec.toNat_and]
    exact Nat.le_trans Nat.and_le_right (by decide)
  show 0 ≤ IntKind.i64.wrap ((BitVec.ofInt 64 x &&& BitVec.ofInt 64 255).toNat : Int) ∧ IntKind.i64.wrap ((BitVec.ofInt 64 x &&& BitVec.ofInt 64 255).toNat : Int) ≤ 255
  rw [IntKind.wrap_i64]
  omega
theorem grown_set {w : World} {g : Nat} (i : Nat) (u : Value) : w.grownBy (w.setCell ⟨g, i, none⟩ u) (some g) :=
  ⟨rfl, rfl, rfl, by simp, fun k _ hk => heap_setCell_other w ⟨g, i, none⟩ k u (fun e => hk (by simp [e]))⟩
theorem grown_drewN {a w : World} {row : Option Nat} (h : a.grownBy w row) (n : Nat) : a.grownBy (w.drewN n) row := ⟨h.os, h.tape, h.output, h.size, h.block⟩

theorem cur_byte {w : World} {B cb n c k : Nat} {A : Option Addr} {bs : List UInt8} {h : Int} (hb : Blk w cb 66 #[.slice A n c, .int .i64 k, .int .i64 h]) (hr : Reads w B A n (u8s bs)) (hn : n ≤ 1048576) (hk : k + 1 ≤ n) (hB : B ≤ cb) (h' : Int) (m : Nat) :
    Cur (((w.setCell ⟨cb, 2, none⟩ (.int .i64 h')).drewN m).setCell ⟨cb, 1, none⟩ (.int .i64 ((k : Int) + 1))) B cb := by
  refine ⟨A, n, c, k + 1, bs, h', ?_, ?_, hn, hk, hB⟩
  · exact ((hb.set_ 2 (.int .i64 h')).drewN m).set_ 1 (.int .i64 ((k : Int) + 1))
  · exact ((hr.setCell (p := ⟨cb, 2, none⟩) hB _).drewN m).setCell (p := ⟨cb, 1, none⟩) hB _
theorem cur_past {w : World} {B cb n c k : Nat} {A : Option Addr} {bs : List UInt8} {h : Int} (hb : Blk w cb 66 #[.slice A n c, .int .i64 k, .int .i64 h]) (hr : Reads w B A n (u8s bs)) (hn : n ≤ 1048576) (hk : k ≤ n) (hB : B ≤ cb) (h' : Int) (m : Nat) :
    Cur ((w.setCell ⟨cb, 2, none⟩ (.int .i64 h')).drewN m) B cb := by
  refine ⟨A, n, c, k, bs, h', ?_, ?_, hn, hk, hB⟩
  · exact (hb.set_ 2 (.int .i64 h')).drewN m
  · exact (hr.setCell (p := ⟨cb, 2, none⟩) hB _).drewN m

set_option maxRecDepth 100000 in
set_option maxHeartbeats 800000 in
theorem byte_any (B cb : Nat) (w : World) (hc : Cur w B cb) : Calls Try.prog 60 #[.pointer (some ⟨cb, 0, none⟩)] w (Drawn B cb w (IntIn 0 255)) := by
  obtain ⟨A, n, c, k, bs, h, hb, hr, hn, hk, hB⟩ := hc
  have c0 : w.cell? ⟨cb, 0, none⟩ = some (.slice A n c) := hb.cell 0
  have c1 : w.cell? ⟨cb, 1, none⟩ = some (.int .i64 k) := hb.cell 1
  have c2 : w.cell? ⟨cb, 2, none⟩ = some (.int .i64 h) := hb.cell 2
  have f1 := hb.frozen 1
  have f2 := hb.frozen 2
  by_cases hlt : k < n
  · obtain ⟨ad, u, rfl, had, hu, hx⟩ := hr.at_ hlt
    obtain ⟨b, hbk, rfl⟩ := u8_at hu
    have hx2 : ∀ v, (w.setCell ⟨cb, 2, none⟩ v).cell? (ad.add k) = some (.int .u8 b.toNat) := fun v => by
      rw [World.cell?_setCell_other w _ _ _ (fun e => by have := congrArg Addr.block e; rw [block_of_add] at this; simp at this; omega)]
      exact hx
    clear hu hx hbk
    have HB := hide hb
    have HR := hide hr
    clear hb hr
    go_enter Try.func60, Try.ntmps60
    go_wp2
    go_quiet (fail)
    go_wp2
    go_quiet (fail)
    go_wp2
    go_quiet (fail)
    go_wp2
    go_ret
    exact ⟨_, rfl, ⟨_, rfl, (and255 _).1, (and255 _).2⟩, cur_byte (unhide HB) (unhide HR) hn hlt hB _ _, grown_then (grown_drewN (grown_set 2 _) _) (grown_set 1 _)⟩
  · have HB := hide hb
    have HR := hide hr
    clear hb hr
    go_enter Try.func60, Try.ntmps60
    go_wp2
    go_quiet (fail)
    go_wp2
    go_quiet (fail)
    go_wp2
    go_ret
    exact ⟨_, rfl, ⟨_, rfl, (and255 _).1, (and255 _).2⟩, (cur_past (unhide HB) (unhide HR) hn hk hB _ _).drewN _, grown_drewN (grown_drewN (grown_set 2 _) _) _⟩

set_option maxRecDepth 100000 in
set_option maxHeartbeats 800000 in
/-- l1Below: 0 to n - 1; 0 where n is not above 0. -/
theorem below_any (B cb : Nat) (n : Int) (hn : n ≤ 1073741824) (w : World) (hc : Cur w B cb) :
    Calls Try.prog 41 #[.pointer (some ⟨cb, 0, none⟩), .int .i64 n] w (Drawn B cb w (IntIn 0 (if 0 < n then n - 1 else 0))) := by
  have H := hide (fun w hc => byte_any B cb w hc)
  have HC := hide hc
  clear hc
  by_cases h0 : 0 < n
  · rw [if_pos h0]
    by_cases h1 : n ≤ 256
    · go_enter Try.func41, Try.ntmps41
      go_wp2_with fail
      refine (unhide H _ (unhide HC)).mono ?_
      rintro e w1 ⟨v, rfl, ⟨x, rfl, hx0, hx1⟩, hc1, hg1⟩
      have HC1 := hide hc1
      have HG1 := hide hg1
      clear hc1 hg1
      have hm0 : 0 ≤ x % n := Int.emod_nonneg _ (by omega)
      have hm1 : x % n ≤ n - 1 := by have := Int.emod_lt_of_pos x h0; omega
      go_wp2
      go_ret
      exact ⟨_, rfl, ⟨_, rfl, hm0, hm1⟩, unhide HC1, unhide HG1⟩
    · go_enter Try.func41, Try.ntmps41
      go_wp2_with fail
      refine (unhide H _ (unhide HC)).mono ?_
      rintro e w1 ⟨v, rfl, ⟨x, rfl, hx0, hx1⟩, hc1, hg1⟩
      have HC1 := hide hc1
      have HG1 := hide hg1
      clear hc1 hg1
      go_wp2_with fail
      refine (unhide H _ (unhide HC1)).mono ?_
      rintro e w2 ⟨v, rfl, ⟨y, rfl, hy0, hy1⟩, hc2, hg2⟩
      have HC2 := hide hc2
      have HG2 := hide (grown_then (unhide HG1) hg2)
      clear hc2 hg2
      go_wp2_with fail
      refine (unhide H _ (unhide HC2)).mono ?_
      rintro e w3 ⟨v, rfl, ⟨z, rfl, hz0, hz1⟩, hc3, hg3⟩
      have HC3 := hide hc3
      have HG3 := hide (grown_then (unhide HG2) hg3)
      clear hc3 hg3
      go_wp2_with fail
      refine (unhide H _ (unhide HC3)).mono ?_
      rintro e w4 ⟨v, rfl, ⟨u, rfl, hu0, hu1⟩, hc4, hg4⟩
      have HC4 := hide hc4
      have HG4 := hide (grown_then (unhide HG3) hg4)
      clear hc4 hg4
      have hm0 : 0 ≤ (x * 16777216 + y * 65536 + z * 256 + u) % n := Int.emod_nonneg _ (by omega)
      have hm1 : (x * 16777216 + y * 65536 + z * 256 + u) % n ≤ n - 1 := by have := Int.emod_lt_of_pos (x * 16777216 + y * 65536 + z * 256 + u) h0; omega
      go_wp2
      go_ret
      exact ⟨_, rfl, ⟨_, rfl, hm0, hm1⟩, unhide HC4, unhide HG4⟩
  · rw [if_neg h0]
    go_enter Try.func41, Try.ntmps41
    go_wp2
    go_ret
    exact ⟨_, rfl, ⟨_, rfl, Int.le_refl _, Int.le_refl _⟩, unhide HC, World.grownBy.refl _ _⟩

def IsBool (v : Value) : Prop := ∃ b : Bool, v = .bool b
def StrOf (ss : List ByteArray) (v : Value) : Prop := ∃ s, s ∈ ss ∧ v = .string s

theorem once_any (B cb : Nat) (n : Int) (hn : n ≤ 1073741824) (w : World) (hc : Cur w B cb) :
    Calls Try.prog 43 #[.pointer (some ⟨cb, 0, none⟩), .int .i64 n] w (Drawn B cb w IsBool) := by
  have H := hide (below_any B cb n hn w hc)
  clear hc
  go_enter Try.func43, Try.ntmps43
  go_wp2_with fail
  refine (unhide H).mono ?_
  rintro e w1 ⟨v, rfl, ⟨x, rfl, hx0, hx1⟩, hc1, hg1⟩
  have HC1 := hide hc1
  have HG1 := hide hg1
  clear hc1 hg1 hx0 hx1 H
  go_wp2
  go_ret
  exact ⟨_, rfl, ⟨_, rfl⟩, unhide HC1, unhide HG1⟩

set_option maxHeartbeats 800000 in
theorem pick_any (B cb g : Nat) (n c : Nat) (ss : List ByteArray) (w : World) (hc : Cur w B cb) (hl : Blk w g 9 (ss.map Value.string).toArray) (hne : g ≠ cb) (hn : ss.length = n) (h0 : 0 < n) (h1 : n ≤ 1048576) :
    Calls Try.prog 52 #[.pointer (some ⟨cb, 0, none⟩), .slice (some ⟨g, 0, none⟩) n c] w (Drawn B cb w (StrOf ss)) := by
  have H := hide (below_any B cb n (by omega) w hc)
  have HL := hide hl
  have HN := hide hn
  clear hc hl hn
  go_enter Try.func52, Try.ntmps52
  go_wp2_with fail
  refine (unhide H).mono ?_
  rintro e w1 ⟨v, rfl, ⟨x, rfl, hx0, hx1⟩, hc1, hg1⟩
  rw [if_pos (by omega)] at hx1
  obtain ⟨k, rfl⟩ : ∃ k : Nat, x = k := ⟨x.toNat, by omega⟩
  have hk : k < n := by omega
  have hcell : w1.cell? ⟨g, k, none⟩ = some (.string (ss[k]'(by have := unhide HN; omega))) := by
    rw [((unhide HL).grown hg1 (by simp; omega)).cell k]
    simp [show k < ss.length by have := unhide HN; omega]
  have hmem : ss[k]'(by have := unhide HN; omega) ∈ ss := List.getElem_mem _
  generalize ss[k]'(by have := unhide HN; omega) = s at hcell hmem
  have HM := hide hmem
  have HC1 := hide hc1
  have HG1 := hide hg1
  clear hc1 hg1 hmem H
  go_wp2
  go_ret
  exact ⟨_, rfl, ⟨_, unhide HM, rfl⟩, unhide HC1, unhide HG1⟩

def IntOf (zs : List Int) (v : Value) : Prop := ∃ z, z ∈ zs ∧ v = .int .i64 z
set_option maxHeartbeats 800000 in
theorem pickInt_any (B cb g : Nat) (n c : Nat) (zs : List Int) (w : World) (hc : Cur w B cb) (hl : Blk w g 3 (zs.map (Value.int .i64)).toArray) (hne : g ≠ cb) (hn : zs.length = n) (h0 : 0 < n) (h1 : n ≤ 1048576) :
    Calls Try.prog 66 #[.pointer (some ⟨cb, 0, none⟩), .slice (some ⟨g, 0, none⟩) n c] w (Drawn B cb w (IntOf zs)) := by
  have H := hide (below_any B cb n (by omega) w hc)
  have HL := hide hl
  have HN := hide hn
  clear hc hl hn
  go_enter Try.func66, Try.ntmps66
  go_wp2_with fail
  refine (unhide H).mono ?_
  rintro e w1 ⟨v, rfl, ⟨x, rfl, hx0, hx1⟩, hc1, hg1⟩
  rw [if_pos (by omega)] at hx1
  obtain ⟨k, rfl⟩ : ∃ k : Nat, x = k := ⟨x.toNat, by omega⟩
  have hk : k < n := by omega
  have hcell : w1.cell? ⟨g, k, none⟩ = some (.int .i64 (zs[k]'(by have := unhide HN; omega))) := by
    rw [((unhide HL).grown hg1 (by simp; omega)).cell k]
    simp [show k < zs.length by have := unhide HN; omega]
  have hmem : zs[k]'(by have := unhide HN; omega) ∈ zs := List.getElem_mem _
  generalize zs[k]'(by have := unhide HN; omega) = z at hcell hmem
  have HM := hide hmem
  have HC1 := hide hc1
  have HG1 := hide hg1
  clear hc1 hg1 hmem H
  go_wp2
  go_ret
  exact ⟨_, rfl, ⟨_, unhide HM, rfl⟩, unhide HC1, unhide HG1⟩

/-- A new cursor. -/
def NewCur (B : Nat) (w : World) (e : Ending) (w' : World) : Prop := ∃ cb, e = .returned (.pointer (some ⟨cb, 0, none⟩)) ∧ w.heap.size ≤ cb ∧ Cur w' B cb ∧ Below w.heap.size w w'
set_option maxRecDepth 100000 in
set_option maxHeartbeats 800000 in
theorem new_any (A : Option Addr) (n c B : Nat) (bs : List UInt8) (w : World) (hr : Reads w B A n (u8s bs)) (hn : n ≤ 1048576) (hB : B ≤ w.heap.size) :
    Calls Try.prog 38 #[.slice A n c] w (NewCur B w) := by
  go_enter Try.func38, Try.ntmps38
  go_wp2
  go_loop [3, 4] (fun hv i => ∃ (k : Nat) (x : Int), k ≤ n ∧ i = .int .i64 k ∧ hv = .int .i64 x) (fun _ i => n - (intOf i).toNat)
  case atStart => exact ⟨0, _, Nat.zero_le _, rfl, rfl⟩
  case round =>
    obtain ⟨k, x, hk, rfl, rfl⟩ := hrel
    by_cases hlt : k < n
    · obtain ⟨ad, u, rfl, had, hu, hx⟩ := hr.at_ hlt
      obtain ⟨b, hbk, rfl⟩ := u8_at hu
      clear hu hbk
      by_cases h4 : k < 4000
      · go_wp2
        go_round
        case rel => exact ⟨k + 1, _, by omega, by go_num, rfl⟩
        case measure => simp [intOf]; omega
      · go_wp2
        go_ret
        exact ⟨w.heap.size, rfl, Nat.le_refl _, ⟨some ad, n, c, 0, bs, x, Blk.new _ _ _, hr.alloc hB _, hn, Nat.zero_le _, hB⟩, (Below.refl _ _).alloc (Nat.le_refl _) _⟩
    · go_wp2
      go_ret
      exact ⟨w.heap.size, rfl, Nat.le_refl _, ⟨A, n, c, 0, bs, x, Blk.new _ _ _, hr.alloc hB _, hn, Nat.zero_le _, hB⟩, (Below.refl _ _).alloc (Nat.le_refl _) _⟩
end Go.Proofs.Ytoiflglccbemeaa
