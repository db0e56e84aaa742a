/-
  Words and contracts that the laws lean on, bundled: Strs, Draw, IntsS, DrawI, RowS, Ident, RowI.
-/
import Derived.Test.YtcnmnpbipencmaaProg
import Derived.Test.YtcnmnpbipencmaaB1
import Derived.WalkKit
import Derived.Deep.QuietTactic
import Derived.BigQuiet
import Derived.Deep.RegionHeld3
import Derived.Laws.BitsAllLaws
import Derived.Test.YtcnmnpbipencmaaB2
import Derived.Test.YtcnmnpbipencmaaB3
import Derived.IntWalk

/-
  CONTRACTS OF THE LAWS' HELPERS OVER []string THAT ONLY READ: szStringS, eqStringS.
-/

namespace Go.Proofs.Ytcnmnpbipencmaa
set_option maxRecDepth 100000
open Go.RowKit

def szGo : Int → List ByteArray → Int
  | l, [] => l
  | l, s :: r => if l - s.size < 0 then -1 else szGo (l - s.size) r

theorem strs_at {ss : List ByteArray} {k : Nat} {u : Value} (h : (ss.map Value.string)[k]? = some u) : ∃ s, ss[k]? = some s ∧ u = .string s := by
  rw [List.getElem?_map] at h
  cases hs : ss[k]? with
  | none => simp [hs] at h
  | some s => simp [hs] at h; exact ⟨s, rfl, h.symm⟩
theorem drop_at {α : Type} {l : List α} {k : Nat} {x : α} (h : l[k]? = some x) : l.drop k = x :: l.drop (k + 1) := by
  obtain ⟨hk, rfl⟩ := List.getElem?_eq_some_iff.1 h
  exact List.drop_eq_getElem_cons hk

theorem below_set_own {B : Nat} {w w' : World} {e : TypeId} {size : Nat} {g cap n : Nat} {xs : List Value} (hb : Below B w w') (hown : w'.ownsRow B e size (.slice (some ⟨g, 0, none⟩) n cap) n xs) (j : Nat) (u : Value) : Below B w (w'.setCell ⟨g, j, none⟩ u) :=
  hb.setCell (hown.lt g rfl).1 _

theorem strInfo : (Try.prog.info? 9).map (fun i => (i.zero, i.size, i.bytes)) = some (some (.string ByteArray.empty), 1, 16) := by kernel_rfl

theorem take_set_eq {α : Type} {xs ys : List α} {k : Nat} {u : α} (h : xs.take k = ys.take k) (hu : ys[k]? = some u) (hl : k < xs.length) : (xs.set k u).take (k + 1) = ys.take (k + 1) := by
  rw [List.take_add_one, List.take_add_one, List.take_set_of_le (Nat.le_refl _), h]
  simp [hu, hl]

end Go.Proofs.Ytcnmnpbipencmaa


/-
  THE CURSOR OVER A DRAW (l1New, l1Byte, l1Below, l1Once, l1Pick, l1PickInt), by contracts: whatever is drawn lies in its range; nothing but the cursor's own block turns.
-/

namespace Go.Proofs.Ytcnmnpbipencmaa
set_option maxRecDepth 100000
open Go.RowKit

/-- A block that is known whole. -/
def Blk (w : World) (g : Nat) (t : TypeId) (cs : Array Value) : Prop := w.heap[g]? = some (.cells cs t (0, 0))
section
variable {w w' : World} {g : Nat} {t : TypeId} {cs : Array Value}
theorem Blk.lt (h : Blk w g t cs) : g < w.heap.size := by
  rcases Nat.lt_or_ge g w.heap.size with hlt | hge
  · exact hlt
  · unfold Blk at h; rw [Array.getElem?_eq_none hge] at h; cases h
theorem Blk.cell (h : Blk w g t cs) (i : Nat) : w.cell? ⟨g, i, none⟩ = cs[i]? := cell_of_row w g i cs t (0, 0) h
theorem Blk.frozen (h : Blk w g t cs) (i : Nat) : w.frozen? ⟨g, i, none⟩ = false := by
  unfold Blk at h
  simp [World.frozen?, h]
theorem Blk.new (w : World) (t : TypeId) (cs : Array Value) : Blk (w.alloc (.cells cs t)) w.heap.size t cs := heap_alloc_new w _
theorem Blk.drewN (h : Blk w g t cs) (n : Nat) : Blk (w.drewN n) g t cs := h
theorem Blk.alloc (h : Blk w g t cs) (o : Obj) : Blk (w.alloc o) g t cs := (Below.heap_alloc w o g h.lt).trans h
theorem Blk.set_ (h : Blk w g t cs) (i : Nat) (u : Value) : Blk (w.setCell ⟨g, i, none⟩ u) g t (cs.setIfInBounds i u) := by
  unfold Blk at h ⊢
  simp [World.setCell, Array.getElem?_modify, h]
theorem Blk.grown {row : Option Nat} (h : Blk w g t cs) (hb : w.grownBy w' row) (hg : some g ≠ row) : Blk w' g t cs := (hb.block g h.lt hg).trans h
theorem Blk.below (h : Blk w g t cs) (hb : Below w.heap.size w w') : Blk w' g t cs := h.grown (grown_of_below hb none) (by simp)
end

/-- THE CURSOR: block cb holds the bytes' slice, the place, the mixed number. -/
def Cur (w : World) (B cb : Nat) : Prop := ∃ (A : Option Addr) (n c k : Nat) (bs : List UInt8) (h : Int),
  Blk w cb 54 #[.slice A n c, .int .i64 k, .int .i64 h] ∧ Reads w B A n (u8s bs) ∧ n ≤ 1048576 ∧ k ≤ n ∧ B ≤ cb
theorem Cur.keep {w w' : World} {B cb : Nat} (h : Cur w B cb) (hg : w.grownBy w' none) : Cur w' B cb := by
  obtain ⟨A, n, c, k, bs, x, hb, hr, hn, hk, hB⟩ := h
  exact ⟨A, n, c, k, bs, x, hb.grown hg (by simp), hr.grown hg (by have := hb.lt; omega) (by simp), hn, hk, hB⟩
theorem Cur.below {w w' : World} {B cb : Nat} (h : Cur w B cb) (hg : Below w.heap.size w w') : Cur w' B cb := h.keep (grown_of_below hg none)
theorem Cur.drewN {w : World} {B cb : Nat} (h : Cur w B cb) (n : Nat) : Cur (w.drewN n) B cb := h
theorem Cur.lt {w : World} {B cb : Nat} (h : Cur w B cb) : cb < w.heap.size := by
  obtain ⟨_, _, _, _, _, _, hb, _⟩ := h
  exact hb.lt

/-- What a draw leaves. -/
def Drawn (B cb : Nat) (w : World) (P : Value → Prop) (e : Ending) (w' : World) : Prop := ∃ v, e = .returned v ∧ P v ∧ Cur w' B cb ∧ w.grownBy w' (some cb)
def IntIn (lo hi : Int) (v : Value) : Prop := ∃ x : Int, v = .int .i64 x ∧ lo ≤ x ∧ x ≤ hi

theorem and255 (x : Int) : 0 ≤ bits .and .i64 x 255 ∧ bits .and .i64 x 255 ≤ 255 := by
  have h : (BitVec.ofInt 64 x &&& BitVec.ofInt 64 255).toNat ≤ 255 := by
    rw [BitVec.toNat_and]
    exact Nat.le_trans Nat.and_le_right (by decide)
  show 0 ≤ IntKind.i64.wrap ((BitVec.ofInt 64 x &&& BitVec.ofInt 64 255).toNat : Int) ∧ IntKind.i64.wrap ((BitVec.ofInt 64 x &&& BitVec.ofInt 64 255).toNat : Int) ≤ 255
  rw [IntKind.wrap_i64]
  omega
theorem grown_set {w : World} {g : Nat} (i : Nat) (u : Value) : w.grownBy (w.setCell ⟨g, i, none⟩ u) (some g) :=
  ⟨rfl, rfl, rfl, by simp, fun k _ hk => heap_setCell_other w ⟨g, i, none⟩ k u (fun e => hk (by simp [e]))⟩
theorem grown_drewN {a w : World} {row : Option Nat} (h : a.grownBy w row) (n : Nat) : a.grownBy (w.drewN n) row := ⟨h.os, h.tape, h.output, h.size, h.block⟩

theorem cur_byte {w : World} {B cb n c k : Nat} {A : Option Addr} {bs : List UInt8} {h : Int} (hb : Blk w cb 54 #[.slice A n c, .int .i64 k, .int .i64 h]) (hr : Reads w B A n (u8s bs)) (hn : n ≤ 1048576) (hk : k + 1 ≤ n) (hB : B ≤ cb) (h' : Int) (m : Nat) :
    Cur (((w.setCell ⟨cb, 2, none⟩ (.int .i64 h')).drewN m).setCell ⟨cb, 1, none⟩ (.int .i64 ((k : Int) + 1))) B cb := by
  refine ⟨A, n, c, k + 1, bs, h', ?_, ?_, hn, hk, hB⟩
  · exact ((hb.set_ 2 (.int .i64 h')).drewN m).set_ 1 (.int .i64 ((k : Int) + 1))
  · exact ((hr.setCell (p := ⟨cb, 2, none⟩) hB _).drewN m).setCell (p := ⟨cb, 1, none⟩) hB _
theorem cur_past {w : World} {B cb n c k : Nat} {A : Option Addr} {bs : List UInt8} {h : Int} (hb : Blk w cb 54 #[.slice A n c, .int .i64 k, .int .i64 h]) (hr : Reads w B A n (u8s bs)) (hn : n ≤ 1048576) (hk : k ≤ n) (hB : B ≤ cb) (h' : Int) (m : Nat) :
    Cur ((w.setCell ⟨cb, 2, none⟩ (.int .i64 h')).drewN m) B cb := by
  refine ⟨A, n, c, k, bs, h', ?_, ?_, hn, hk, hB⟩
  · exact (hb.set_ 2 (.int .i64 h')).drewN m
  · exact (hr.setCell (p := ⟨cb, 2, none⟩) hB _).drewN m

set_option maxRecDepth 100000 in
set_option maxHeartbeats 800000 in
theorem byte_any (B cb : Nat) (w : World) (hc : Cur w B cb) : Calls Try.prog 65 #[.pointer (some ⟨cb, 0, none⟩)] w (Drawn B cb w (IntIn 0 255)) := by
  obtain ⟨A, n, c, k, bs, h, hb, hr, hn, hk, hB⟩ := hc
  have c0 : w.cell? ⟨cb, 0, none⟩ = some (.slice A n c) := hb.cell 0
  have c1 : w.cell? ⟨cb, 1, none⟩ = some (.int .i64 k) := hb.cell 1
  have c2 : w.cell? ⟨cb, 2, none⟩ = some (.int .i64 h) := hb.cell 2
  have f1 := hb.frozen 1
  have f2 := hb.frozen 2
  by_cases hlt : k < n
  · obtain ⟨ad, u, rfl, had, hu, hx⟩ := hr.at_ hlt
    obtain ⟨b, hbk, rfl⟩ := u8_at hu
    have hx2 : ∀ v, (w.setCell ⟨cb, 2, none⟩ v).cell? (ad.add k) = some (.int .u8 b.toNat) := fun v => by
      rw [World.cell?_setCell_other w _ _ _ (fun e => by have := congrArg Addr.block e; rw [block_of_add] at this; simp at this; omega)]
      exact hx
    clear hu hx hbk
    have HB := hide hb
    have HR := hide hr
    clear hb hr
    go_enter Try.func65, Try.ntmps65
    go_wp2
    go_quiet (fail)
    go_wp2
    go_quiet (fail)
    go_wp2
    go_quiet (fail)
    go_wp2
    go_ret
    exact ⟨_, rfl, ⟨_, rfl, (and255 _).1, (and255 _).2⟩, cur_byte (unhide HB) (unhide HR) hn hlt hB _ _, grown_then (grown_drewN (grown_set 2 _) _) (grown_set 1 _)⟩
  · have HB := hide hb
    have HR := hide hr
    clear hb hr
    go_enter Try.func65, Try.ntmps65
    go_wp2
    go_quiet (fail)
    go_wp2
    go_quiet (fail)
    go_wp2
    go_ret
    exact ⟨_, rfl, ⟨_, rfl, (and255 _).1, (and255 _).2⟩, (cur_past (unhide HB) (unhide HR) hn hk hB _ _).drewN _, grown_drewN (grown_drewN (grown_set 2 _) _) _⟩

set_option maxRecDepth 100000 in
set_option maxHeartbeats 800000 in
/-- l1Below: 0 to n - 1; 0 where n is not above 0. -/
theorem below_any (B cb : Nat) (n : Int) (hn : n ≤ 1073741824) (w : World) (hc : Cur w B cb) :
    Calls Try.prog 46 #[.pointer (some ⟨cb, 0, none⟩), .int .i64 n] w (Drawn B cb w (IntIn 0 (if 0 < n then n - 1 else 0))) := by
  have H := hide (fun w hc => byte_any B cb w hc)
  have HC := hide hc
  clear hc
  by_cases h0 : 0 < n
  · rw [if_pos h0]
    by_cases h1 : n ≤ 256
    · go_enter Try.func46, Try.ntmps46
      go_wp2_with fail
      refine (unhide H _ (unhide HC)).mono ?_
      rintro e w1 ⟨v, rfl, ⟨x, rfl, hx0, hx1⟩, hc1, hg1⟩
      have HC1 := hide hc1
      have HG1 := hide hg1
      clear hc1 hg1
      have hm0 : 0 ≤ x % n := Int.emod_nonneg _ (by omega)
      have hm1 : x % n ≤ n - 1 := by have := Int.emod_lt_of_pos x h0; omega
      go_wp2
      go_ret
      exact ⟨_, rfl, ⟨_, rfl, hm0, hm1⟩, unhide HC1, unhide HG1⟩
    · go_enter Try.func46, Try.ntmps46
      go_wp2_with fail
      refine (unhide H _ (unhide HC)).mono ?_
      rintro e w1 ⟨v, rfl, ⟨x, rfl, hx0, hx1⟩, hc1, hg1⟩
      have HC1 := hide hc1
      have HG1 := hide hg1
      clear hc1 hg1
      go_wp2_with fail
      refine (unhide H _ (unhide HC1)).mono ?_
      rintro e w2 ⟨v, rfl, ⟨y, rfl, hy0, hy1⟩, hc2, hg2⟩
      have HC2 := hide hc2
      have HG2 := hide (grown_then (unhide HG1) hg2)
      clear hc2 hg2
      go_wp2_with fail
      refine (unhide H _ (unhide HC2)).mono ?_
      rintro e w3 ⟨v, rfl, ⟨z, rfl, hz0, hz1⟩, hc3, hg3⟩
      have HC3 := hide hc3
      have HG3 := hide (grown_then (unhide HG2) hg3)
      clear hc3 hg3
      go_wp2_with fail
      refine (unhide H _ (unhide HC3)).mono ?_
      rintro e w4 ⟨v, rfl, ⟨u, rfl, hu0, hu1⟩, hc4, hg4⟩
      have HC4 := hide hc4
      have HG4 := hide (grown_then (unhide HG3) hg4)
      clear hc4 hg4
      have hm0 : 0 ≤ (x * 16777216 + y * 65536 + z * 256 + u) % n := Int.emod_nonneg _ (by omega)
      have hm1 : (x * 16777216 + y * 65536 + z * 256 + u) % n ≤ n - 1 := by have := Int.emod_lt_of_pos (x * 16777216 + y * 65536 + z * 256 + u) h0; omega
      go_wp2
      go_ret
      exact ⟨_, rfl, ⟨_, rfl, hm0, hm1⟩, unhide HC4, unhide HG4⟩
  · rw [if_neg h0]
    go_enter Try.func46, Try.ntmps46
    go_wp2
    go_ret
    exact ⟨_, rfl, ⟨_, rfl, Int.le_refl _, Int.le_refl _⟩, unhide HC, World.grownBy.refl _ _⟩

def IsBool (v : Value) : Prop := ∃ b : Bool, v = .bool b
def StrOf (ss : List ByteArray) (v : Value) : Prop := ∃ s, s ∈ ss ∧ v = .string s

def IntOf (zs : List Int) (v : Value) : Prop := ∃ z, z ∈ zs ∧ v = .int .i64 z
set_option maxHeartbeats 800000 in
theorem pickInt_any (B cb g : Nat) (n c : Nat) (zs : List Int) (w : World) (hc : Cur w B cb) (hl : Blk w g 3 (zs.map (Value.int .i64)).toArray) (hne : g ≠ cb) (hn : zs.length = n) (h0 : 0 < n) (h1 : n ≤ 1048576) :
    Calls Try.prog 69 #[.pointer (some ⟨cb, 0, none⟩), .slice (some ⟨g, 0, none⟩) n c] w (Drawn B cb w (IntOf zs)) := by
  have H := hide (below_any B cb n (by omega) w hc)
  have HL := hide hl
  have HN := hide hn
  clear hc hl hn
  go_enter Try.func69, Try.ntmps69
  go_wp2_with fail
  refine (unhide H).mono ?_
  rintro e w1 ⟨v, rfl, ⟨x, rfl, hx0, hx1⟩, hc1, hg1⟩
  rw [if_pos (by omega)] at hx1
  obtain ⟨k, rfl⟩ : ∃ k : Nat, x = k := ⟨x.toNat, by omega⟩
  have hk : k < n := by omega
  have hcell : w1.cell? ⟨g, k, none⟩ = some (.int .i64 (zs[k]'(by have := unhide HN; omega))) := by
    rw [((unhide HL).grown hg1 (by simp; omega)).cell k]
    simp [show k < zs.length by have := unhide HN; omega]
  have hmem : zs[k]'(by have := unhide HN; omega) ∈ zs := List.getElem_mem _
  generalize zs[k]'(by have := unhide HN; omega) = z at hcell hmem
  have HM := hide hmem
  have HC1 := hide hc1
  have HG1 := hide hg1
  clear hc1 hg1 hmem H
  go_wp2
  go_ret
  exact ⟨_, rfl, ⟨_, unhide HM, rfl⟩, unhide HC1, unhide HG1⟩

/-- A new cursor. -/
def NewCur (B : Nat) (w : World) (e : Ending) (w' : World) : Prop := ∃ cb, e = .returned (.pointer (some ⟨cb, 0, none⟩)) ∧ w.heap.size ≤ cb ∧ Cur w' B cb ∧ Below w.heap.size w w'
set_option maxRecDepth 100000 in
set_option maxHeartbeats 800000 in
theorem new_any (A : Option Addr) (n c B : Nat) (bs : List UInt8) (w : World) (hr : Reads w B A n (u8s bs)) (hn : n ≤ 1048576) (hB : B ≤ w.heap.size) :
    Calls Try.prog 45 #[.slice A n c] w (NewCur B w) := by
  go_enter Try.func45, Try.ntmps45
  go_wp2
  go_loop [3, 4] (fun hv i => ∃ (k : Nat) (x : Int), k ≤ n ∧ i = .int .i64 k ∧ hv = .int .i64 x) (fun _ i => n - (intOf i).toNat)
  case atStart => exact ⟨0, _, Nat.zero_le _, rfl, rfl⟩
  case round =>
    obtain ⟨k, x, hk, rfl, rfl⟩ := hrel
    by_cases hlt : k < n
    · obtain ⟨ad, u, rfl, had, hu, hx⟩ := hr.at_ hlt
      obtain ⟨b, hbk, rfl⟩ := u8_at hu
      clear hu hbk
      by_cases h4 : k < 4000
      · go_wp2
        go_round
        case rel => exact ⟨k + 1, _, by omega, by go_num, rfl⟩
        case measure => simp [intOf]; omega
      · go_wp2
        go_ret
        exact ⟨w.heap.size, rfl, Nat.le_refl _, ⟨some ad, n, c, 0, bs, x, Blk.new _ _ _, hr.alloc hB _, hn, Nat.zero_le _, hB⟩, (Below.refl _ _).alloc (Nat.le_refl _) _⟩
    · go_wp2
      go_ret
      exact ⟨w.heap.size, rfl, Nat.le_refl _, ⟨A, n, c, 0, bs, x, Blk.new _ _ _, hr.alloc hB _, hn, Nat.zero_le _, hB⟩, (Below.refl _ _).alloc (Nat.le_refl _) _⟩
end Go.Proofs.Ytcnmnpbipencmaa


/-
  ROWS OF ROWS OF INTEGERS: the words for them, and the contracts of eqIntSS, markIntSS, heldIntSS.
-/

namespace Go.Proofs.Ytcnmnpbipencmaa
set_option maxRecDepth 100000
open Go.RowKit

theorem rowsInfo : (Try.prog.info? 24).map (fun i => (i.zero, i.size, i.bytes)) = some (some (.slice none 0 0), 1, 24) := by kernel_rfl

/-- Nothing that is no list of rows has turned. -/
structure KeepI (w w' : World) : Prop where
  os : w'.os = w.os
  tape : w'.tape = w.tape
  output : w'.output = w.output
  size : w.heap.size ≤ w'.heap.size
  block : ∀ (i : Nat) cur e fr, w.heap[i]? = some (.cells cur e fr) → e ≠ 24 → w'.heap[i]? = w.heap[i]?
theorem KeepI.refl (w : World) : KeepI w w := ⟨rfl, rfl, rfl, Nat.le_refl _, fun _ _ _ _ _ _ => rfl⟩
theorem KeepI.trans {a b c : World} (h : KeepI a b) (k : KeepI b c) : KeepI a c :=
  ⟨k.os.trans h.os, k.tape.trans h.tape, k.output.trans h.output, Nat.le_trans h.size k.size, fun i cur e fr hi he => by
    have h1 := h.block i cur e fr hi he
    exact (k.block i cur e fr (h1.trans hi) he).trans h1⟩
theorem KeepI.of_below {w w' : World} (h : Below w.heap.size w w') : KeepI w w' :=
  ⟨h.os, h.tape, h.output, h.size, fun i _ _ _ hi _ => h.block i (Array.getElem?_eq_some_iff.1 hi).1⟩
theorem KeepI.of_grown {w w' : World} {B n : Nat} {v : Value} {xs : List Value} (hown : w.ownsRow B 24 1 v n xs) (h : w.grownBy w' v.ownBlock) : KeepI w w' :=
  ⟨h.os, h.tape, h.output, h.size, fun i cur e fr hi he => by
    refine h.block i (Array.getElem?_eq_some_iff.1 hi).1 fun hv => ?_
    rcases hown.2 with ⟨rfl, _⟩ | ⟨g, cap, cur', rfl, _, hg, _⟩
    · simp [Value.ownBlock] at hv
    · simp [Value.ownBlock] at hv
      subst hv
      rw [hi] at hg
      injection hg with hg
      injection hg with _ h2
      exact he h2⟩
theorem Ints.keepI {w w' : World} {B : Nat} {v : Value} {zs : List Int} (h : Ints w B v zs) (hk : KeepI w w') : Ints w' B v zs := by
  refine ⟨h.1, ?_⟩
  rcases h.2 with hn | ⟨g, cap, cur, e, rfl, hb, hgg, h1, h2, he⟩
  · exact .inl hn
  · exact .inr ⟨g, cap, cur, e, rfl, hb, (hk.block g cur e _ hgg he).trans hgg, h1, h2, he⟩
/-- No row lies where a list of rows lies. -/
theorem rows_apart {w : World} {B B' n : Nat} {v u : Value} {xs : List Value} {zs : List Int} (hown : w.ownsRow B 24 1 v n xs) (h : Ints w B' u zs) : v.ownBlock = none ∨ v.ownBlock ≠ u.ownBlock := by
  rcases hown.2 with ⟨rfl, _⟩ | ⟨g, cap, cur, rfl, _, hg, _⟩
  · exact .inl rfl
  · refine .inr fun e => ?_
    rcases h.2 with ⟨rfl, _⟩ | ⟨g', cap', cur', t, rfl, _, hg', _, _, he⟩
    · simp [Value.ownBlock] at e
    · simp [Value.ownBlock] at e
      subst e
      rw [hg] at hg'
      injection hg' with hg'
      injection hg' with _ h2
      exact he h2.symm

def Away (a b : Value) : Prop := a.ownBlock = none ∨ a.ownBlock ≠ b.ownBlock
theorem Away.symm {a b : Value} (h : Away a b) : b.ownBlock = none ∨ b.ownBlock ≠ a.ownBlock := by
  rcases h with h | h
  · cases hb : b.ownBlock with
    | none => exact .inl rfl
    | some k => exact .inr (by rw [h]; simp)
  · exact .inr fun e => h e.symm
/-- The values vs are rows that hold the lists zss, no two at one place. -/
structure Inner (w : World) (B : Nat) (vs : List Value) (zss : List (List Int)) : Prop where
  len : vs.length = zss.length
  row : ∀ (i : Nat) u zs, vs[i]? = some u → zss[i]? = some zs → Ints w B u zs
  away : vs.Pairwise Away
theorem Inner.nil (w : World) (B : Nat) : Inner w B [] [] := ⟨rfl, fun i u zs h => by simp at h, List.Pairwise.nil⟩
theorem Inner.keepI {w w' : World} {B : Nat} {vs : List Value} {zss : List (List Int)} (h : Inner w B vs zss) (hk : KeepI w w') : Inner w' B vs zss :=
  ⟨h.len, fun i u zs hu hz => (h.row i u zs hu hz).keepI hk, h.away⟩
theorem Inner.low {w : World} {B B' : Nat} {vs : List Value} {zss : List (List Int)} (h : Inner w B vs zss) (hB : B' ≤ B) : Inner w B' vs zss :=
  ⟨h.len, fun i u zs hu hz => (h.row i u zs hu hz).low hB, h.away⟩
theorem Inner.push {w : World} {B : Nat} {vs : List Value} {zss : List (List Int)} {u : Value} {zs : List Int} (h : Inner w B vs zss) (hu : Ints w B u zs) (ha : ∀ x ∈ vs, Away x u) : Inner w B (vs ++ [u]) (zss ++ [zs]) := by
  refine ⟨by simp [h.len], fun i x ys hx hy => ?_, ?_⟩
  · have hl := h.len
    by_cases hi : i < vs.length
    · rw [List.getElem?_append_left hi] at hx
      rw [List.getElem?_append_left (by omega)] at hy
      exact h.row i x ys hx hy
    · rw [List.getElem?_append_right (by omega)] at hx
      rw [List.getElem?_append_right (by omega), ← hl] at hy
      have h0 : i - vs.length = 0 := by
        have := (List.getElem?_eq_some_iff.1 hx).1
        simp at this
        omega
      rw [h0] at hx hy
      simp at hx hy
      subst hx; subst hy
      exact hu
  · rw [List.pairwise_append]
    refine ⟨h.away, by simp, fun a ha' b hb => ?_⟩
    rw [List.mem_singleton] at hb
    subst hb
    exact ha a ha'
theorem Inner.mem {w : World} {B : Nat} {vs : List Value} {zss : List (List Int)} (h : Inner w B vs zss) {u : Value} (hu : u ∈ vs) : ∃ zs, Ints w B u zs := by
  obtain ⟨i, hi, rfl⟩ := List.getElem_of_mem hu
  exact ⟨_, h.row i _ (zss[i]'(by rw [← h.len]; exact hi)) (List.getElem?_eq_getElem hi) (List.getElem?_eq_getElem _)⟩
/-- A row made behind all of vs is away from them. -/
theorem Inner.away_new {w : World} {B B' : Nat} {vs : List Value} {zss : List (List Int)} (h : Inner w B vs zss) {u : Value} (hu : Since B' u) (hB : w.heap.size ≤ B') : ∀ x ∈ vs, Away x u := fun x hx => by
  obtain ⟨zs, hz⟩ := h.mem hx
  exact apart hz.until_ hu hB

/-- A list of rows of the call's own. -/
def IntsS (w : World) (B : Nat) (v : Value) (zss : List (List Int)) : Prop := ∃ vs, w.ownsRow B 24 1 v zss.length vs ∧ Inner w B vs zss
theorem IntsS.slice {w : World} {B : Nat} {v : Value} {zss : List (List Int)} (h : IntsS w B v zss) : ∃ A c, v = .slice A zss.length c := by
  obtain ⟨vs, h, _⟩ := h
  rcases h.2 with ⟨rfl, hz⟩ | ⟨g, cap, cur, rfl, _⟩
  · exact ⟨none, 0, by rw [hz]⟩
  · exact ⟨_, _, rfl⟩
theorem IntsS.below {w w' : World} {B : Nat} {v : Value} {zss : List (List Int)} (h : IntsS w B v zss) (hb : Below w.heap.size w w') : IntsS w' B v zss := by
  obtain ⟨vs, h1, h2⟩ := h
  exact ⟨vs, own_below h1 hb, h2.keepI (KeepI.of_below hb)⟩
theorem IntsS.low {w : World} {B B' : Nat} {v : Value} {zss : List (List Int)} (h : IntsS w B v zss) (hB : B' ≤ B) : IntsS w B' v zss := by
  obtain ⟨vs, h1, h2⟩ := h
  refine ⟨vs, ⟨h1.1, ?_⟩, h2.low hB⟩
  rcases h1.2 with h0 | ⟨g, cap, cur, hv, hb, hr⟩
  · exact .inl h0
  · exact .inr ⟨g, cap, cur, hv, Nat.le_trans hB hb, hr⟩
theorem IntsS.nil (w : World) (B : Nat) : IntsS w B (.slice none 0 0) [] := ⟨[], ⟨rfl, .inl ⟨rfl, rfl⟩⟩, Inner.nil w B⟩
theorem ownS0 (w : World) (B : Nat) (hB : B ≤ w.heap.size) : (w.alloc (.cells #[] 24)).ownsRow B 24 1 (.slice (some ⟨w.heap.size, 0, none⟩) 0 0) 0 [] :=
  World.ownsRow_made (base := B) (e := 24) (size := 1) w #[] 0 hB (by simp [maxLen]) rfl
theorem IntsS.made0 (w : World) (B : Nat) (hB : B ≤ w.heap.size) : IntsS (w.alloc (.cells #[] 24)) B (.slice (some ⟨w.heap.size, 0, none⟩) 0 0) [] := ⟨[], ownS0 w B hB, Inner.nil _ _⟩
/-- Behind a change of what lies at or above B'. -/
theorem IntsS.stay {w w' : World} {B B' : Nat} {v : Value} {zss : List (List Int)} (h : IntsS w B v zss) (hb : Below B' w w') (hu : w.heap.size ≤ B') : IntsS w' B v zss := h.below (hb.mono hu)
def GivesSS (w : World) (zss : List (List Int)) (e : Ending) (w' : World) : Prop := ∃ A c, e = .returned (.slice A zss.length c) ∧ IntsS w' w.heap.size (.slice A zss.length c) zss ∧ Below w.heap.size w w'
theorem GivesSS.mk {w w' : World} {v : Value} {zss : List (List Int)} (h : IntsS w' w.heap.size v zss) (hb : Below w.heap.size w w') : GivesSS w zss (.returned v) w' := by
  obtain ⟨A, c, rfl⟩ := h.slice
  exact ⟨A, c, rfl, h, hb⟩

/-- .. that lies below U. -/
def Sealed (w : World) (B U : Nat) (v : Value) (zss : List (List Int)) : Prop := ∃ vs, w.ownsRow B 24 1 v zss.length vs ∧ Inner w B vs zss ∧ Until U v ∧ ∀ x ∈ vs, Until U x
theorem IntsS.sealed {w : World} {B : Nat} {v : Value} {zss : List (List Int)} (h : IntsS w B v zss) : Sealed w B w.heap.size v zss := by
  obtain ⟨vs, h1, h2⟩ := h
  refine ⟨vs, h1, h2, fun k hk => (h1.lt k hk).2, fun x hx => ?_⟩
  obtain ⟨zs, hz⟩ := h2.mem hx
  exact hz.until_
theorem Sealed.opened {w : World} {B U : Nat} {v : Value} {zss : List (List Int)} (h : Sealed w B U v zss) : IntsS w B v zss := by
  obtain ⟨vs, h1, h2, _⟩ := h
  exact ⟨vs, h1, h2⟩
theorem Sealed.below {w w' : World} {B U : Nat} {v : Value} {zss : List (List Int)} (h : Sealed w B U v zss) (hb : Below w.heap.size w w') : Sealed w' B U v zss := by
  obtain ⟨vs, h1, h2, h3⟩ := h
  exact ⟨vs, own_below h1 hb, h2.keepI (KeepI.of_below hb), h3⟩
theorem Row.stay {w w' : World} {B B' n : Nat} {v : Value} {xs : List Value} (h : Row w B v n xs) (hu : Until B' v) (hb : Below B' w w') : Row w' B v n xs := by
  refine ⟨h.1, ?_⟩
  rcases h.2 with hn | ⟨g, cap, cur, e, rfl, hB, hgg, rest⟩
  · exact .inl hn
  · exact .inr ⟨g, cap, cur, e, rfl, hB, (hb.block g (hu g rfl)).trans hgg, rest⟩
theorem Ints.stay {w w' : World} {B B' U : Nat} {v : Value} {zs : List Int} (h : Ints w B v zs) (hu : Until U v) (hb : Below B' w w') (hU : U ≤ B') : Ints w' B v zs := Row.stay h (hu.mono hU) hb
theorem own_stay {w w' : World} {B B' n : Nat} {e : TypeId} {v : Value} {xs : List Value} (h : w.ownsRow B e 1 v n xs) (hu : Until B' v) (hb : Below B' w w') : w'.ownsRow B e 1 v n xs := by
  refine ⟨h.1, ?_⟩
  rcases h.2 with hn | ⟨g, cap, cur, rfl, hB, hgg, rest⟩
  · exact .inl hn
  · exact .inr ⟨g, cap, cur, rfl, hB, (hb.block g (hu g rfl)).trans hgg, rest⟩
theorem Sealed.stay {w w' : World} {B U B' : Nat} {v : Value} {zss : List (List Int)} (h : Sealed w B U v zss) (hb : Below B' w w') (hU : U ≤ B') : Sealed w' B U v zss := by
  obtain ⟨vs, h1, h2, h3, h4⟩ := h
  exact ⟨vs, own_stay h1 (h3.mono hU) hb, ⟨h2.len, fun i u zs hu hz => (h2.row i u zs hu hz).stay (h4 u (List.mem_of_getElem? hu)) hb hU, h2.away⟩, h3, h4⟩
/-- Behind a change of one row u that lies before it. -/
theorem Sealed.after {w w' : World} {B U E : Nat} {v u : Value} {zss : List (List Int)} (h : Sealed w B U v zss) (hg : w.grownBy w' u.ownBlock) (hu : Until E u) (hE : E ≤ B) : Sealed w' B U v zss := by
  obtain ⟨vs, h1, h2, h3⟩ := h
  refine ⟨vs, h1.kept hg (apart' (fun k hk => (h1.lt k hk).1) hu hE), ⟨h2.len, fun i x zs hx hz => ?_, h2.away⟩, h3⟩
  have hr := h2.row i x zs hx hz
  exact hr.kept hg (apart' hr.since hu hE)
/-- What lies at place i: the row's value, and what it reads. -/
theorem IntsS.at_ {w : World} {B n c : Nat} {A : Option Addr} {zss : List (List Int)} (h : IntsS w B (.slice A n c) zss) {i : Nat} (hi : i < n) :
    ∃ ad A' c' zs, A = some ad ∧ zss[i]? = some zs ∧ w.cell? (ad.add i) = some (.slice A' zs.length c') ∧ Ints w B (.slice A' zs.length c') zs := by
  obtain ⟨vs, h1, h2⟩ := h
  have hn : n = zss.length := by
    rcases h1.2 with ⟨hv, hz⟩ | ⟨g, cap, cur, hv, _⟩
    · injection hv with _ h3; omega
    · injection hv
  subst hn
  obtain ⟨ad, u, hA, _, hu, hc⟩ := (Reads.of_own_at h1).at_ hi
  have hz : zss[i]? = some zss[i] := List.getElem?_eq_getElem hi
  have hr := h2.row i u _ hu hz
  obtain ⟨A', c', rfl⟩ := hr.slice
  exact ⟨ad, A', c', _, hA, hz, hc, hr⟩
theorem IntsS.len {w : World} {B n c : Nat} {A : Option Addr} {zss : List (List Int)} (h : IntsS w B (.slice A n c) zss) : zss.length = n := by
  obtain ⟨A', c', hv⟩ := h.slice
  injection hv with _ h2; exact h2.symm

theorem Drew.keepI {w w' : World} (h : Drew w w') : KeepI w w' := KeepI.of_below (h.below _)
theorem tot_at {zss : List (List Int)} {i : Nat} {zs : List Int} (h : zss[i]? = some zs) : zs.length ≤ tot zss := by
  have h1 := tot_step h
  have h2 := tot_take zss (i + 1)
  omega
/-- The marks from k on, row by row. -/
def mkS (k : Nat) : List (List Int) → List (List Int)
  | [] => []
  | z :: r => marksI k z.length :: mkS (k + z.length) r
theorem mkS_length : ∀ (k : Nat) (zss : List (List Int)), (mkS k zss).length = zss.length
  | _, [] => rfl
  | k, z :: r => by rw [mkS, List.length_cons, List.length_cons, mkS_length _ r]
theorem mkS_at : ∀ (k : Nat) (zss : List (List Int)) (i : Nat) (z : List Int), zss[i]? = some z → (mkS k zss)[i]? = some (marksI (k + tot (zss.take i)) z.length)
  | _, [], i, z, h => by simp at h
  | k, y :: r, 0, z, h => by
    simp at h
    subst h
    simp [mkS, tot]
  | k, y :: r, i + 1, z, h => by
    have := mkS_at (k + y.length) r i z (by simpa using h)
    rw [mkS, List.getElem?_cons_succ, this]
    simp [tot, Nat.add_assoc]
end Go.Proofs.Ytcnmnpbipencmaa


/-
  DRAWS OF ROWS OF INTEGERS: spec.l2Draw, spec.l2Any, spec.l2Bent, by their contracts.
-/

namespace Go.Proofs.Ytcnmnpbipencmaa
set_option maxRecDepth 100000
open Go.RowKit

/-- What a call that draws has done so far: the cursor stands in block cb; of the blocks that were there the cursor's alone may have turned. -/
structure Side (B cb : Nat) (w wr : World) : Prop where
  cur : Cur wr B cb
  lt : cb < w.heap.size
  gr : w.grownBy wr (some cb)
theorem Cur.base {w : World} {B cb : Nat} (h : Cur w B cb) : B ≤ cb := by
  obtain ⟨_, _, _, _, _, _, _, _, _, _, hB⟩ := h
  exact hB
theorem Side.start {B cb : Nat} {w : World} (h : Cur w B cb) : Side B cb w w := ⟨h, h.lt, World.grownBy.refl w _⟩
theorem Side.size {B cb : Nat} {w wr : World} (h : Side B cb w wr) : w.heap.size ≤ wr.heap.size := h.gr.size
theorem Cur.low {w w' : World} {B cb L : Nat} (h : Cur w B cb) (hL : cb < L) (hb : Below L w w') : Cur w' B cb := by
  obtain ⟨A, n, c, k, bs, x, h1, hr, hn, hk, hB⟩ := h
  exact ⟨A, n, c, k, bs, x, (hb.block cb hL).trans h1, hr.below (hb.mono (by omega)), hn, hk, hB⟩
/-- Work of the call's own. -/
theorem Side.low {B cb : Nat} {w wr w' : World} (h : Side B cb w wr) (hb : Below w.heap.size wr w') : Side B cb w w' :=
  ⟨h.cur.low h.lt hb, h.lt, ⟨hb.os.trans h.gr.os, hb.tape.trans h.gr.tape, hb.output.trans h.gr.output, Nat.le_trans h.gr.size hb.size, fun i hi hne => (hb.block i hi).trans (h.gr.block i hi hne)⟩⟩
theorem Side.below {B cb : Nat} {w wr w' : World} (h : Side B cb w wr) (hb : Below wr.heap.size wr w') : Side B cb w w' := h.low (hb.mono h.size)
/-- A draw. -/
theorem Side.drawn {B cb : Nat} {w wr w' : World} (h : Side B cb w wr) (hc : Cur w' B cb) (hg : wr.grownBy w' (some cb)) : Side B cb w w' := ⟨hc, h.lt, grown_then h.gr hg⟩
theorem own_drawn {w w' : World} {B cb n : Nat} {e : TypeId} {v : Value} {xs : List Value} (h : w.ownsRow B e 1 v n xs) (hg : w.grownBy w' (some cb)) (hc : cb < B) : w'.ownsRow B e 1 v n xs := by
  refine h.kept hg ?_
  cases hv : v.ownBlock with
  | none => exact .inl rfl
  | some k => exact .inr (fun e => by have := (h.lt k hv).1; injection e with e; omega)
theorem Ints.drawn {w w' : World} {B cb : Nat} {v : Value} {zs : List Int} (h : Ints w B v zs) (hg : w.grownBy w' (some cb)) (hc : cb < B) : Ints w' B v zs := by
  refine h.kept hg ?_
  cases hv : v.ownBlock with
  | none => exact .inl rfl
  | some k => exact .inr (fun e => by have := h.since k hv; injection e with e; omega)
theorem Inner.drawn {w w' : World} {B cb : Nat} {vs : List Value} {zss : List (List Int)} (h : Inner w B vs zss) (hg : w.grownBy w' (some cb)) (hc : cb < B) : Inner w' B vs zss :=
  ⟨h.len, fun i u zs hu hz => (h.row i u zs hu hz).drawn hg hc, h.away⟩
theorem IntsS.drawn {w w' : World} {B cb : Nat} {v : Value} {zss : List (List Int)} (h : IntsS w B v zss) (hg : w.grownBy w' (some cb)) (hc : cb < B) : IntsS w' B v zss := by
  obtain ⟨vs, h1, h2⟩ := h
  exact ⟨vs, own_drawn h1 hg hc, h2.drawn hg hc⟩

/-- What is drawn is short and its numbers have 64 bits. -/
def Lite (L : Nat) (zs : List Int) : Prop := zs.length ≤ L ∧ Small zs
/-- A row that was drawn, with room to grow. -/
def DrawnO (B cb : Nat) (w : World) (L : Nat) (e : Ending) (w' : World) : Prop :=
  ∃ A c zs, e = .returned (.slice A zs.length c) ∧ Lite L zs ∧ w'.ownsRow w.heap.size 3 1 (.slice A zs.length c) zs.length (i64s zs) ∧ Cur w' B cb ∧ w.grownBy w' (some cb)
/-- .. of a known length. -/
def DrawnE (B cb : Nat) (w : World) (L : Nat) (e : Ending) (w' : World) : Prop :=
  ∃ A c zs, e = .returned (.slice A L c) ∧ zs.length = L ∧ Small zs ∧ w'.ownsRow w.heap.size 3 1 (.slice A L c) L (i64s zs) ∧ Cur w' B cb ∧ w.grownBy w' (some cb)
theorem DrawnE.mk {B cb L : Nat} {w w' : World} {v : Value} {zs : List Int} (hI : w'.ownsRow w.heap.size 3 1 v L (i64s zs)) (hn : zs.length = L) (hl : Small zs) (h : Side B cb w w') : DrawnE B cb w L (.returned v) w' := by
  obtain ⟨A, c, rfl, _⟩ := Reads.of_own hI
  exact ⟨A, c, zs, rfl, hn, hl, hI, h.cur, h.gr⟩
theorem DrawnO.mk {B cb L : Nat} {w w' : World} {v : Value} {zs : List Int} (hI : w'.ownsRow w.heap.size 3 1 v zs.length (i64s zs)) (hl : Lite L zs) (h : Side B cb w w') : DrawnO B cb w L (.returned v) w' := by
  obtain ⟨A, c, rfl, _⟩ := Reads.of_own hI
  exact ⟨A, c, zs, rfl, hl, hI, h.cur, h.gr⟩
/-- A row that was drawn. -/
def DrawnI (B cb : Nat) (w : World) (L : Nat) (e : Ending) (w' : World) : Prop :=
  ∃ A c zs, e = .returned (.slice A zs.length c) ∧ Lite L zs ∧ Ints w' w.heap.size (.slice A zs.length c) zs ∧ Cur w' B cb ∧ w.grownBy w' (some cb)
theorem DrawnI.mk {B cb L : Nat} {w w' : World} {v : Value} {zs : List Int} (hI : Ints w' w.heap.size v zs) (hl : Lite L zs) (h : Side B cb w w') : DrawnI B cb w L (.returned v) w' := by
  obtain ⟨A, c, rfl⟩ := hI.slice
  exact ⟨A, c, zs, rfl, hl, hI, h.cur, h.gr⟩
theorem Lite.more {L L' : Nat} {zs : List Int} (h : Lite L zs) (hL : L ≤ L') : Lite L' zs := ⟨Nat.le_trans h.1 hL, h.2⟩
theorem Lite.arg {w : World} {B n c L : Nat} {A : Option Addr} {zs : List Int} (h : Lite L zs) (hI : Ints w B (.slice A n c) zs) (hL : L ≤ 1048576) : Arg w w.heap.size A n c zs :=
  hI.arg (by have := hI.len; have := h.1; omega) hI.cap h.2
theorem small_nil : Small [] := fun z hz => by simp at hz
theorem small_put {zs : List Int} {at_ : Nat} {k : Int} (h : Small zs) (hk : -9223372036854775808 ≤ k ∧ k ≤ 9223372036854775807) : Small (zs.take at_ ++ [k] ++ zs.drop at_) := fun z hz => by
  rcases List.mem_append.1 hz with hz | hz
  · rcases List.mem_append.1 hz with hz | hz
    · exact h z (List.mem_of_mem_take hz)
    · rw [List.mem_singleton] at hz; subst hz; exact hk
  · exact h z (List.mem_of_mem_drop hz)

theorem own_base {w : World} {B B' n : Nat} {e : TypeId} {v : Value} {xs : List Value} (h : w.ownsRow B e 1 v n xs) (hB : B' ≤ B) : w.ownsRow B' e 1 v n xs := by
  refine ⟨h.1, ?_⟩
  rcases h.2 with h2 | ⟨g, cap, cur, e, hb, h2⟩
  · exact .inl h2
  · exact .inr ⟨g, cap, cur, e, Nat.le_trans hB hb, h2⟩
theorem take_i64 (zs : List Int) (s : Nat) : (i64s zs).take s = i64s (zs.take s) := by unfold i64s; rw [List.map_take]
theorem drop_i64 (zs : List Int) (s : Nat) : (i64s zs).drop s = i64s (zs.drop s) := by unfold i64s; rw [List.map_drop]
theorem i64_snoc2 (xs : List Int) (z : Int) : i64s xs ++ [Value.int .i64 z] = i64s (xs ++ [z]) := by unfold i64s; simp

set_option maxHeartbeats 1600000 in
theorem l2drawE_any (B cb m : Nat) (hm : m ≤ 16) (w : World) (hc : Cur w B cb) :
    Calls Try.prog 68 #[.pointer (some ⟨cb, 0, none⟩), .int .i64 m] w (DrawnE B cb w m) := by
  obtain ⟨i0, hi, hz0, hz1, hz2⟩ := info_parts intInfo
  have hS0 := Side.start hc
  have hst := own0 w w.heap.size (Nat.le_refl _)
  have hS := hS0.below ((Below.refl w.heap.size w).alloc (Nat.le_refl _) (.cells #[] 3))
  clear hS0 hc
  go_enter Try.func68, Try.ntmps68
  go_wp2
  go_loopw [5, 6, 7, 8] (fun v i _ _ wr => ∃ (k : Nat) (zs : List Int) (g cap : Nat), k ≤ m ∧ i = .int .i64 ((k : Int) + 1) ∧ v = .slice (some ⟨g, 0, none⟩) k cap ∧ zs.length = k ∧ k ≤ cap ∧ w.heap.size ≤ g ∧ Hid (Small zs) ∧ Side B cb w wr ∧ wr.ownsRow w.heap.size 3 1 (.slice (some ⟨g, 0, none⟩) k cap) k (i64s zs)) (fun _ i _ _ _ => m + 1 - (intOf i).toNat)
  case atStart => exact ⟨0, [], w.heap.size, 0, Nat.zero_le _, rfl, rfl, rfl, Nat.le_refl _, Nat.le_refl _, small_nil, hS, hst⟩
  case round =>
    obtain ⟨k, zs, g, cap, hk, rfl, rfl, hzl, hkc, hgb, hsm, hS, hown⟩ := hrel
    clear hst
    by_cases hlt : k < m
    · have H1 := hide (below_any B cb ((k : Int) + 1) (by omega) wr hS.cur)
      have hlt' : (k : Int) + 1 ≤ (m : Int) := by omega
      have HZL := hide hzl
      clear hzl
      go_wp2_with fail
      refine (unhide H1).mono ?_
      rintro e w1 ⟨v, rfl, ⟨x, rfl, hx0, hx1⟩, hc1, hg1⟩
      rw [if_pos (by omega)] at hx1
      obtain ⟨s, rfl⟩ : ∃ s : Nat, x = s := ⟨x.toNat, by omega⟩
      have hsk : s ≤ k := by omega
      have hown1 := own_drawn hown hg1 hS.lt
      have hS1 := hS.drawn hc1 hg1
      clear H1 hown hc1 hg1 hS hx0 hx1
      by_cases hsc : s < cap
      · have hsc' : (s : Int) < (cap : Int) := by omega
        have hsk' : (s : Int) ≤ (k : Int) := by omega
        have hE := own0 w1 w1.heap.size (Nat.le_refl _)
        have hal := (Below.refl w1.heap.size w1).alloc (Nat.le_refl _) (.cells #[] 3)
        have hsz1 := hS1.size
        have hA : Arg (w1.alloc (.cells #[] 3)) w1.heap.size (some ⟨g, s, none⟩) (k - s) (cap - s) (zs.drop s) := by
          refine ⟨by rw [← drop_i64]; exact (own_rest hown1 hsk).below hal, by simp, by omega, by omega, fun z hz => unhide hsm z (List.mem_of_mem_drop hz), fun e => by cases e⟩
        go_wp2_with (first
          | (at_builtin; refine wpList_append_arg rfl (.tmp 20) (.tmp 23) rfl w1.heap.size w1.heap.size 0 (k - s) (cap - s) w1 _ (some ⟨g, s, none⟩) [] (zs.drop s) rfl rfl hE hA (by omega) hal hal.size ?_))
        intro v2 w2 hown2 hb2 hg2
        clear hE hA hal hg2
        have hown3 := own_cut (own_below hown1 hb2) hsk
        rw [take_i64] at hown3
        have hS2 := hS1.below hb2
        have hgw1 := (hown1.lt g rfl).2
        clear hown1 hS1
        go_wp2_with (first
          | (at_builtin; refine wpList_append_one rfl (.tmp 27) (.tmp 29) 24 rfl w.heap.size 3 i0 (.int .i64 0) 8 Try.underlying24 hi hz0 hz1 hz2 rfl w2 w2 _ _ _ rfl hown3 (.int .i64 ((k : Int) + 1)) rfl rfl rfl (by omega) (by unfold maxLen; omega) (Below.refl _ _) hS2.size ?_))
        intro v4 w4 hown4 hb4 hg4
        have hI2 : Ints w4 w1.heap.size v2 (zs.drop s) := by
          have h : Ints w2 w1.heap.size v2 (zs.drop s) := Ints.of_own hown2
          refine h.kept hg4 ?_
          cases hv : v2.ownBlock with
          | none => exact .inl rfl
          | some q => exact .inr (fun e => by have := h.since q hv; simp [Value.ownBlock] at e; omega)
        obtain ⟨A2, c2, rfl, _⟩ := Reads.of_own hown2
        have hdl : (zs.drop s).length = k - s := by have h := hown2.1; rw [i64_length] at h; omega
        have hA4 := hI2.arg (by omega) hI2.cap (show Small (zs.drop s) from fun z hz => unhide hsm z (List.mem_of_mem_drop hz))
        rw [i64_snoc2] at hown4
        have hS4 := hS2.low hb4
        clear hown2 hI2 hown3 hS2 hg4 hb2
        go_wp2_with (first
          | (at_builtin; refine wpList_append_arg rfl (.tmp 30) (.tmp 31) rfl w.heap.size w4.heap.size (s + 1) (k - s) c2 w4 _ A2 (zs.take s ++ [(k : Int) + 1]) (zs.drop s) rfl rfl hown4 hA4 (by omega) (Below.refl _ _) hS4.size ?_))
        intro v5 w5 hown5 hb5 hg5
        obtain ⟨g5, c5, rfl, hg5b, hc5⟩ := own_first hown5 (by omega)
        have hS5 := hS4.low hb5
        have hk1 : s + 1 + (k - s) = k + 1 := by omega
        rw [hk1] at hown5 hc5 ⊢
        have hsm5 := hide (small_put (at_ := s) (k := (k : Int) + 1) (unhide hsm) (by omega))
        have hlen5 : (zs.take s ++ [(k : Int) + 1] ++ zs.drop s).length = k + 1 := by
          have := unhide HZL
          simp only [List.length_append, List.length_take, List.length_drop, List.length_singleton]; omega
        clear hown4 hA4 hS4 hb4 hb5 hg5
        go_wp2
        go_roundw
        case rel => exact ⟨k + 1, _, g5, c5, by omega, by go_num, rfl, hlen5, hc5, hg5b, hsm5, hS5, by rw [List.append_assoc]; exact hown5⟩
        case measure => simp [intOf]; omega
      · have hsk2 : s = k := by omega
        have hkc2 : k = cap := by omega
        subst hsk2
        subst hkc2
        have hsk' : (s : Int) ≤ (s : Int) := by omega
        have hE := own0 w1 w1.heap.size (Nat.le_refl _)
        have hal := (Below.refl w1.heap.size w1).alloc (Nat.le_refl _) (.cells #[] 3)
        have hsz1 := hS1.size
        have hA : Arg (w1.alloc (.cells #[] 3)) w1.heap.size (some ⟨g, 0, none⟩) (0) (0) (zs.drop s) := by
          have hz0 : zs.drop s = [] := List.drop_of_length_le (by have := unhide HZL; omega)
          rw [hz0]
          exact ⟨⟨rfl, fun h => absurd h (by omega)⟩, by simp, by omega, by omega, small_nil, fun e => by cases e⟩
        go_wp2_with (first
          | (at_builtin; refine wpList_append_arg rfl (.tmp 20) (.tmp 23) rfl w1.heap.size w1.heap.size 0 (0) (0) w1 _ (some ⟨g, 0, none⟩) [] (zs.drop s) rfl rfl hE hA (by omega) hal hal.size ?_))
        intro v2 w2 hown2 hb2 hg2
        clear hE hA hal hg2
        have hown3 := own_cut (own_below hown1 hb2) hsk
        rw [take_i64] at hown3
        have hS2 := hS1.below hb2
        have hgw1 := (hown1.lt g rfl).2
        clear hown1 hS1
        go_wp2_with (first
          | (at_builtin; refine wpList_append_one rfl (.tmp 27) (.tmp 29) 24 rfl w.heap.size 3 i0 (.int .i64 0) 8 Try.underlying24 hi hz0 hz1 hz2 rfl w2 w2 _ _ _ rfl hown3 (.int .i64 ((s : Int) + 1)) rfl rfl rfl (by omega) (by unfold maxLen; omega) (Below.refl _ _) hS2.size ?_))
        intro v4 w4 hown4 hb4 hg4
        have hI2 : Ints w4 w1.heap.size v2 (zs.drop s) := by
          have h : Ints w2 w1.heap.size v2 (zs.drop s) := Ints.of_own hown2
          refine h.kept hg4 ?_
          cases hv : v2.ownBlock with
          | none => exact .inl rfl
          | some q => exact .inr (fun e => by have := h.since q hv; simp [Value.ownBlock] at e; omega)
        obtain ⟨A2, c2, rfl, _⟩ := Reads.of_own hown2
        have hdl : (zs.drop s).length = 0 := by have h := hown2.1; rw [i64_length] at h; omega
        have hA4 := hI2.arg (by omega) hI2.cap (show Small (zs.drop s) from fun z hz => unhide hsm z (List.mem_of_mem_drop hz))
        rw [i64_snoc2] at hown4
        have hS4 := hS2.low hb4
        clear hown2 hI2 hown3 hS2 hg4 hb2
        go_wp2_with (first
          | (at_builtin; refine wpList_append_arg rfl (.tmp 30) (.tmp 31) rfl w.heap.size w4.heap.size (s + 1) (0) c2 w4 _ A2 (zs.take s ++ [(s : Int) + 1]) (zs.drop s) rfl rfl hown4 hA4 (by omega) (Below.refl _ _) hS4.size ?_))
        intro v5 w5 hown5 hb5 hg5
        obtain ⟨g5, c5, rfl, hg5b, hc5⟩ := own_first hown5 (by omega)
        have hS5 := hS4.low hb5
        have hk1 : s + 1 + (0) = s + 1 := by omega
        rw [hk1] at hown5 hc5 ⊢
        have hsm5 := hide (small_put (at_ := s) (k := (s : Int) + 1) (unhide hsm) (by omega))
        have hlen5 : (zs.take s ++ [(s : Int) + 1] ++ zs.drop s).length = s + 1 := by
          have := unhide HZL
          simp only [List.length_append, List.length_take, List.length_drop, List.length_singleton]; omega
        clear hown4 hA4 hS4 hb4 hb5 hg5
        go_wp2
        go_roundw
        case rel => exact ⟨s + 1, _, g5, c5, by omega, by go_num, rfl, hlen5, hc5, hg5b, hsm5, hS5, by rw [List.append_assoc]; exact hown5⟩
        case measure => simp [intOf]; omega
    · obtain rfl : k = m := by omega
      have hlt' : ¬ (k : Int) + 1 ≤ (k : Int) := by omega
      have HS := hide hS
      have HZ := hide hzl
      clear hzl hS
      go_wp2
      go_ret
      exact DrawnE.mk hown (unhide HZ) (unhide hsm) (unhide HS)
theorem l2draw_any (B cb m : Nat) (hm : m ≤ 16) (w : World) (hc : Cur w B cb) :
    Calls Try.prog 68 #[.pointer (some ⟨cb, 0, none⟩), .int .i64 m] w (DrawnO B cb w m) := by
  refine (l2drawE_any B cb m hm w hc).mono ?_
  rintro e w1 ⟨A, c, zs, rfl, hl, hs, hown, hc1, hg1⟩
  refine ⟨A, c, zs, by rw [hl], ⟨by omega, hs⟩, ?_, hc1, hg1⟩
  rw [hl]
  exact hown

set_option maxHeartbeats 800000 in
theorem l2any_any (B cb : Nat) (w : World) (hc : Cur w B cb) : Calls Try.prog 64 #[.pointer (some ⟨cb, 0, none⟩)] w (DrawnO B cb w 8) := by
  have hal := (Below.refl w.heap.size w).alloc (Nat.le_refl _) (.cells ([0, 1, 2, 3, 4, 5, 5, 6, 6, 7, 8].map (Value.int .i64)).toArray 3)
  have hS := (Side.start hc).below hal
  have hne : w.heap.size ≠ cb := by have := hc.lt; omega
  have H1 := hide (pickInt_any B cb w.heap.size 11 11 [0, 1, 2, 3, 4, 5, 5, 6, 6, 7, 8] _ hS.cur (Blk.new w _ _) hne rfl (by omega) (by omega))
  clear hal hc
  simp only [List.map_cons, List.map_nil] at hS H1
  go_enter Try.func64, Try.ntmps64
  go_wp2_with fail
  refine (unhide H1).mono ?_
  rintro e w1 ⟨v, rfl, ⟨x, hx, rfl⟩, hc1, hg1⟩
  have hx8 : 0 ≤ x ∧ x ≤ 8 := by
    simp only [List.mem_cons, List.not_mem_nil, or_false] at hx
    omega
  obtain ⟨m, rfl⟩ : ∃ m : Nat, x = m := ⟨x.toNat, by omega⟩
  have hm : m ≤ 8 := by omega
  have hS1 := hS.drawn hc1 hg1
  have H2 := hide (l2draw_any B cb m (by omega) w1 hc1)
  clear H1 hx hx8 hS hc1 hg1
  go_wp2_with fail
  refine (unhide H2).mono ?_
  rintro e w2 ⟨A2, c2, zs, rfl, hl, hown, hc2, hg2⟩
  have hS2 := hS1.drawn hc2 hg2
  have hown2 := own_base hown hS1.size
  have HL := hide (hl.more hm)
  have HS := hide hS2
  clear H2 hl hc2 hg2 hS2 hown
  go_wp2
  go_ret
  exact ⟨A2, c2, zs, rfl, unhide HL, hown2, (unhide HS).cur, (unhide HS).gr⟩

set_option maxHeartbeats 1600000 in
theorem l2bent_any (B cb : Nat) (w : World) (hc : Cur w B cb) : Calls Try.prog 44 #[.pointer (some ⟨cb, 0, none⟩)] w (DrawnI B cb w 9) := by
  obtain ⟨i0, hi, hz0, hz1, hz2⟩ := info_parts intInfo
  have hS := Side.start hc
  have H1 := hide (l2any_any B cb w hc)
  clear hc
  go_enter Try.func44, Try.ntmps44
  go_wp2_with fail
  refine (unhide H1).mono ?_
  rintro e w1 ⟨A, c, zs, rfl, hl, hown, hc1, hg1⟩
  have hS1 := hS.drawn hc1 hg1
  have H2 := hide (below_any B cb 14 (by omega) w1 hc1)
  have HL := hide hl
  have hl8 := hl.1
  clear H1 hS hc1 hg1 hl
  go_wp2_with fail
  refine (unhide H2).mono ?_
  rintro e w2 ⟨v, rfl, ⟨x, rfl, hx0, hx1⟩, hc2, hg2⟩
  have hS2 := hS1.drawn hc2 hg2
  have hown2 := own_drawn hown hg2 hS1.lt
  clear H2 hown hS1 hg2
  by_cases h0 : x = 0
  · subst h0
    have H3 := hide (below_any B cb 12 (by omega) w2 hc2)
    clear hc2
    go_wp2_with fail
    refine (unhide H3).mono ?_
    rintro e w3 ⟨v, rfl, ⟨y, rfl, hy0, hy1⟩, hc3, hg3⟩
    rw [if_pos (by omega)] at hy1
    have hS3 := hS2.drawn hc3 hg3
    have hown3 := own_drawn hown2 hg3 hS2.lt
    have hsz := hS3.size
    clear H3 hown2 hS2 hc3 hg3
    go_wp2_with (first
      | (at_builtin; refine wpList_append_one rfl (.tmp 10) (.tmp 14) 24 rfl w.heap.size 3 i0 (.int .i64 0) 8 Try.underlying24 hi hz0 hz1 hz2 rfl w3 w3 _ _ _ rfl hown3 (.int .i64 (y - 1)) rfl rfl rfl (by omega) (by unfold maxLen; omega) (Below.refl _ _) hsz ?_))
    intro v4 w4 hown4 hb4 _
    rw [i64_snoc2] at hown4
    have hI : Ints w4 w.heap.size v4 (zs ++ [y - 1]) := by
      have h := hown4
      rw [show zs.length + 1 = (zs ++ [y - 1]).length by simp] at h
      exact Ints.of_own h
    have hS4 := hS3.low hb4
    have HL2 := hide (show Lite 9 (zs ++ [y - 1]) from ⟨by simp; omega, fun z hz => by
      rcases List.mem_append.1 hz with hz | hz
      · exact (unhide HL).2 z hz
      · rw [List.mem_singleton] at hz; subst hz; omega⟩)
    have HS := hide hS4
    clear hown3 hS3 hown4 hb4 hS4
    go_wp2
    go_ret
    exact DrawnI.mk hI (unhide HL2) (unhide HS)
  · have HS := hide hS2
    have HL2 := hide ((unhide HL).more (show 8 ≤ 9 by omega))
    by_cases h1 : x = 1
    · subst h1
      by_cases hlen : 0 < zs.length
      · obtain ⟨g, c', hv, hgb, hcc⟩ := own_first hown2 hlen
        injection hv with hv1 hv2 hv3
        subst hv1
        subst hv3
        have H3 := hide (below_any B cb 11 (by omega) w2 hc2)
        have hlen' : (0 : Int) < (zs.length : Int) := by omega
        clear hc2
        go_wp2_with fail
        refine (unhide H3).mono ?_
        rintro e w3 ⟨v, rfl, ⟨y, rfl, hy0, hy1⟩, hc3, hg3⟩
        rw [if_pos (by omega)] at hy1
        have hS3 := hS2.drawn hc3 hg3
        have hown3 := own_drawn hown2 hg3 hS2.lt
        obtain ⟨old, hold⟩ : ∃ old, w3.cell? ⟨g, 0, none⟩ = some old := ⟨_, by rw [hown3.cellAt 0 (by omega)]; exact List.getElem?_eq_getElem (by rw [i64_length]; exact hlen)⟩
        have hfz := hown3.frozenAt 0
        have hst := hown3.stored 0 (.int .i64 (y - 1))
        have hb4 := (Below.refl w.heap.size w3).setCell (p := ⟨g, 0, none⟩) hgb (.int .i64 (y - 1))
        have hS4 := hS3.low hb4
        have hI : Ints (w3.setCell ⟨g, 0, none⟩ (.int .i64 (y - 1))) w.heap.size (.slice (some ⟨g, 0, none⟩) zs.length c) (zs.set 0 (y - 1)) := by
          have h := hst.1
          rw [show (i64s zs).set 0 (.int .i64 (y - 1)) = i64s (zs.set 0 (y - 1)) by unfold i64s; rw [List.map_set]] at h
          have h9 := Ints.of_own (zs := zs.set 0 (y - 1)) (n := zs.length) h
          exact h9
        have HL3 := hide (show Lite 9 (zs.set 0 (y - 1)) from ⟨by rw [List.length_set]; omega, fun z hz => by
          rcases List.mem_or_eq_of_mem_set hz with hz | hz
          · exact (unhide HL).2 z hz
          · subst hz; omega⟩)
        have HS4 := hide hS4
        clear H3 hown2 hS2 hc3 hg3 hown3 hS3 hst hb4 hS4
        go_wp2
        go_ret
        exact DrawnI.mk hI (unhide HL3) (unhide HS4)
      · obtain rfl : zs = [] := List.eq_nil_of_length_eq_zero (by omega)
        have hI : Ints w2 w.heap.size (.slice A 0 c) [] := Ints.of_own hown2
        clear hown2 hc2 hS2 hlen
        go_wp2
        go_ret
        exact DrawnI.mk hI (unhide HL2) (unhide HS)
    · have hI : Ints w2 w.heap.size (.slice A zs.length c) zs := Ints.of_own hown2
      clear hown2 hc2 hS2
      go_wp2
      go_ret
      exact DrawnI.mk hI (unhide HL2) (unhide HS)
end Go.Proofs.Ytcnmnpbipencmaa


/-
  spec.EulerRow and spec.MahonRow, by their contracts.
-/

namespace Go.Proofs.Ytcnmnpbipencmaa
set_option maxRecDepth 100000
open Go.RowKit

theorem own_single (w : World) (x : Int) : (w.alloc (.cells #[.int .i64 x] 3)).ownsRow w.heap.size 3 1 (.slice (some ⟨w.heap.size, 0, none⟩) 1 1) 1 [.int .i64 x] :=
  ⟨rfl, .inr ⟨w.heap.size, 1, #[.int .i64 x], rfl, Nat.le_refl _, heap_alloc_new w _, Nat.le_refl _, by unfold maxLen; omega, rfl, rfl⟩⟩
theorem eulX_two {R : List Int} {a j : Nat} {x y : Int} (hX : x = at0 R (a + 1)) (hY : y = at0 R a) (ha : a < j) (hj : j ≤ 11) (hx : 0 ≤ x ∧ x ≤ 200000000) (hy : 0 ≤ y ∧ y ≤ 200000000) :
    wrap64 (wrap64 (wrap64 (((a : Int) + 1 + 1) * x)) + wrap64 (((j : Int) + 2 - ((a : Int) + 1)) * y)) = eulX R (j + 2) (a + 1) := by
  have a1 : 0 ≤ ((a : Int) + 1 + 1) * x := Int.mul_nonneg (by omega) hx.1
  have a2 : ((a : Int) + 1 + 1) * x ≤ 13 * 200000000 := Int.mul_le_mul (by omega) hx.2 hx.1 (by omega)
  have b1 : 0 ≤ ((j : Int) + 2 - ((a : Int) + 1)) * y := Int.mul_nonneg (by omega) hy.1
  have b2 : ((j : Int) + 2 - ((a : Int) + 1)) * y ≤ 13 * 200000000 := Int.mul_le_mul (by omega) hy.2 hy.1 (by omega)
  unfold eulX
  rw [if_pos (by omega), Nat.add_sub_cancel, ← hX, ← hY, show (((a + 1 : Nat) : Int) + 1) = (a : Int) + 1 + 1 by omega, show (((j + 2 : Nat) : Int) - ((a + 1 : Nat) : Int)) = (j : Int) + 2 - ((a : Int) + 1) by omega]
  obtain ⟨P, hP⟩ : ∃ P, P = ((a : Int) + 1 + 1) * x := ⟨_, rfl⟩
  obtain ⟨S, hS⟩ : ∃ S, S = ((j : Int) + 2 - ((a : Int) + 1)) * y := ⟨_, rfl⟩
  rw [← hP] at a1 a2 ⊢
  rw [← hS] at b1 b2 ⊢
  rw [IntWalk.wrap64_in P (by omega), IntWalk.wrap64_in P (by omega), IntWalk.wrap64_in S (by omega), IntWalk.wrap64_in _ (by omega)]
theorem eulX_last {R : List Int} {a : Nat} {y : Int} (hl : R.length = a + 1) (hY : y = at0 R a) : ((a : Int) + 2 - ((a : Int) + 1)) * y = eulX R (a + 2) (a + 1) := by
  unfold eulX
  rw [if_pos (by omega), Nat.add_sub_cancel, ← hY, at0_out (by omega), show (((a + 2 : Nat) : Int) - ((a + 1 : Nat) : Int)) = (a : Int) + 2 - ((a : Int) + 1) by omega, Int.mul_zero, Int.zero_add]
set_option maxHeartbeats 1600000 in
theorem seul_any (m : Int) (hm : -9223372036854775808 ≤ m ∧ m ≤ 9223372036854775807) (w : World) :
    Calls Try.prog 37 #[.int .i64 m] w (GivesI w (eulR m)) := by
  obtain ⟨i0, hi, hz0, hz1, hz2⟩ := info_parts intInfo
  by_cases hin : 1 ≤ m ∧ m ≤ 12
  · obtain ⟨i, rfl⟩ : ∃ i : Nat, m = (i : Int) + 1 := ⟨(m - 1).toNat, by omega⟩
    have hi11 : i ≤ 11 := by omega
    rw [eulR_yes hi11]
    have H1 := hide (l1in_any ((i : Int) + 1) 1 12 true (by simp; omega) w)
    have hb0 : Below w.heap.size w (w.alloc (.cells #[.int .i64 1] 3)) := (Below.refl _ w).alloc (Nat.le_refl _) _
    have ho0 := own_single w 1
    clear hin hm
    go_enter Try.func37, Try.ntmps37
    go_wp2_with fail
    refine (unhide H1).mono ?_
    rintro e w' ⟨rfl, hw'⟩
    rw [hw']
    clear hw' H1 w'
    go_wp2
    go_loopw [3, 4, 5, 6, 7] (fun rv mv _ _ _ wr => ∃ j g c : Nat, j ≤ i ∧ mv = .int .i64 ((j : Int) + 2) ∧ rv = .slice (some ⟨g, 0, none⟩) (j + 1) c ∧ Below w.heap.size w wr ∧ wr.ownsRow w.heap.size 3 1 (.slice (some ⟨g, 0, none⟩) (j + 1) c) (j + 1) (i64s (eulL j))) (fun _ mv _ _ _ _ => i + 2 - (intOf mv).toNat)
    case atStart => exact ⟨0, _, _, Nat.zero_le _, rfl, rfl, hb0, ho0⟩
    case round =>
      obtain ⟨j, g, c, hj, rfl, rfl, hb, hown⟩ := hrel
      clear hb0 ho0
      by_cases hlt : j < i
      · have hcond : (j : Int) + 2 ≤ (i : Int) + 1 := by omega
        obtain ⟨wo, rfl⟩ : ∃ wo : World, wo = wr := ⟨_, rfl⟩
        have hln := eulL_length j
        have hsm := hide (at0_all (by omega) (eulL_small j (by omega)))
        have hn0 := own0 wo wo.heap.size (Nat.le_refl _)
        have hd0 := (Below.refl wo.heap.size wo).alloc (Nat.le_refl _) (.cells #[] 3)
        have HL := hide (show eulL (j + 1) = nxL (eulL j) (j + 2) (j + 2) from rfl)
        obtain ⟨R, hR⟩ : ∃ R, R = eulL j := ⟨_, rfl⟩
        rw [← hR] at hown hln hsm HL
        clear hR
        go_wp2
        go_loopw [5, 6, 7] (fun nv kv _ wi => ∃ k : Nat, k ≤ j + 2 ∧ kv = .int .i64 (k : Int) ∧ Below wo.heap.size wo wi ∧ wi.ownsRow wo.heap.size 3 1 nv k (i64s (nxL R (j + 2) k))) (fun _ kv _ _ => j + 2 - (intOf kv).toNat)
        case atStart => exact ⟨0, Nat.zero_le _, rfl, hd0, hn0⟩
        case round =>
          obtain ⟨k, hk, rfl, hd, hnx⟩ := hrel
          clear hn0 hd0
          have hro := own_below hown hd
          by_cases hkt : k < j + 2
          · have HE := hide (show ∀ z, z = eulX R (j + 2) k → i64s (nxL R (j + 2) k) ++ [Value.int .i64 z] = i64s (nxL R (j + 2) (k + 1)) from fun z hz => by rw [nxL_step, hz]; unfold i64s; simp)
            have hkc : (k : Int) < (j : Int) + 2 := by omega
            by_cases hk0 : k = 0
            · subst hk0
              have hc1 : wr.cell? ⟨g, 0, none⟩ = some (.int .i64 (at0 R 0)) := by rw [hro.cellAt 0 (by omega), i64_get (at0_some (by omega))]
              have hx := unhide hsm 0
              obtain ⟨x, hxe⟩ : ∃ x, x = at0 R 0 := ⟨_, rfl⟩
              rw [← hxe] at hc1 hx
              have hx0 : 0 ≤ x := hx.1
              have hx1 : x ≤ 200000000 := hx.2
              have HX := hide hxe
              clear hxe hx
              go_wp2_with (first
                | (at_builtin; refine wpList_append_one rfl (.tmp 50) (.tmp 52) 24 rfl wo.heap.size 3 i0 (.int .i64 0) 8 Try.underlying24 hi hz0 hz1 hz2 rfl wo _ _ _ _ rfl hnx _ rfl rfl rfl (by omega) (by simp only [maxLen]; omega) hd hd.size ?_; intro v2 w3 hown4 hb4 hg4; clear hg4))
              rw [unhide HE x (by unfold eulX; rw [← unhide HX]; simp)] at hown4
              go_roundw
              case rel => exact ⟨0 + 1, by omega, rfl, hb4, hown4⟩
              case measure => simp [intOf]
            · obtain ⟨a, rfl⟩ : ∃ a, k = a + 1 := ⟨k - 1, by omega⟩
              have hc2 : wr.cell? ⟨g, a, none⟩ = some (.int .i64 (at0 R a)) := by rw [hro.cellAt a (by omega), i64_get (at0_some (by omega))]
              have hy := unhide hsm a
              obtain ⟨y, hye⟩ : ∃ y, y = at0 R a := ⟨_, rfl⟩
              rw [← hye] at hc2 hy
              have hy0 : 0 ≤ y := hy.1
              have hy1 : y ≤ 200000000 := hy.2
              have HY := hide hye
              have q1 : IntKind.i64.wrap ((a : Int) + 1 - 1) = (a : Int) := by rw [IntKind.wrap_i64]; omega
              have q2 : IntKind.i64.wrap (a : Int) = (a : Int) := by rw [IntKind.wrap_i64]; omega
              have hbd0 : (0 : Int) ≤ (a : Int) + 1 := by omega
              have hac : (a : Int) + 1 < (j : Int) + 2 := by omega
              clear hye hy
              by_cases haj : a < j
              · have hc1 : wr.cell? ⟨g, a + 1, none⟩ = some (.int .i64 (at0 R (a + 1))) := by rw [hro.cellAt (a + 1) (by omega), i64_get (at0_some (by omega))]
                have hx := unhide hsm (a + 1)
                obtain ⟨x, hxe⟩ : ∃ x, x = at0 R (a + 1) := ⟨_, rfl⟩
                rw [← hxe] at hc1 hx
                have hx0 : 0 ≤ x := hx.1
                have hx1 : x ≤ 200000000 := hx.2
                have HX := hide hxe
                have hbd1 : (a : Int) + 1 < (j : Int) + 1 := by omega
                clear hxe hx
                go_wp2_with (first
                  | (at_builtin; refine wpList_append_one rfl (.tmp 50) (.tmp 52) 24 rfl wo.heap.size 3 i0 (.int .i64 0) 8 Try.underlying24 hi hz0 hz1 hz2 rfl wo _ _ _ _ rfl hnx _ rfl rfl rfl (by omega) (by simp only [maxLen]; omega) hd hd.size ?_; intro v2 w3 hown4 hb4 hg4; clear hg4))
                rw [unhide HE _ (eulX_two (unhide HX) (unhide HY) haj (by omega) ⟨hx0, hx1⟩ ⟨hy0, hy1⟩)] at hown4
                go_roundw
                case rel => exact ⟨a + 1 + 1, by omega, by go_num, hb4, hown4⟩
                case measure => simp [intOf]; omega
              · obtain rfl : a = j := by omega
                have hbd1 : ¬ ((a : Int) + 1 < (a : Int) + 1) := by omega
                go_wp2_with (first
                  | (at_builtin; refine wpList_append_one rfl (.tmp 50) (.tmp 52) 24 rfl wo.heap.size 3 i0 (.int .i64 0) 8 Try.underlying24 hi hz0 hz1 hz2 rfl wo _ _ _ _ rfl hnx _ rfl rfl rfl (by omega) (by simp only [maxLen]; omega) hd hd.size ?_; intro v2 w3 hown4 hb4 hg4; clear hg4))
                rw [unhide HE _ (eulX_last hln (unhide HY))] at hown4
                go_roundw
                case rel => exact ⟨a + 1 + 1, by omega, by go_num, hb4, hown4⟩
                case measure => simp [intOf]; omega
          · obtain rfl : k = j + 2 := by omega
            rw [← unhide HL] at hnx
            have hkc : ¬ ((j : Int) + 2 < (j : Int) + 2) := by omega
            obtain ⟨g2, c2, rfl, _, _⟩ := own_first hnx (by omega)
            have ho2 := own_base hnx hb.size
            have hb2 := hb.trans (hd.mono hb.size)
            clear hown hro hnx hd
            go_wp2
            go_roundw
            case rel => exact ⟨j + 1, g2, c2, by omega, by go_num, rfl, hb2, ho2⟩
            case measure => simp [intOf]; omega
      · obtain rfl : j = i := by omega
        have hcond : ¬ ((j : Int) + 2 ≤ (j : Int) + 1) := by omega
        have hI := hide (Ints.of_own hown)
        clear hown
        go_wp2
        go_ret
        exact GivesI.mk (unhide hI) hb
  · rw [eulR_no hin]
    have H1 := hide (l1in_any m 1 12 false (by simp; omega) w)
    have hI := Ints.made0 w w.heap.size (Nat.le_refl _)
    have hb := (Below.refl w.heap.size w).alloc (Nat.le_refl _) (.cells #[] 3)
    obtain ⟨hm1, hm2⟩ := hm
    clear hin
    go_enter Try.func37, Try.ntmps37
    go_wp2_with fail
    refine (unhide H1).mono ?_
    rintro e w' ⟨rfl, hw'⟩
    rw [hw']
    clear hw' H1
    go_wp2
    go_ret
    exact GivesI.mk hI hb
theorem spK_whole (t : Nat) : spK (mahL t) (t + 2) (List.replicate ((mahL t).length + (t + 1)) 0) (mahL t).length = mahL (t + 1) := rfl
set_option maxHeartbeats 1600000 in
theorem smah_any (m : Int) (hm : -9223372036854775808 ≤ m ∧ m ≤ 9223372036854775807) (w : World) :
    Calls Try.prog 38 #[.int .i64 m] w (GivesI w (mahR m)) := by
  obtain ⟨i0, hi, hz0, hz1, hz2⟩ := info_parts intInfo
  by_cases hin : 1 ≤ m ∧ m ≤ 10
  · obtain ⟨i, rfl⟩ : ∃ i : Nat, m = (i : Int) + 1 := ⟨(m - 1).toNat, by omega⟩
    have hi9 : i ≤ 9 := by omega
    rw [mahR_yes hi9]
    have H1 := hide (l1in_any ((i : Int) + 1) 1 10 true (by simp; omega) w)
    have hb0 : Below w.heap.size w (w.alloc (.cells #[.int .i64 1] 3)) := (Below.refl _ w).alloc (Nat.le_refl _) _
    have ho0 := own_single w 1
    clear hin hm
    go_enter Try.func38, Try.ntmps38
    go_wp2_with fail
    refine (unhide H1).mono ?_
    rintro e w' ⟨rfl, hw'⟩
    rw [hw']
    clear hw' H1 w'
    go_wp2
    go_loopw [3, 4, 5, 6, 7] (fun rv mv _ _ _ wr => ∃ t l g c : Nat, t ≤ i ∧ (mahL t).length = l ∧ mv = .int .i64 ((t : Int) + 2) ∧ rv = .slice (some ⟨g, 0, none⟩) l c ∧ Below w.heap.size w wr ∧ wr.ownsRow w.heap.size 3 1 (.slice (some ⟨g, 0, none⟩) l c) l (i64s (mahL t))) (fun _ mv _ _ _ _ => i + 2 - (intOf mv).toNat)
    case atStart => exact ⟨0, 1, _, _, Nat.zero_le _, rfl, rfl, rfl, hb0, ho0⟩
    case round =>
      obtain ⟨t, l, g, c, ht, hl, rfl, rfl, hb, hown⟩ := hrel
      clear hb0 ho0
      by_cases hlt : t < i
      · have hcond : (t : Int) + 2 ≤ (i : Int) + 1 := by omega
        obtain ⟨wo, rfl⟩ : ∃ wo : World, wo = wr := ⟨_, rfl⟩
        have hl46 : l ≤ 46 := by rw [← hl]; exact mahL_le t (by omega)
        have hsm := hide (at0_all (by omega) (mahL_small t (by omega)))
        obtain ⟨n2, hn2⟩ : ∃ n2, n2 = l + (t + 1) := ⟨_, rfl⟩
        have HL := hide (spK_whole t)
        have HN := hide (mahL_length_step t)
        rw [hl, ← hn2] at HL HN
        have hw2 : IntKind.i64.wrap ((l : Int) + ((t : Int) + 2) - 1) = (n2 : Int) := by rw [IntKind.wrap_i64]; omega
        have hw3 : ((l : Int) + ((t : Int) + 2) - 1) = (n2 : Int) := by omega
        have hn3 : n2 ≤ 100 := by omega
        obtain ⟨R, hR⟩ : ∃ R, R = mahL t := ⟨_, rfl⟩
        rw [← hR] at hown hsm HL hl
        have HN2 := hide hn2
        have HR := hide hl
        clear hR hn2 hl
        go_wp2_with (first
          | (at_make; refine wpList_make_full _ rfl (.tmp 22) (.tmp 22) 24 rfl wo.heap.size 3 i0 (.int .i64 0) 1 Try.underlying24 hi hz0 hz1 _ _ _ _ n2 rfl rfl (by first | rfl | omega) (by first | rfl | omega) (by rw [hz2]; omega) (by unfold maxLen; omega) (Nat.le_refl _) ?_; intro w2 hnx hg))
        have hd0 : Below wo.heap.size wo w2 := (Below.refl wo.heap.size wo).grown hg (Nat.le_refl _) (by simp)
        rw [made_zeros n2] at hnx
        have hB0 := hide (Bd.zero n2)
        obtain ⟨Z, hZ⟩ : ∃ Z, Z = List.replicate n2 (0 : Int) := ⟨_, rfl⟩
        rw [← hZ] at hnx HL hB0
        have HZ := hide (show Z.length = n2 by rw [hZ, List.length_replicate])
        have hbs := hb.size
        obtain ⟨G, hG⟩ : ∃ G, G = wo.heap.size := ⟨_, rfl⟩
        rw [← hG] at hnx hd0 hbs ⊢
        have HG := hide hG
        clear hg hZ hw2 hw3 hG
        go_loopw [6, 7] (fun kv _ wi => ∃ k : Nat, k ≤ l ∧ kv = .int .i64 (k : Int) ∧ Below G wo wi ∧ wi.ownsRow G 3 1 (.slice (some ⟨G, 0, none⟩) n2 n2) n2 (i64s (spK R (t + 2) Z k)) ∧ Hid (Bd (k * 10) (spK R (t + 2) Z k))) (fun kv _ _ => l - (intOf kv).toNat)
        case atStart => exact ⟨0, Nat.zero_le _, rfl, hd0, hnx, by rw [Nat.zero_mul]; exact hB0⟩
        case round =>
          obtain ⟨k, hk, rfl, hd, hnx2, hbd⟩ := hrel
          clear hd0 hnx hB0
          by_cases hkl : k < l
          · obtain ⟨wq, rfl⟩ : ∃ wq : World, wq = wr := ⟨_, rfl⟩
            have hx := unhide hsm k
            have HX := hide (show (i64s R)[k]? = some (.int .i64 (at0 R k)) from i64_get (at0_some (by rw [unhide HR]; exact hkl)))
            have HK := hide (show spJ R (spK R (t + 2) Z k) k (t + 2) = spK R (t + 2) Z (k + 1) from rfl)
            have HY := hide (show (spK R (t + 2) Z k).length = n2 by rw [spK_length]; exact unhide HZ)
            obtain ⟨Y, hY⟩ : ∃ Y, Y = spK R (t + 2) Z k := ⟨_, rfl⟩
            rw [← hY] at hnx2 hbd HK HY
            clear hY
            go_wp2
            go_loopw [7] (fun jv wi => ∃ j : Nat, j ≤ t + 2 ∧ jv = .int .i64 (j : Int) ∧ Below G wo wi ∧ wi.ownsRow G 3 1 (.slice (some ⟨G, 0, none⟩) n2 n2) n2 (i64s (spJ R Y k j)) ∧ Hid (Bd (k * 10 + j) (spJ R Y k j))) (fun jv _ => t + 2 - (intOf jv).toNat)
            case atStart => exact ⟨0, Nat.zero_le _, rfl, hd, hnx2, hbd⟩
            case round =>
              obtain ⟨j, hj, rfl, hd3, hnx3, hbd3⟩ := hrel
              clear hd hnx2 hbd
              by_cases hjt : j < t + 2
              · have hn2v := unhide HN2
                have hro := own_below hown (by rw [← unhide HG]; exact hd3)
                have hc1 : wr.cell? ⟨g, k, none⟩ = some (.int .i64 (at0 R k)) := by rw [hro.cellAt k (by omega)]; exact unhide HX
                have hc2 : wr.cell? ⟨G, k + j, none⟩ = some (.int .i64 (at0 (spJ R Y k j) (k + j))) := by rw [hnx3.cellAt (k + j) (by omega), i64_get (at0_some (by rw [spJ_length, unhide HY]; omega))]
                have hfz := hnx3.frozenAt (k + j)
                have hv := unhide hbd3 (k + j)
                have hst := hide (show (spJ R Y k j).set (k + j) (at0 (spJ R Y k j) (k + j) + at0 R k) = spJ R Y k (j + 1) from rfl)
                have hb4 := hide ((unhide hbd3).step (k + j) hx)
                obtain ⟨x, hxe⟩ : ∃ x, x = at0 R k := ⟨_, rfl⟩
                obtain ⟨v, hve⟩ : ∃ v, v = at0 (spJ R Y k j) (k + j) := ⟨_, rfl⟩
                rw [← hxe] at hc1 hst hb4 hx
                rw [← hve] at hc2 hst hb4 hv
                rw [unhide hst] at hb4
                have hx0 : 0 ≤ x := hx.1
                have hx1 : x ≤ 10000000 := hx.2
                have hv0 : 0 ≤ v := hv.1
                have hv1 : v ≤ 10000000000 := by have := hv.2; omega
                have n1 : (wr.setCell ⟨G, k + j, none⟩ (.int .i64 (v + x))).ownsRow G 3 1 (.slice (some ⟨G, 0, none⟩) n2 n2) n2 (i64s (spJ R Y k (j + 1))) := by
                  have h := (hnx3.stored (k + j) (.int .i64 (v + x))).1
                  rw [show (i64s (spJ R Y k j)).set (k + j) (.int .i64 (v + x)) = i64s (spJ R Y k (j + 1)) by rw [← unhide hst]; unfold i64s; rw [List.map_set]] at h
                  exact h
                have b1 := (below_set_i hd3 hnx3 (k + j) (.int .i64 (v + x))).trans (below_drew _ _)
                have hk1 : (k : Int) + (j : Int) < (n2 : Int) := by omega
                have hk0 : (0 : Int) ≤ (k : Int) + (j : Int) := by omega
                have hjc : (j : Int) < (t : Int) + 2 := by omega
                clear hn2v hro hv hst hxe hve hd3 hnx3 hbd3 hx
                go_wp2
                go_region
                go_wp2
                go_roundw
                case rel => exact ⟨j + 1, by omega, by go_num, b1, n1, hb4⟩
                case measure => simp [intOf]; omega
              · obtain rfl : j = t + 2 := by omega
                rw [unhide HK] at hnx3 hbd3
                have hb5 := hide ((unhide hbd3).mono (show k * 10 + (t + 2) ≤ (k + 1) * 10 by omega))
                have hjc : ¬ ((t : Int) + 2 < (t : Int) + 2) := by omega
                clear HK hbd3
                go_wp2
                go_roundw
                case rel => exact ⟨k + 1, by omega, by go_num, hd3, hnx3, hb5⟩
                case measure => simp [intOf]; omega
          · obtain rfl : k = l := by omega
            rw [unhide HL] at hnx2
            have ho2 := own_base hnx2 hbs
            have hb2 := hb.trans (hd.mono hbs)
            clear hnx2 hd hbd hown
            go_wp2
            go_roundw
            case rel => exact ⟨t + 1, n2, G, n2, by omega, unhide HN, by go_num, rfl, hb2, ho2⟩
            case measure => simp [intOf]; omega
      · obtain rfl : t = i := by omega
        have hcond : ¬ ((t : Int) + 2 ≤ (t : Int) + 1) := by omega
        have hI := hide (show Ints wr w.heap.size (.slice (some ⟨g, 0, none⟩) l c) (mahL t) from Ints.of_own hown)
        clear hown
        go_wp2
        go_ret
        exact GivesI.mk (unhide hI) hb
  · rw [mahR_no hin]
    have H1 := hide (l1in_any m 1 10 false (by simp; omega) w)
    have hI := Ints.made0 w w.heap.size (Nat.le_refl _)
    have hb := (Below.refl w.heap.size w).alloc (Nat.le_refl _) (.cells #[] 3)
    obtain ⟨hm1, hm2⟩ := hm
    clear hin
    go_enter Try.func38, Try.ntmps38
    go_wp2_with fail
    refine (unhide H1).mono ?_
    rintro e w' ⟨rfl, hw'⟩
    rw [hw']
    clear hw' H1
    go_wp2
    go_ret
    exact GivesI.mk hI hb
end Go.Proofs.Ytcnmnpbipencmaa


/-
  spec.IdentityPerm and impl.IdentityPerm, by their contracts.
-/

namespace Go.Proofs.Ytcnmnpbipencmaa
set_option maxRecDepth 100000
open Go.RowKit

theorem Ints.of_whole {w : World} {g B n c : Nat} {t : TypeId} (ht : t ≠ 24) {l : List Int} (hg : Whole w g t (arr l)) (hB : B ≤ g) (hn : n ≤ l.length) (hnc : n ≤ c) : Ints w B (.slice (some ⟨g, 0, none⟩) n c) (l.take n) := by
  have hl : (l.take n).length = n := by rw [List.length_take]; omega
  unfold Ints
  rw [hl]
  refine ⟨by rw [i64_length, hl], .inr ⟨g, c, arr l, t, rfl, hB, hg, ⟨hnc, by rw [arr_size]; exact hn⟩, ?_, ht⟩⟩
  unfold arr i64s
  rw [List.map_take]

end Go.Proofs.Ytcnmnpbipencmaa


/-
  impl.EulerRow and impl.MahonRow, by their contracts.
-/

namespace Go.Proofs.Ytcnmnpbipencmaa
set_option maxRecDepth 100000
open Go.RowKit

theorem countInfo : (Try.prog.info? 41).map (·.size) = some 46 := by kernel_rfl
/-- A new variable of the row's type; the row's literal. -/
theorem wpList_alloc46 {ops : Array Oper} {rest : List Oper} {o : Oper} {a : Act} {w : World} {Q : Exit → Act → World → Prop} (N : Nat) (hN : w.heap.size = N) (hg : o.guard = none) (ho : o.op = .alloc 41)
    (h : wpList Try.prog ops Q rest (a.put o.dst (.pointer (some ⟨N, 0, none⟩))) (w.alloc (.cells (arr zerA) 41))) : wpList Try.prog ops Q (o :: rest) a w := by
  subst hN
  refine wpList_plain hg fun K hK => ?_
  unfold Oper.wp
  rw [show (execOp a.eval o).run Try.prog w = .ok (.value (.pointer (some ⟨w.heap.size, 0, none⟩))) (w.alloc (.cells (arr zerA) 41)) by
    obtain ⟨d, op, ty, ps, af, gd⟩ := o
    simp only at ho
    subst ho
    kernel_rfl, Oper.upon_value]
  exact hK _ _ h
theorem wpList_build46 {ops : Array Oper} {rest : List Oper} {o : Oper} {a : Act} {w : World} {Q : Exit → Act → World → Prop} (hg : o.guard = none) (ho : o.op = .build 41 #[(0, .const (.int .i64 1))])
    (h : wpList Try.prog ops Q rest (a.put o.dst (.agg (arr oneA))) w) : wpList Try.prog ops Q (o :: rest) a w := by
  refine wpList_plain hg fun K hK => ?_
  unfold Oper.wp
  rw [show (execOp a.eval o).run Try.prog w = .ok (.value (.agg (arr oneA))) w by
    obtain ⟨d, op, ty, ps, af, gd⟩ := o
    simp only at ho
    subst ho
    kernel_rfl, Oper.upon_value]
  exact hK _ _ h
theorem eul_num {j M : Nat} {x y : Int} (hx : 0 ≤ x ∧ x ≤ 200000000) (hy : 0 ≤ y ∧ y ≤ 200000000) (hM : M ≤ 11) (hj : j < M) :
    wrap64 (wrap64 (((j : Int) + 1 + 1) * x) + wrap64 (((M : Int) + 1 - ((j : Int) + 1)) * y)) = ((j : Int) + 1 + 1) * x + (((M + 1 : Nat) : Int) - ((j : Int) + 1)) * y := by
  have a1 : 0 ≤ ((j : Int) + 1 + 1) * x := Int.mul_nonneg (by omega) hx.1
  have a2 : ((j : Int) + 1 + 1) * x ≤ 13 * 200000000 := Int.mul_le_mul (by omega) hx.2 hx.1 (by omega)
  have b1 : 0 ≤ ((M : Int) + 1 - ((j : Int) + 1)) * y := Int.mul_nonneg (by omega) hy.1
  have b2 : ((M : Int) + 1 - ((j : Int) + 1)) * y ≤ 13 * 200000000 := Int.mul_le_mul (by omega) hy.2 hy.1 (by omega)
  rw [show (((M + 1 : Nat) : Int) - ((j : Int) + 1)) = (M : Int) + 1 - ((j : Int) + 1) by omega]
  obtain ⟨P, hP⟩ : ∃ P, P = ((j : Int) + 1 + 1) * x := ⟨_, rfl⟩
  obtain ⟨S, hS⟩ : ∃ S, S = ((M : Int) + 1 - ((j : Int) + 1)) * y := ⟨_, rfl⟩
  rw [← hP] at a1 a2 ⊢
  rw [← hS] at b1 b2 ⊢
  rw [IntWalk.wrap64_in P (by omega), IntWalk.wrap64_in S (by omega), IntWalk.wrap64_in _ (by omega)]
set_option maxHeartbeats 800000 in
theorem nxe_any (R : List Int) (m : Nat) (hR : R.length = 46) (hm : 1 ≤ m ∧ m ≤ 12) (hs : ∀ q, 0 ≤ at0 R q ∧ at0 R q ≤ 200000000) (w : World) :
    Calls Try.prog 47 #[.agg (arr R), .int .i64 m] w fun e w' => e = .returned (.agg (arr (nxE R m m))) ∧ Below w.heap.size w w' := by
  have h2 : Whole (w.alloc (.cells (arr R) 41)) w.heap.size 41 (arr R) := Whole.new w _ _
  have h4 : Whole ((w.alloc (.cells (arr R) 41)).alloc (.cells (arr zerA) 41)) (w.heap.size + 1) 41 (arr zerA) := by
    have h := Whole.new (w.alloc (.cells (arr R) 41)) 41 (arr zerA)
    simpa using h
  have h5 : Whole (((w.alloc (.cells (arr R) 41)).alloc (.cells (arr zerA) 41)).alloc (.cells (arr zerA) 41)) (w.heap.size + 1 + 1) 41 (arr zerA) := by
    have h := Whole.new ((w.alloc (.cells (arr R) 41)).alloc (.cells (arr zerA) 41)) 41 (arr zerA)
    simpa using h
  have hb := (((Below.refl w.heap.size w).alloc (Nat.le_refl _) (.cells (arr R) 41)).alloc (by simp) (.cells (arr zerA) 41)).alloc (by simp; omega) (.cells (arr zerA) 41)
  have h2' := (h2.alloc (.cells (arr zerA) 41)).alloc (.cells (arr zerA) 41)
  have h4' := h4.alloc (.cells (arr zerA) 41)
  obtain ⟨w3, hw3⟩ : ∃ w3, w3 = ((w.alloc (.cells (arr R) 41)).alloc (.cells (arr zerA) 41)).alloc (.cells (arr zerA) 41) := ⟨_, rfl⟩
  rw [← hw3] at h5 hb h2' h4'
  have b6 := below_set_row hb (w.heap.size + 1 + 1) (arr oneA) (by omega)
  have s6 : Whole (w3.setRow (w.heap.size + 1 + 1) (arr oneA)) (w.heap.size + 1 + 1) 41 (arr (nxE R m 1)) := by rw [nxE_one]; exact setRow_heap _ _ _ _ _ _ h5
  have r6 : Whole (w3.setRow (w.heap.size + 1 + 1) (arr oneA)) w.heap.size 41 (arr R) := (setRow_other _ _ _ _ (by omega)).trans h2'
  have q6 : Whole (w3.setRow (w.heap.size + 1 + 1) (arr oneA)) (w.heap.size + 1) 41 (arr zerA) := (setRow_other _ _ _ _ (by omega)).trans h4'
  rw [hw3] at h5 b6 s6 r6 q6
  clear h2 h4 h2' h4' hb hw3 w3
  have hz1 : (w.alloc (.cells (arr R) 41)).heap.size = w.heap.size + 1 := by simp
  have hz2 : ((w.alloc (.cells (arr R) 41)).alloc (.cells (arr zerA) 41)).heap.size = w.heap.size + 1 + 1 := by simp
  go_enter Try.func47, Try.ntmps47
  go_wp2_with (first
    | (refine wpList_alloc46 (w.heap.size + 1) hz1 rfl rfl ?_)
    | (refine wpList_alloc46 (w.heap.size + 1 + 1) hz2 rfl rfl ?_)
    | (refine wpList_build46 rfl rfl ?_)
    | (refine wpList_store_row rfl 41 (.tmp 5) (.tmp 7) rfl (w.heap.size + 1 + 1) (arr oneA) rfl rfl 41 (arr zerA) h5 (by rw [arr_size, oneA_length]; exact countInfo) (by rw [arr_size, arr_size, oneA_length, zerA_length]) (arr_one _) ?_))
  obtain ⟨N, hN⟩ : ∃ N, N = w.heap.size + 1 + 1 := ⟨_, rfl⟩
  obtain ⟨Q, hQ⟩ : ∃ Q, Q = w.heap.size + 1 := ⟨_, rfl⟩
  obtain ⟨W, hW⟩ : ∃ W, W = w.heap.size := ⟨_, rfl⟩
  have hWQ : W < Q := by omega
  have hQN : Q < N := by omega
  rw [← hN] at b6 s6 r6 q6 ⊢
  rw [← hQ] at q6 ⊢
  rw [← hW] at r6 b6 ⊢
  have HW := hide hW
  clear hz1 hz2 h5 hN hQ hW
  obtain ⟨m1, m12⟩ := hm
  obtain ⟨M, rfl⟩ : ∃ M, m = M + 1 := ⟨m - 1, by omega⟩
  go_loopw [6] (fun i wr => ∃ j : Nat, j + 1 ≤ M + 1 ∧ i = .int .i64 ((j : Int) + 1) ∧ Below W w wr ∧ Whole wr W 41 (arr R) ∧ Whole wr Q 41 (arr zerA) ∧ Whole wr N 41 (arr (nxE R (M + 1) (j + 1)))) (fun i _ => M + 1 - (intOf i).toNat)
  case atStart => exact ⟨0, by omega, rfl, b6, r6, q6, s6⟩
  case round =>
    obtain ⟨j, hj, rfl, hb, hr, hq, hs6⟩ := hrel
    clear b6 s6 r6 q6
    by_cases hlt : j < M
    · have hc1 : wr.cell? ⟨W, j + 1, none⟩ = some (.int .i64 (at0 R (j + 1))) := by rw [hr.cell, arr_at (at0_some (by omega))]
      have hc2 : wr.cell? ⟨W, j, none⟩ = some (.int .i64 (at0 R j)) := by rw [hr.cell, arr_at (at0_some (by omega))]
      obtain ⟨old, hc3⟩ : ∃ old, wr.cell? ⟨N, j + 1, none⟩ = some old := ⟨_, by rw [hs6.cell, arr_at (at0_some (by rw [nxE_length]; omega))]⟩
      have hfz := hs6.frozen (j + 1)
      have h1 := hs (j + 1)
      have h2 := hs j
      have HV := hide (show eulF R (M + 1) (j + 1) = ((j : Int) + 1 + 1) * at0 R (j + 1) + (((M + 1 : Nat) : Int) - ((j : Int) + 1)) * at0 R j from rfl)
      obtain ⟨x, hx⟩ : ∃ x, x = at0 R (j + 1) := ⟨_, rfl⟩
      obtain ⟨y, hy⟩ : ∃ y, y = at0 R j := ⟨_, rfl⟩
      rw [← hx] at hc1 h1 HV
      rw [← hy] at hc2 h2 HV
      have q1 : IntKind.i64.wrap ((j : Int) + 1 - 1) = (j : Int) := by rw [IntKind.wrap_i64]; omega
      have q2 : IntKind.i64.wrap (j : Int) = (j : Int) := by rw [IntKind.wrap_i64]; omega
      have hj46 : j < 46 := by omega
      have hj47 : j + 1 < 46 := by omega
      have hbd : (j : Int) + 1 < 46 := by omega
      clear hx hy
      have HZ := hide (eul_num h1 h2 (show M ≤ 11 by omega) hlt)
      have hn := hide (show ∀ z, z = eulF R (M + 1) (j + 1) → Whole (wr.setCell ⟨N, j + 1, none⟩ (.int .i64 z)) N 41 (arr (nxE R (M + 1) (j + 1 + 1))) from fun z hz => by
        rw [← nxE_step R (by omega), ← hz, ← arr_set]
        exact hs6.put (j + 1) _)
      have rn := hide (show ∀ z, Whole (wr.setCell ⟨N, j + 1, none⟩ (.int .i64 z)) W 41 (arr R) from fun z => hr.far (p := ⟨N, j + 1, none⟩) (by show W ≠ N; omega) _)
      have qn := hide (show ∀ z, Whole (wr.setCell ⟨N, j + 1, none⟩ (.int .i64 z)) Q 41 (arr zerA) from fun z => hq.far (p := ⟨N, j + 1, none⟩) (by show Q ≠ N; omega) _)
      have bn := hide (show ∀ z, Below W w (wr.setCell ⟨N, j + 1, none⟩ (.int .i64 z)).drew from fun z => (hb.setCell (p := ⟨N, j + 1, none⟩) (by show W ≤ N; omega) _).trans (below_drew _ _))
      clear hb hr hq hs6
      go_wp2
      go_region
      go_wp2
      go_roundw
      case rel => exact ⟨j + 1, by omega, by go_num, unhide bn _, unhide rn _, unhide qn _, unhide hn _ ((unhide HZ).trans (unhide HV).symm)⟩
      case measure => simp [intOf]; omega
    · obtain rfl : M = j := by omega
      have hX := nxE_length R (M + 1) (M + 1)
      obtain ⟨X, hXe⟩ : ∃ X, X = nxE R (M + 1) (M + 1) := ⟨_, rfl⟩
      rw [← hXe] at hX hs6
      have hz46 := zerA_length
      have HX := hide hXe
      clear hXe
      go_wp2_with (first
        | (refine wpList_load_row rfl 41 (.tmp 5) rfl N rfl 41 (arr X) (0, 0) _ hs6 Try.underlying41 rfl (by rw [arr_size, hX]; exact countInfo) ?_)
        | (refine wpList_store_row rfl 41 (.tmp 4) (.tmp 30) rfl Q (arr X) rfl rfl 41 (arr zerA) hq (by rw [arr_size, hX]; exact countInfo) (by rw [arr_size, arr_size, hz46, hX]) (arr_one _) ?_))
      refine bodyPost_ret (v := .agg (arr X)) (results_cell_row Try.results47 _ _ Q 41 (arr X) (0, 0) _ rfl (setRow_heap _ _ _ _ _ _ hq) Try.underlying41 rfl (by rw [arr_size, hX]; exact countInfo)) rfl ?_
      exact ⟨by rw [unhide HX], by rw [← unhide HW]; exact below_set_row hb _ _ (by omega)⟩
theorem eulS_all {j : Nat} (h : j ≤ 11) (q : Nat) : 0 ≤ at0 (eulS j) q ∧ at0 (eulS j) q ≤ 200000000 := at0_all (by omega) (eulS_small j h) q
set_option maxHeartbeats 800000 in
theorem ieul_any (m : Int) (hm : -9223372036854775808 ≤ m ∧ m ≤ 9223372036854775807) (w : World) :
    Calls Try.prog 17 #[.int .i64 m] w (GivesI w (eulR m)) := by
  obtain ⟨hm1, hm2⟩ := hm
  by_cases h1 : 1 ≤ m
  · by_cases h8 : m ≤ 12
    · obtain ⟨i, rfl⟩ : ∃ i : Nat, m = (i : Int) + 1 := ⟨(m - 1).toNat, by omega⟩
      have hi : i ≤ 11 := by omega
      rw [eulR_yes hi]
      have hs := eul_same i hi
      rw [← hs]
      clear hm1 hm2 h1 h8 hs
      have hb0 : Below w.heap.size w (w.alloc (.cells (arr zerA) 41)) := (Below.refl _ w).alloc (Nat.le_refl _) _
      have hg0 : Whole (w.alloc (.cells (arr zerA) 41)) w.heap.size 41 (arr zerA) := Whole.new w _ _
      have hg1 : Whole ((w.alloc (.cells (arr zerA) 41)).setRow w.heap.size (arr oneA)) w.heap.size 41 (arr (eulS 0)) := setRow_heap _ _ _ _ _ _ hg0
      have hb1 := below_set_row hb0 w.heap.size (arr oneA) (Nat.le_refl _)
      have hone := oneA_length
      have hzer := zerA_length
      go_enter Try.func17, Try.ntmps17
      go_wp2_with (first
        | (refine wpList_alloc46 _ rfl rfl rfl ?_)
        | (refine wpList_build46 rfl rfl ?_)
        | (refine wpList_store_row rfl 41 (.tmp 3) (.tmp 11) rfl w.heap.size (arr oneA) rfl rfl 41 (arr zerA) hg0 (by rw [arr_size, hone]; exact countInfo) (by rw [arr_size, arr_size, hone, hzer]) (arr_one _) ?_))
      clear hg0 hb0
      go_loopw [4] (fun mv wr => ∃ j : Nat, j ≤ i ∧ mv = .int .i64 ((j : Int) + 2) ∧ Below w.heap.size w wr ∧ Whole wr w.heap.size 41 (arr (eulS j))) (fun mv _ => i + 2 - (intOf mv).toNat)
      case atStart => exact ⟨0, Nat.zero_le _, rfl, hb1, hg1⟩
      case round =>
        obtain ⟨j, hj, rfl, hb, hg⟩ := hrel
        clear hb1 hg1
        have hle := eulS_length j
        by_cases hlt : j < i
        · have hcond : (j : Int) + 2 ≤ (i : Int) + 1 := by omega
          have H := hide (nxe_any (eulS j) (j + 2) hle (by omega) (eulS_all (by omega)) wr)
          rw [show nxE (eulS j) (j + 2) (j + 2) = eulS (j + 1) from rfl, show ((j + 2 : Nat) : Int) = (j : Int) + 2 by omega] at H
          have hle2 := eulS_length (j + 1)
          obtain ⟨X, hX⟩ : ∃ X, X = eulS (j + 1) := ⟨_, rfl⟩
          obtain ⟨Y, hY⟩ : ∃ Y, Y = eulS j := ⟨_, rfl⟩
          rw [← hX] at H hle2
          rw [← hY] at H hle hg
          have HX := hide hX
          clear hX hY
          go_wp2_with (first
            | (refine wpList_load_row rfl 41 (.tmp 3) rfl w.heap.size rfl 41 (arr Y) (0, 0) _ hg Try.underlying41 rfl (by rw [arr_size, hle]; exact countInfo) ?_))
          refine (unhide H).mono ?_
          rintro e w2 ⟨rfl, d2⟩
          have hg2 := hg.below d2 hg.lt
          have hb2 := below_after hb d2
          have g9 : Whole (w2.setRow w.heap.size (arr X)) w.heap.size 41 (arr (eulS (j + 1))) := by rw [← unhide HX]; exact setRow_heap _ _ _ _ _ _ hg2
          have b9 := below_set_row hb2 w.heap.size (arr X) (Nat.le_refl _)
          clear H d2 hg hb
          go_wp2_with (first
            | (refine wpList_store_row rfl 41 (.tmp 3) (.tmp 19) rfl w.heap.size (arr X) rfl rfl 41 (arr Y) hg2 (by rw [arr_size, hle2]; exact countInfo) (by rw [arr_size, arr_size, hle, hle2]) (arr_one _) ?_))
          go_roundw
          case rel => exact ⟨j + 1, by omega, by go_num, b9, g9⟩
          case measure => simp [intOf]; omega
        · obtain rfl : i = j := by omega
          have hcond : ¬ ((i : Int) + 2 ≤ (i : Int) + 1) := by omega
          have hbd0 : (0 : Int) ≤ (i : Int) + 1 := by omega
          have hbd1 : (i : Int) + 1 ≤ 46 := by omega
          have hI := hide (Ints.of_whole (B := w.heap.size) (c := i + 1) (by decide) hg (Nat.le_refl _) (n := i + 1) (by rw [hle]; omega) (Nat.le_refl _))
          clear hg hle
          go_wp2
          go_ret
          exact GivesI.mk (unhide hI) hb
    · have h8' : 12 < m := by omega
      rw [eulR_no (by omega)]
      go_enter Try.func17, Try.ntmps17
      go_wp2
      go_ret
      exact GivesI.mk (v := .slice none 0 0) (Ints.nil _ _) (Below.refl _ _)
  · have h1' : m < 1 := by omega
    rw [eulR_no (by omega)]
    go_enter Try.func17, Try.ntmps17
    go_wp2
    go_ret
    exact GivesI.mk (v := .slice none 0 0) (Ints.nil _ _) (Below.refl _ _)
set_option maxHeartbeats 1600000 in
theorem tmo_any (R : List Int) (i : Nat) (hR : R.length = 46) (hi : 1 ≤ i ∧ i ≤ 10) (hs : ∀ q, 0 ≤ at0 R q ∧ at0 R q ≤ 10000000) (w : World) :
    Calls Try.prog 48 #[.agg (arr R), .int .i64 i] w fun e w' => e = .returned (.agg (arr (tmO R i 46 0))) ∧ Below w.heap.size w w' := by
  have h2 : Whole (w.alloc (.cells (arr R) 41)) w.heap.size 41 (arr R) := Whole.new w _ _
  have h4 : Whole ((w.alloc (.cells (arr R) 41)).alloc (.cells (arr zerA) 41)) (w.heap.size + 1) 41 (arr zerA) := by
    have h := Whole.new (w.alloc (.cells (arr R) 41)) 41 (arr zerA)
    simpa using h
  have h5 : Whole (((w.alloc (.cells (arr R) 41)).alloc (.cells (arr zerA) 41)).alloc (.cells (arr zerA) 41)) (w.heap.size + 1 + 1) 41 (arr (tmO R i 0 0)) := by
    rw [tmO_zero]
    have h := Whole.new ((w.alloc (.cells (arr R) 41)).alloc (.cells (arr zerA) 41)) 41 (arr zerA)
    simpa using h
  have hb := (((Below.refl w.heap.size w).alloc (Nat.le_refl _) (.cells (arr R) 41)).alloc (by simp) (.cells (arr zerA) 41)).alloc (by simp; omega) (.cells (arr zerA) 41)
  have h2' := (h2.alloc (.cells (arr zerA) 41)).alloc (.cells (arr zerA) 41)
  have h4' := h4.alloc (.cells (arr zerA) 41)
  have hz1 : (w.alloc (.cells (arr R) 41)).heap.size = w.heap.size + 1 := by simp
  have hz2 : ((w.alloc (.cells (arr R) 41)).alloc (.cells (arr zerA) 41)).heap.size = w.heap.size + 1 + 1 := by simp
  go_enter Try.func48, Try.ntmps48
  go_wp2_with (first
    | (refine wpList_alloc46 (w.heap.size + 1) hz1 rfl rfl ?_)
    | (refine wpList_alloc46 (w.heap.size + 1 + 1) hz2 rfl rfl ?_))
  obtain ⟨N, hN⟩ : ∃ N, N = w.heap.size + 1 + 1 := ⟨_, rfl⟩
  obtain ⟨Q, hQ⟩ : ∃ Q, Q = w.heap.size + 1 := ⟨_, rfl⟩
  obtain ⟨W, hW⟩ : ∃ W, W = w.heap.size := ⟨_, rfl⟩
  have hWQ : W < Q := by omega
  have hQN : Q < N := by omega
  rw [← hN] at h5 ⊢
  rw [← hQ] at h4' ⊢
  rw [← hW] at h2' hb ⊢
  have HW := hide hW
  clear h2 h4 hz1 hz2 hN hQ hW
  obtain ⟨hi1, hi10⟩ := hi
  go_loopw [6, 7, 8] (fun _ _ i0 wr => ∃ k : Nat, k ≤ 46 ∧ i0 = .int .i64 (k : Int) ∧ Below W w wr ∧ Whole wr W 41 (arr R) ∧ Whole wr Q 41 (arr zerA) ∧ Whole wr N 41 (arr (tmO R i k 0))) (fun _ _ i0 _ => 46 - (intOf i0).toNat)
  case atStart => exact ⟨0, by omega, rfl, hb, h2', h4', h5⟩
  case round =>
    obtain ⟨k, hk, rfl, hb1, hr, hq, hs6⟩ := hrel
    clear hb h2' h4' h5
    by_cases hlt : k < 46
    · obtain ⟨mn, hmn⟩ : ∃ mn, mn = min i (k + 1) := ⟨_, rfl⟩
      have HNX := hide (tmO_next R i k)
      rw [← hmn] at HNX
      have hm1 : mn ≤ i := by omega
      have hm2 : mn ≤ k + 1 := by omega
      have hmn2 : (if (k : Int) + 1 < (i : Int) then (k : Int) + 1 else (i : Int)) = (mn : Int) := by split <;> omega
      have hlt2 : (k : Int) < 46 := by omega
      obtain ⟨wo, rfl⟩ : ∃ wo : World, wo = wr := ⟨_, rfl⟩
      clear hmn
      go_wp2
      clear hmn2
      go_loopw [7, 15] (fun _ i0 wi => ∃ j : Nat, j ≤ mn ∧ i0 = .int .i64 (j : Int) ∧ Below W w wi ∧ Whole wi W 41 (arr R) ∧ Whole wi Q 41 (arr zerA) ∧ Whole wi N 41 (arr (tmO R i k j))) (fun _ i0 _ => mn - (intOf i0).toNat)
      case atStart => exact ⟨0, Nat.zero_le _, rfl, hb1, hr, hq, hs6⟩
      case round =>
        obtain ⟨j, hj, rfl, hb2, hr2, hq2, hs2⟩ := hrel
        clear hb1 hr hq hs6
        by_cases hjt : j < mn
        · have hc1 : wr.cell? ⟨N, k, none⟩ = some (.int .i64 (sumT R k j)) := by rw [hs2.cell, arr_at (at0_some (by rw [tmO_length]; omega)), tmO_at hlt]
          have hfz := hs2.frozen k
          obtain ⟨d, hd⟩ : ∃ d, d = k - j := ⟨_, rfl⟩
          have hd46 : d < 46 := by omega
          have hc2 : wr.cell? ⟨W, d, none⟩ = some (.int .i64 (at0 R d)) := by rw [hr2.cell, arr_at (at0_some (by omega))]
          have hst := hide (tmO_step (R := R) (i := i) (k := k) (j := j))
          rw [← hd] at hst
          have hx := hs d
          have hsm := sumT_le hs k j
          have hdk : IntKind.i64.wrap ((k : Int) - (j : Int)) = (d : Int) := by rw [IntKind.wrap_i64]; omega
          obtain ⟨x, hxe⟩ : ∃ x, x = at0 R d := ⟨_, rfl⟩
          obtain ⟨sm, hse⟩ : ∃ sm, sm = sumT R k j := ⟨_, rfl⟩
          rw [← hxe] at hc2 hst hx
          rw [← hse] at hc1 hst hsm
          have hsb : sm ≤ 100000000 := by omega
          have hs0 : 0 ≤ sm := hsm.1
          have hx0 : 0 ≤ x := hx.1
          have hx1 : x ≤ 10000000 := hx.2
          have n1 : Whole (wr.setCell ⟨N, k, none⟩ (.int .i64 (sm + x))) N 41 (arr (tmO R i k (j + 1))) := by
            rw [← unhide hst, ← arr_set]
            exact hs2.put k _
          have r1 := hr2.far (p := ⟨N, k, none⟩) (by show W ≠ N; omega) (.int .i64 (sm + x))
          have q1 := hq2.far (p := ⟨N, k, none⟩) (by show Q ≠ N; omega) (.int .i64 (sm + x))
          have b1 := (hb2.setCell (p := ⟨N, k, none⟩) (by show W ≤ N; omega) (.int .i64 (sm + x))).trans (below_drew _ _)
          clear hb2 hr2 hq2 hs2 hst hxe hse hsm hx hd
          go_wp2
          go_region
          go_wp2
          go_roundw
          case rel => exact ⟨j + 1, by omega, by go_num, b1, r1, q1, n1⟩
          case measure => simp [intOf]; omega
        · obtain rfl : mn = j := by omega
          rw [unhide HNX] at hs2
          clear HNX
          go_wp2
          go_roundw
          case rel => exact ⟨k + 1, by omega, by go_num, hb2, hr2, hq2, hs2⟩
          case measure => simp [intOf]; omega
    · obtain rfl : k = 46 := by omega
      have hX := tmO_length R i 46 0
      obtain ⟨X, hXe⟩ : ∃ X, X = tmO R i 46 0 := ⟨_, rfl⟩
      rw [← hXe] at hX hs6
      have hz46 := zerA_length
      have HX := hide hXe
      clear hXe
      go_wp2_with (first
        | (refine wpList_load_row rfl 41 (.tmp 5) rfl N rfl 41 (arr X) (0, 0) _ hs6 Try.underlying41 rfl (by rw [arr_size, hX]; exact countInfo) ?_)
        | (refine wpList_store_row rfl 41 (.tmp 4) (.tmp 30) rfl Q (arr X) rfl rfl 41 (arr zerA) hq (by rw [arr_size, hX]; exact countInfo) (by rw [arr_size, arr_size, hz46, hX]) (arr_one _) ?_))
      refine bodyPost_ret (v := .agg (arr X)) (results_cell_row Try.results48 _ _ Q 41 (arr X) (0, 0) _ rfl (setRow_heap _ _ _ _ _ _ hq) Try.underlying41 rfl (by rw [arr_size, hX]; exact countInfo)) rfl ?_
      exact ⟨by rw [unhide HX], by rw [← unhide HW]; exact below_set_row hb1 _ _ (by omega)⟩
theorem mahS_all {j : Nat} (h : j ≤ 9) (q : Nat) : 0 ≤ at0 (mahS j) q ∧ at0 (mahS j) q ≤ 10000000 := at0_all (by omega) (mahS_small j h) q
set_option maxHeartbeats 800000 in
theorem imah_any (m : Int) (hm : -9223372036854775808 ≤ m ∧ m ≤ 9223372036854775807) (w : World) :
    Calls Try.prog 19 #[.int .i64 m] w (GivesI w (mahR m)) := by
  obtain ⟨hm1, hm2⟩ := hm
  by_cases h1 : 1 ≤ m
  · by_cases h8 : m ≤ 10
    · obtain ⟨i, rfl⟩ : ∃ i : Nat, m = (i : Int) + 1 := ⟨(m - 1).toNat, by omega⟩
      have hi : i ≤ 9 := by omega
      rw [mahR_yes hi]
      have hs := mah_same i hi
      rw [← hs]
      clear hm1 hm2 h1 h8 hs
      have hb0 : Below w.heap.size w (w.alloc (.cells (arr zerA) 41)) := (Below.refl _ w).alloc (Nat.le_refl _) _
      have hg0 : Whole (w.alloc (.cells (arr zerA) 41)) w.heap.size 41 (arr zerA) := Whole.new w _ _
      have hg1 : Whole ((w.alloc (.cells (arr zerA) 41)).setRow w.heap.size (arr oneA)) w.heap.size 41 (arr (mahS 0)) := setRow_heap _ _ _ _ _ _ hg0
      have hb1 := below_set_row hb0 w.heap.size (arr oneA) (Nat.le_refl _)
      have hone := oneA_length
      have hzer := zerA_length
      go_enter Try.func19, Try.ntmps19
      go_wp2_with (first
        | (refine wpList_alloc46 _ rfl rfl rfl ?_)
        | (refine wpList_build46 rfl rfl ?_)
        | (refine wpList_store_row rfl 41 (.tmp 3) (.tmp 12) rfl w.heap.size (arr oneA) rfl rfl 41 (arr zerA) hg0 (by rw [arr_size, hone]; exact countInfo) (by rw [arr_size, arr_size, hone, hzer]) (arr_one _) ?_))
      clear hg0 hb0
      go_loopw [4] (fun mv wr => ∃ j : Nat, j ≤ i ∧ mv = .int .i64 ((j : Int) + 2) ∧ Below w.heap.size w wr ∧ Whole wr w.heap.size 41 (arr (mahS j))) (fun mv _ => i + 2 - (intOf mv).toNat)
      case atStart => exact ⟨0, Nat.zero_le _, rfl, hb1, hg1⟩
      case round =>
        obtain ⟨j, hj, rfl, hb, hg⟩ := hrel
        clear hb1 hg1
        have hle := mahS_length j
        by_cases hlt : j < i
        · have hcond : (j : Int) + 2 ≤ (i : Int) + 1 := by omega
          have H := hide (tmo_any (mahS j) (j + 2) hle (by omega) (mahS_all (by omega)) wr)
          rw [show tmO (mahS j) (j + 2) 46 0 = mahS (j + 1) from rfl, show ((j + 2 : Nat) : Int) = (j : Int) + 2 by omega] at H
          have hle2 := mahS_length (j + 1)
          obtain ⟨X, hX⟩ : ∃ X, X = mahS (j + 1) := ⟨_, rfl⟩
          obtain ⟨Y, hY⟩ : ∃ Y, Y = mahS j := ⟨_, rfl⟩
          rw [← hX] at H hle2
          rw [← hY] at H hle hg
          have HX := hide hX
          clear hX hY
          go_wp2_with (first
            | (refine wpList_load_row rfl 41 (.tmp 3) rfl w.heap.size rfl 41 (arr Y) (0, 0) _ hg Try.underlying41 rfl (by rw [arr_size, hle]; exact countInfo) ?_))
          refine (unhide H).mono ?_
          rintro e w2 ⟨rfl, d2⟩
          have hg2 := hg.below d2 hg.lt
          have hb2 := below_after hb d2
          have g9 : Whole (w2.setRow w.heap.size (arr X)) w.heap.size 41 (arr (mahS (j + 1))) := by rw [← unhide HX]; exact setRow_heap _ _ _ _ _ _ hg2
          have b9 := below_set_row hb2 w.heap.size (arr X) (Nat.le_refl _)
          clear H d2 hg hb
          go_wp2_with (first
            | (refine wpList_store_row rfl 41 (.tmp 3) (.tmp 20) rfl w.heap.size (arr X) rfl rfl 41 (arr Y) hg2 (by rw [arr_size, hle2]; exact countInfo) (by rw [arr_size, arr_size, hle, hle2]) (arr_one _) ?_))
          go_roundw
          case rel => exact ⟨j + 1, by omega, by go_num, b9, g9⟩
          case measure => simp [intOf]; omega
        · obtain rfl : i = j := by omega
          have hcond : ¬ ((i : Int) + 2 ≤ (i : Int) + 1) := by omega
          have hI := hide (fun (L : Nat) (hL : L ≤ 46) => Ints.of_whole (B := w.heap.size) (c := L) (by decide) hg (Nat.le_refl _) (n := L) (by rw [hle]; exact hL) (Nat.le_refl _))
          clear hg hle hone hzer
          have hall : i = 0 ∨ i = 1 ∨ i = 2 ∨ i = 3 ∨ i = 4 ∨ i = 5 ∨ i = 6 ∨ i = 7 ∨ i = 8 ∨ i = 9 := by omega
          rcases hall with rfl | rfl | rfl | rfl | rfl | rfl | rfl | rfl | rfl | rfl
          all_goals
            go_wp2
            go_ret
            exact GivesI.mk (unhide hI _ (by decide)) hb
    · have h8' : 10 < m := by omega
      rw [mahR_no (by omega)]
      go_enter Try.func19, Try.ntmps19
      go_wp2
      go_ret
      exact GivesI.mk (v := .slice none 0 0) (Ints.nil _ _) (Below.refl _ _)
  · have h1' : m < 1 := by omega
    rw [mahR_no (by omega)]
    go_enter Try.func19, Try.ntmps19
    go_wp2
    go_ret
    exact GivesI.mk (v := .slice none 0 0) (Ints.nil _ _) (Below.refl _ _)
end Go.Proofs.Ytcnmnpbipencmaa
