/-
  Words and contracts that the laws lean on, bundled: IdxF, Tell, Zone, Round, PatA, More, Choices, OccT, TellPush.
-/
import Derived.Test.YtplchjeamooliaaDoorB7
import Derived.Lib.SliceRun
import Derived.RangeFuncNested
import Derived.RangeFuncBound
import Derived.RangeFuncCalls
import Derived.RangeFuncLeaves
import Derived.Test.YtplchjeamooliaaDoorB2
import Derived.Shelf.Abstract
import Derived.Shelf.RegionOpen
import Derived.WalkKit
import Derived.OwnWalkIn
import Derived.TacticsInMore
import Derived.LoopNIn
import Derived.LoopIn
import Derived.Test.YtplchjeamooliaaDoorB5
import Derived.Maps.AppendAt
import Derived.Test.YtplchjeamooliaaDoorB3
import Derived.Maps.OwnIn

/-
  slices.IndexFunc, ContainsFunc and DeleteFunc over rows of rows, for each closure of chapter 12. (Written by wip/tools/mkidx.py.)
-/

namespace Go.Proofs.YtplchjeamooliaaDoor
set_option maxRecDepth 100000
open Go.RowKit

set_option maxHeartbeats 800000 in
theorem idxHS_any (bx : Nat) (A : Option Addr) (n c B : Nat) (zss : List (List Int)) (f : List Int → Bool) (w : World) (hS : IntsS w B (.slice A n c) zss) (hn : n ≤ 1048576)
    (HP : Hid (∀ (w1 : World), Below w.heap.size w w1 → ∀ (A1 : Option Addr) (c1 : Nat) (z : List Int), z ∈ zss → Ints w1 B (.slice A1 z.length c1) z → Calls Tryd.prog 45 #[.slice A1 z.length c1, .pointer (some ⟨bx, 0, none⟩)] w1 (GivesB w1 (f z)))) :
    Calls Tryd.prog 40 #[.slice A n c, .func (.func 45) #[] #[.pointer (some ⟨bx, 0, none⟩)]] w (FirstAt w f zss) := by
  have hl := hS.len
  have HS := hide hS
  have HL := hide hl
  have hb0 := Below.refl w.heap.size w
  clear hS hl
  go_enter Tryd.func40, Tryd.ntmps40
  go_wp2
  go_loopw [5, 8] (fun _ i wr => ∃ k : Nat, k ≤ n ∧ i = .int .i64 k ∧ Below w.heap.size w wr ∧ Hid (∀ y ∈ zss.take k, f y = false)) (fun _ i _ => n - (intOf i).toNat)
  case atStart => exact ⟨0, Nat.zero_le _, rfl, hb0, fun y hy => by simp at hy⟩
  case round =>
    obtain ⟨k, hk, rfl, hb, hno⟩ := hrel
    clear hb0
    by_cases hlt : k < n
    · have hSr := (unhide HS).below hb
      obtain ⟨ad, A1, c1, z, rfl, hzk, hcell, hI⟩ := hSr.at_ hlt
      obtain ⟨b, hbf⟩ : ∃ b, f z = b := ⟨_, rfl⟩
      have H1 := hide (unhide HP wr hb A1 c1 z (List.mem_of_getElem? hzk) hI)
      rw [hbf] at H1
      obtain ⟨lz, hlz⟩ : ∃ l, l = z.length := ⟨_, rfl⟩
      rw [← hlz] at hcell H1
      cases b with
      | true =>
        have HE := hide (⟨hzk, hbf⟩ : _ ∧ _)
        clear hSr hI hzk hbf hlz
        go_wp2_with fail
        refine (unhide H1).mono ?_
        rintro e w2 ⟨rfl, d2⟩
        have hb2 := below_after hb d2
        clear H1 d2 hb
        go_wp2
        go_ret
        exact ⟨(k : Int), rfl, .inr ⟨k, z, rfl, (unhide HE).1, (unhide HE).2, unhide hno⟩, hb2⟩
      | false =>
        have hno2 := hide (no_step hzk hbf (unhide hno))
        clear hSr hI hzk hbf hno hlz
        go_wp2_with fail
        refine (unhide H1).mono ?_
        rintro e w2 ⟨rfl, d2⟩
        have hb2 := below_after hb d2
        clear H1 d2 hb
        go_wp2
        go_roundw
        case rel => exact ⟨k + 1, by omega, by go_num, hb2, hno2⟩
        case measure => simp [intOf]; omega
    · obtain rfl : n = k := by omega
      have hno2 := hide (show ∀ y ∈ zss, f y = false by
        have h := unhide hno
        rwa [List.take_of_length_le (by rw [unhide HL]; exact Nat.le_refl _)] at h)
      clear hno
      go_wp2
      go_ret
      exact ⟨-1, rfl, .inl ⟨rfl, unhide hno2⟩, hb⟩
theorem conHS_any (bx : Nat) (A : Option Addr) (n c B : Nat) (zss : List (List Int)) (f : List Int → Bool) (w : World) (hS : IntsS w B (.slice A n c) zss) (hn : n ≤ 1048576)
    (HP : Hid (∀ (w1 : World), Below w.heap.size w w1 → ∀ (A1 : Option Addr) (c1 : Nat) (z : List Int), z ∈ zss → Ints w1 B (.slice A1 z.length c1) z → Calls Tryd.prog 45 #[.slice A1 z.length c1, .pointer (some ⟨bx, 0, none⟩)] w1 (GivesB w1 (f z)))) :
    Calls Tryd.prog 31 #[.slice A n c, .func (.func 45) #[] #[.pointer (some ⟨bx, 0, none⟩)]] w (GivesB w (zss.any f)) := by
  have H1 := hide (idxHS_any bx A n c B zss f w hS hn HP)
  clear hS HP
  go_enter Tryd.func31, Tryd.ntmps31
  go_wp2_with fail
  refine (unhide H1).mono ?_
  rintro e w1 ⟨x, rfl, hx, d1⟩
  have HX := hide (show decide (0 ≤ x) = zss.any f by
    rcases hx with ⟨rfl, h⟩ | ⟨k, z, rfl, hz, hf, _⟩
    · symm
      rw [show decide ((0 : Int) ≤ -1) = false from rfl, List.any_eq_false]
      exact fun z hz => by rw [h z hz]; simp
    · symm
      rw [decide_eq_true (by omega), List.any_eq_true]
      exact ⟨z, List.mem_of_getElem? hz, hf⟩)
  clear H1 hx
  go_wp2
  go_ret
  exact ⟨by rw [← unhide HX]; rfl, d1⟩
set_option maxHeartbeats 800000 in
theorem idxMB_any (A : Option Addr) (n c B : Nat) (zss : List (List Int)) (f : List Int → Bool) (w : World) (hS : IntsS w B (.slice A n c) zss) (hn : n ≤ 1048576)
    (HP : Hid (∀ (w1 : World), Below w.heap.size w w1 → ∀ (A1 : Option Addr) (c1 : Nat) (z : List Int), z ∈ zss → Ints w1 B (.slice A1 z.length c1) z → Calls Tryd.prog 32 #[.slice A1 z.length c1] w1 (GivesB w1 (f z)))) :
    Calls Tryd.prog 40 #[.slice A n c, .func (.func 32) #[] #[]] w (FirstAt w f zss) := by
  have hl := hS.len
  have HS := hide hS
  have HL := hide hl
  have hb0 := Below.refl w.heap.size w
  clear hS hl
  go_enter Tryd.func40, Tryd.ntmps40
  go_wp2
  go_loopw [5, 8] (fun _ i wr => ∃ k : Nat, k ≤ n ∧ i = .int .i64 k ∧ Below w.heap.size w wr ∧ Hid (∀ y ∈ zss.take k, f y = false)) (fun _ i _ => n - (intOf i).toNat)
  case atStart => exact ⟨0, Nat.zero_le _, rfl, hb0, fun y hy => by simp at hy⟩
  case round =>
    obtain ⟨k, hk, rfl, hb, hno⟩ := hrel
    clear hb0
    by_cases hlt : k < n
    · have hSr := (unhide HS).below hb
      obtain ⟨ad, A1, c1, z, rfl, hzk, hcell, hI⟩ := hSr.at_ hlt
      obtain ⟨b, hbf⟩ : ∃ b, f z = b := ⟨_, rfl⟩
      have H1 := hide (unhide HP wr hb A1 c1 z (List.mem_of_getElem? hzk) hI)
      rw [hbf] at H1
      obtain ⟨lz, hlz⟩ : ∃ l, l = z.length := ⟨_, rfl⟩
      rw [← hlz] at hcell H1
      cases b with
      | true =>
        have HE := hide (⟨hzk, hbf⟩ : _ ∧ _)
        clear hSr hI hzk hbf hlz
        go_wp2_with fail
        refine (unhide H1).mono ?_
        rintro e w2 ⟨rfl, d2⟩
        have hb2 := below_after hb d2
        clear H1 d2 hb
        go_wp2
        go_ret
        exact ⟨(k : Int), rfl, .inr ⟨k, z, rfl, (unhide HE).1, (unhide HE).2, unhide hno⟩, hb2⟩
      | false =>
        have hno2 := hide (no_step hzk hbf (unhide hno))
        clear hSr hI hzk hbf hno hlz
        go_wp2_with fail
        refine (unhide H1).mono ?_
        rintro e w2 ⟨rfl, d2⟩
        have hb2 := below_after hb d2
        clear H1 d2 hb
        go_wp2
        go_roundw
        case rel => exact ⟨k + 1, by omega, by go_num, hb2, hno2⟩
        case measure => simp [intOf]; omega
    · obtain rfl : n = k := by omega
      have hno2 := hide (show ∀ y ∈ zss, f y = false by
        have h := unhide hno
        rwa [List.take_of_length_le (by rw [unhide HL]; exact Nat.le_refl _)] at h)
      clear hno
      go_wp2
      go_ret
      exact ⟨-1, rfl, .inl ⟨rfl, unhide hno2⟩, hb⟩
theorem conMB_any (A : Option Addr) (n c B : Nat) (zss : List (List Int)) (f : List Int → Bool) (w : World) (hS : IntsS w B (.slice A n c) zss) (hn : n ≤ 1048576)
    (HP : Hid (∀ (w1 : World), Below w.heap.size w w1 → ∀ (A1 : Option Addr) (c1 : Nat) (z : List Int), z ∈ zss → Ints w1 B (.slice A1 z.length c1) z → Calls Tryd.prog 32 #[.slice A1 z.length c1] w1 (GivesB w1 (f z)))) :
    Calls Tryd.prog 31 #[.slice A n c, .func (.func 32) #[] #[]] w (GivesB w (zss.any f)) := by
  have H1 := hide (idxMB_any A n c B zss f w hS hn HP)
  clear hS HP
  go_enter Tryd.func31, Tryd.ntmps31
  go_wp2_with fail
  refine (unhide H1).mono ?_
  rintro e w1 ⟨x, rfl, hx, d1⟩
  have HX := hide (show decide (0 ≤ x) = zss.any f by
    rcases hx with ⟨rfl, h⟩ | ⟨k, z, rfl, hz, hf, _⟩
    · symm
      rw [show decide ((0 : Int) ≤ -1) = false from rfl, List.any_eq_false]
      exact fun z hz => by rw [h z hz]; simp
    · symm
      rw [decide_eq_true (by omega), List.any_eq_true]
      exact ⟨z, List.mem_of_getElem? hz, hf⟩)
  clear H1 hx
  go_wp2
  go_ret
  exact ⟨by rw [← unhide HX]; rfl, d1⟩
set_option maxHeartbeats 800000 in
theorem idxNP_any (A : Option Addr) (n c B : Nat) (zss : List (List Int)) (f : List Int → Bool) (w : World) (hS : IntsS w B (.slice A n c) zss) (hn : n ≤ 1048576)
    (HP : Hid (∀ (w1 : World), Below w.heap.size w w1 → ∀ (A1 : Option Addr) (c1 : Nat) (z : List Int), z ∈ zss → Ints w1 B (.slice A1 z.length c1) z → Calls Tryd.prog 33 #[.slice A1 z.length c1] w1 (GivesB w1 (f z)))) :
    Calls Tryd.prog 40 #[.slice A n c, .func (.func 33) #[] #[]] w (FirstAt w f zss) := by
  have hl := hS.len
  have HS := hide hS
  have HL := hide hl
  have hb0 := Below.refl w.heap.size w
  clear hS hl
  go_enter Tryd.func40, Tryd.ntmps40
  go_wp2
  go_loopw [5, 8] (fun _ i wr => ∃ k : Nat, k ≤ n ∧ i = .int .i64 k ∧ Below w.heap.size w wr ∧ Hid (∀ y ∈ zss.take k, f y = false)) (fun _ i _ => n - (intOf i).toNat)
  case atStart => exact ⟨0, Nat.zero_le _, rfl, hb0, fun y hy => by simp at hy⟩
  case round =>
    obtain ⟨k, hk, rfl, hb, hno⟩ := hrel
    clear hb0
    by_cases hlt : k < n
    · have hSr := (unhide HS).below hb
      obtain ⟨ad, A1, c1, z, rfl, hzk, hcell, hI⟩ := hSr.at_ hlt
      obtain ⟨b, hbf⟩ : ∃ b, f z = b := ⟨_, rfl⟩
      have H1 := hide (unhide HP wr hb A1 c1 z (List.mem_of_getElem? hzk) hI)
      rw [hbf] at H1
      obtain ⟨lz, hlz⟩ : ∃ l, l = z.length := ⟨_, rfl⟩
      rw [← hlz] at hcell H1
      cases b with
      | true =>
        have HE := hide (⟨hzk, hbf⟩ : _ ∧ _)
        clear hSr hI hzk hbf hlz
        go_wp2_with fail
        refine (unhide H1).mono ?_
        rintro e w2 ⟨rfl, d2⟩
        have hb2 := below_after hb d2
        clear H1 d2 hb
        go_wp2
        go_ret
        exact ⟨(k : Int), rfl, .inr ⟨k, z, rfl, (unhide HE).1, (unhide HE).2, unhide hno⟩, hb2⟩
      | false =>
        have hno2 := hide (no_step hzk hbf (unhide hno))
        clear hSr hI hzk hbf hno hlz
        go_wp2_with fail
        refine (unhide H1).mono ?_
        rintro e w2 ⟨rfl, d2⟩
        have hb2 := below_after hb d2
        clear H1 d2 hb
        go_wp2
        go_roundw
        case rel => exact ⟨k + 1, by omega, by go_num, hb2, hno2⟩
        case measure => simp [intOf]; omega
    · obtain rfl : n = k := by omega
      have hno2 := hide (show ∀ y ∈ zss, f y = false by
        have h := unhide hno
        rwa [List.take_of_length_le (by rw [unhide HL]; exact Nat.le_refl _)] at h)
      clear hno
      go_wp2
      go_ret
      exact ⟨-1, rfl, .inl ⟨rfl, unhide hno2⟩, hb⟩
theorem conNP_any (A : Option Addr) (n c B : Nat) (zss : List (List Int)) (f : List Int → Bool) (w : World) (hS : IntsS w B (.slice A n c) zss) (hn : n ≤ 1048576)
    (HP : Hid (∀ (w1 : World), Below w.heap.size w w1 → ∀ (A1 : Option Addr) (c1 : Nat) (z : List Int), z ∈ zss → Ints w1 B (.slice A1 z.length c1) z → Calls Tryd.prog 33 #[.slice A1 z.length c1] w1 (GivesB w1 (f z)))) :
    Calls Tryd.prog 31 #[.slice A n c, .func (.func 33) #[] #[]] w (GivesB w (zss.any f)) := by
  have H1 := hide (idxNP_any A n c B zss f w hS hn HP)
  clear hS HP
  go_enter Tryd.func31, Tryd.ntmps31
  go_wp2_with fail
  refine (unhide H1).mono ?_
  rintro e w1 ⟨x, rfl, hx, d1⟩
  have HX := hide (show decide (0 ≤ x) = zss.any f by
    rcases hx with ⟨rfl, h⟩ | ⟨k, z, rfl, hz, hf, _⟩
    · symm
      rw [show decide ((0 : Int) ≤ -1) = false from rfl, List.any_eq_false]
      exact fun z hz => by rw [h z hz]; simp
    · symm
      rw [decide_eq_true (by omega), List.any_eq_true]
      exact ⟨z, List.mem_of_getElem? hz, hf⟩)
  clear H1 hx
  go_wp2
  go_ret
  exact ⟨by rw [← unhide HX]; rfl, d1⟩
end Go.Proofs.YtplchjeamooliaaDoor


/-
  A RANGE OVER A FUNCTION WHOSE ITERATOR TELLS THE ROUND WHAT THE HANDED VALUE POINTS TO.
-/

namespace Go.Proofs.YtplchjeamooliaaDoor
set_option maxRecDepth 100000
open Go.RowKit

variable {F : Fence} {n : Nat} {P : Program}
/-- The iterator hands x over in a world V that it has come to from U, where the last round ended: 'Kn U x V' holds; of a round that goes on it asks Kp. -/
def Tells {α : Type} (F : Fence) (n : Nat) (P : Program) (gf : Nat) (lb : Array Value) (en : α → Array Value) (Kn : World → α → World → Prop) (Kp : World → World → Prop) (S Sp : List α → Prop) (N : Nat) (w : World) : Prop :=
  ∀ (l : Nat) (J Jx : List α → World → Prop) (W : World), Below w.heap.size w W → AbidesFrom W.heap.size J → AbidesFrom W.heap.size Jx →
    (∀ pre x U V, J pre U → Below U.heap.size U V → Kn U x V → pre.length < N → YieldAt F (n - 1) P l (en x) V fun e V' => (e = .returned (.bool true) ∧ J (pre ++ [x]) V' ∧ Kp V V') ∨ (e = .returned (.bool false) ∧ Jx (pre ++ [x]) V')) →
    J [] W → CallsIn F n P gf (#[.func (.yield l) #[] #[]] ++ lb) W fun e V => (∃ v, e = .returned v) ∧ ((∃ xs, S xs ∧ J xs V) ∨ ∃ pre, Sp pre ∧ Jx pre V)

/-- The two blocks of the loop's own book-keeping, from block D on. -/
structure Desk (D : Nat) (r : Loop) (W : World) : Prop where
  rec_ : W.heap[D + 1]? = some (.loop r)
  marks : W.heap[D]? = some (.deferred (some []))
theorem Desk.lt {D : Nat} {r : Loop} {W : World} (h : Desk D r W) : D + 1 < W.heap.size := (Array.getElem?_eq_some_iff.1 h.rec_).1
theorem Desk.walked {D : Nat} {r : Loop} {W W' : World} {row : Option Nat} (h : Desk D r W) (hg : W.grownBy W' row) (hr : ∀ k, row = some k → ∃ o : Obj, W.heap[k]? = some o ∧ o.isWalk = true) : Desk D r W' :=
  ⟨(grownBy_keeps hg hr h.rec_ rfl).trans h.rec_, (grownBy_keeps hg hr h.marks rfl).trans h.marks⟩
theorem Desk.kept {D : Nat} {r : Loop} {W W' : World} (h : Desk D r W) (hk : KeepsFrom D W W') : Desk D r W' := ⟨hk.same _ _ (by omega) h.rec_ rfl, hk.same _ _ (Nat.le_refl _) h.marks rfl⟩
theorem Desk.later {D : Nat} {r : Loop} {W W' : World} (h : Desk D r W) (hb : Below W.heap.size W W') : Desk D r W' := ⟨(hb.block _ h.lt).trans h.rec_, (hb.block _ (by have := h.lt; omega)).trans h.marks⟩
/-- The same object put into both worlds. -/
theorem below_both {U V : World} {l : Nat} (h : Below U.heap.size U V) (hl : l < U.heap.size) (o : Obj) : Below (U.putObj l o).heap.size (U.putObj l o) (V.putObj l o) := by
  have hsU := (grownBy_putObj' U l o).size
  have hsz : (U.putObj l o).heap.size = U.heap.size := by unfold World.putObj; simp
  have hsz' : (V.putObj l o).heap.size = V.heap.size := by unfold World.putObj; simp
  refine ⟨h.os, h.tape, h.output, by rw [hsz, hsz']; exact h.size, fun i hi => ?_⟩
  rw [hsz] at hi
  by_cases e : i = l
  · subst e
    rw [World.putObj_heap_same hl, World.putObj_heap_same (Nat.lt_of_lt_of_le hl h.size)]
  · rw [World.putObj_heap_other e, World.putObj_heap_other e]
    exact h.block i hi
theorem Desk.turn {D : Nat} {r : Loop} {W : World} (h : Desk D r W) (r' : Loop) : Desk D r' (W.putObj (D + 1) (.loop r')) := ⟨World.putObj_heap_same h.lt, (World.putObj_heap_other (by omega)).trans h.marks⟩
theorem Desk.new (w : World) (r : Loop) : Desk w.heap.size r ((w.alloc (.deferred (some []))).alloc (.loop r)) := by
  refine ⟨?_, (Below.heap_alloc _ _ _ (by simp)).trans (World.alloc_heap_new w _)⟩
  have := World.alloc_heap_new (w.alloc (.deferred (some []))) (.loop r)
  rwa [World.size_alloc] at this
/-- What speaks of cells abides the turn of the record. -/
theorem own_turn {β : Type} {D : Nat} {I : β → World → Prop} (hI : OwnFrom D I) {s : β} {r r' : Loop} {W : World} (h : I s W) (hd : Desk D r W) : I s (W.putObj (D + 1) (.loop r')) := hI.putObj _ h (by omega) hd.rec_ rfl
theorem walks_own {β : Type} {D B : Nat} {I : β → World → Prop} (hI : OwnFrom D I) (hB : D ≤ B) {s : β} {W W' : World} {row : Option Nat} (h : I s W) (hg : W.grownBy W' row) (hr : ∀ k, row = some k → B ≤ k ∧ ∃ o : Obj, W.heap[k]? = some o ∧ o.isWalk = true) : I s W' :=
  hI s W W' row h hg fun k e => by
    obtain ⟨h1, o, h2, h3⟩ := hr k e
    exact ⟨by omega, o, h2, Obj.not_cells_of_walk h3⟩

set_option maxHeartbeats 1600000 in
theorem range_tells {α : Type} {g : Operand} {ps : Array Tmp} {assign body : Code} {Q : Exit → Act → World → Prop} {a : Act} {w : World}
    (hro : F.round = none) (h1 : 1 ≤ n) {gf : Nat} {lb : Array Value} (hg : a.eval g = .func (.func gf) #[] lb) (hFg : F.fn gf) (eg : ∀ args w, (callFunc gf args).run P w = .ok (.enter gf args) w)
    {en : α → Array Value} {Kn : World → α → World → Prop} {Kp : World → World → Prop} {S Sp : List α → Prop} {N : Nat} {w0 : World} (hseq : Tells F (n - 1) P gf lb en Kn Kp S Sp N w0) (hb0 : Below w0.heap.size w0 w)
    (hKt : ∀ {A B C : World}, Kp A B → Kp B C → Kp A C) (hKb : ∀ (W : World) (r r' : Loop), Desk w.heap.size r W → Kp W (W.putObj (w.heap.size + 1) (.loop r')))
    (hps : ∀ x, (en x).size = ps.size) (hKn : ∀ (U V : World) (x : α) (r r' : Loop), Desk w.heap.size r U → Desk w.heap.size r V → Kn U x V → Kn (U.putObj (w.heap.size + 1) (.loop r')) x (V.putObj (w.heap.size + 1) (.loop r')))
    (I : List α → World → Prop) (Ix : Code → List α → World → Prop) (hI : OwnFrom w.heap.size I) (hIx : ∀ c, OwnFrom w.heap.size (Ix c)) (h0 : I [] w) (a₁ : α → Act)
    (hassign : ∀ (l : Nat) (x : α) (W : World) (K : Act → World → Prop), K (a₁ x) W →
      assign.wpIn (F.inRound l) (n - 1 - 1) P (Exit.then K (fun _ _ _ => False)) { tmps := (ps.zip (en x)).foldl (fun t (p, v) => t.setIfInBounds p v) a.tmps, defers := [] } W)
    (hbody : ∀ (l : Nat) (pre : List α) (x : α) (U W : World), I pre U → Below U.heap.size U W → Kn U x W → pre.length < N → w.heap.size + 2 ≤ U.heap.size → body.wpIn (F.inRound l) (n - 1 - 1) P (ownPostG w.heap.size Kp I Ix (pre ++ [x]) W) (a₁ x) W)
    (hdone : ∀ (xs : List α) (W : World), S xs → I xs W → W.heap[w.heap.size]? = some (.deferred (some [])) → Q .normal { a with defers := { target := .collected w.heap.size, args := #[] } :: a.defers } W)
    (hstop : ∀ (c : Code) (pre : List α) (W : World), Sp pre → Ix c pre W → W.heap[w.heap.size]? = some (.deferred (some [])) → c.wpIn F n P Q { a with defers := { target := .collected w.heap.size, args := #[] } :: a.defers } W) :
    (Code.rangeFunc g ps assign body).wpIn F n P Q a w := by
  refine wpIn_rangeFunc fun fn hfn => ?_
  rw [hro]
  obtain ⟨R, hR⟩ : ∃ R : LoopState → Option Code → Loop, R = fun st pe => { state := st, pending := pe, fn, tmps := a.tmps, params := ps, assign, body, defers := w.heap.size } := ⟨_, rfl⟩
  have hd0 := Desk.new w (R .ready none)
  have hI0 : I [] ((w.alloc (.deferred (some []))).alloc (.loop (R .ready none))) := hI.alloc _ (hI.alloc _ h0)
  have hbel : Below w0.heap.size w0 ((w.alloc (.deferred (some []))).alloc (.loop (R .ready none))) := hb0.trans ((((Below.refl _ w).alloc (Nat.le_refl _) _).alloc (by simp) _).mono hb0.size)
  have hrun0 : (Instr.enterLoop fn a.tmps ps assign body none).run P w = .ok (w.heap.size + 1, [{ target := .collected w.heap.size, args := #[] }]) ((w.alloc (.deferred (some []))).alloc (.loop (R .ready none))) := by rw [hR]; exact run_enterLoop_outer _ _ _ _ _
  have hsz1 : w.heap.size ≤ ((w.alloc (.deferred (some []))).alloc (.loop (R .ready none))).heap.size := by simp; omega
  obtain ⟨W1, hW1⟩ : ∃ W1, W1 = (w.alloc (.deferred (some []))).alloc (.loop (R .ready none)) := ⟨_, rfl⟩
  rw [← hW1] at hd0 hI0 hbel hrun0 hsz1
  clear hW1
  refine ⟨w.heap.size + 1, [{ target := .collected w.heap.size, args := #[] }], W1, { target := .fn (.func gf) lb, args := #[.func (.yield (w.heap.size + 1)) #[] #[]] }, W1, gf,
    #[.func (.yield (w.heap.size + 1)) #[] #[]] ++ lb, W1, hrun0, ?_, ?_, ?_, fun _ => h1, ?_⟩
  · simp only [resolve, hg]
    simp [go_sem]
  · intro f' hf'
    simp [Target.leads] at hf'
    subst hf'
    exact hFg
  · simp [invoke, go_sem, eg]
  · refine (hseq (w.heap.size + 1) (fun pre W => I pre W ∧ Desk w.heap.size (R .ready none) W) (fun pre W => ∃ c, Ix c pre W ∧ Desk w.heap.size (R .done (some c)) W) W1 hbel
      (fun s X Y row hs hgr hr => ⟨walks_own hI hsz1 hs.1 hgr hr, hs.2.walked hgr fun k e => (hr k e).2⟩)
      (fun s X Y row hs hgr hr => by obtain ⟨c, hc, hd⟩ := hs; exact ⟨c, walks_own (hIx c) hsz1 hc hgr hr, hd.walked hgr fun k e => (hr k e).2⟩)
      ?_ ⟨hI0, hd0⟩).mono ?_
    · rintro pre x U V ⟨hi, hdU⟩ hbU hkn hlen
      have hd := hdU.later hbU
      have hy := run_yield (P := P) (args := en x) hd.rec_ (by rw [hR]; exact hps x)
      rw [hR] at hy
      refine ⟨fn, _, assign, body, hy, roundIn_of_wpIn hfn (hassign _ x V _ ⟨_, run_beginRound hd.rec_ (by rw [hR]), ?_⟩)⟩
      obtain ⟨r1, hr1⟩ : ∃ r1 : Loop, r1 = { R .ready none with state := .busy } := ⟨_, rfl⟩
      rw [← hr1]
      have hd1 := hd.turn r1
      have hk1 := hKb V _ r1 hd
      have hlt := (hdU.turn r1).lt
      refine wpIn_mono (hbody _ pre x _ _ (own_turn hI hi hdU) (below_both hbU hdU.lt _) (hKn _ _ _ _ r1 hdU hd hkn) hlen (by omega)) ?_
      -- the end of a round
      have fin : ∀ (c : Option Code) (V' : World), KeepsFrom w.heap.size (V.putObj (w.heap.size + 1) (.loop r1)) V' → Desk w.heap.size r1 V' ∧
          (Instr.endRound (w.heap.size + 1) c).run P V' = .ok (.bool c.isNone) (V'.putObj (w.heap.size + 1) (.loop (R (if c.isNone then .ready else .done) c))) := fun c V' hk => by
        have hd2 := hd1.kept hk
        refine ⟨hd2, ?_⟩
        have := run_endRound (P := P) c hd2.rec_
        rw [hr1] at this
        rw [this, hR]
      rintro e a3 V3 hp
      cases e with
      | normal =>
        obtain ⟨hd3, hrun⟩ := fin none V3 hp.1
        exact ⟨_, _, hrun, .inl ⟨rfl, ⟨own_turn hI hp.2.2 hd3, hd3.turn _⟩, hKt (hKt hk1 hp.2.1) (hKb _ _ _ hd3)⟩⟩
      | ret =>
        obtain ⟨hd3, hrun⟩ := fin (some .ret) V3 hp.1
        exact ⟨_, _, hrun, .inr ⟨rfl, .ret, own_turn (hIx _) hp.2 hd3, hd3.turn _⟩⟩
      | exit id =>
        obtain ⟨hd3, hrun⟩ := fin (some (.exit id)) V3 hp.1
        exact ⟨_, _, hrun, .inr ⟨rfl, .exit id, own_turn (hIx _) hp.2 hd3, hd3.turn _⟩⟩
      | goto t =>
        obtain ⟨hd3, hrun⟩ := fin (some (.goto t)) V3 hp.1
        exact ⟨_, _, hrun, .inr ⟨rfl, .goto t, own_turn (hIx _) hp.2 hd3, hd3.turn _⟩⟩
      | panic _ => exact hp.elim
      | outgrown => exact hp.elim
    · rintro e V ⟨⟨v, rfl⟩, hend⟩
      rcases hend with ⟨xs, hS, hi, hd⟩ | ⟨pre, hSp, c, hi, hd⟩
      · have hrun := run_endLoop (P := P) hd.rec_ (by rw [hR]; simp)
        rw [hR] at hrun
        exact ⟨none, _, hrun, hdone xs _ hS (own_turn hI hi hd) (hd.turn _).marks⟩
      · have hrun := run_endLoop (P := P) hd.rec_ (by rw [hR]; simp)
        rw [hR] at hrun
        exact ⟨some c, _, hrun, hstop c pre _ hSp (own_turn (hIx c) hi hd) (hd.turn _).marks⟩

/-! what a round keeps: rows -/
/-- Blocks of cells from block D on that hold no rows of rows lie as they lay. -/
structure RowsFrom (D : Nat) (W W' : World) : Prop where
  size : W.heap.size ≤ W'.heap.size
  same : ∀ (k : Nat) (cur : Array Value) (e : TypeId) (fr : Nat × Nat), D ≤ k → W.heap[k]? = some (.cells cur e fr) → e ≠ 30 → W'.heap[k]? = some (.cells cur e fr)
theorem RowsFrom.refl (D : Nat) (W : World) : RowsFrom D W W := ⟨Nat.le_refl _, fun _ _ _ _ _ h _ => h⟩
theorem RowsFrom.trans {D : Nat} {X Y Z : World} (h : RowsFrom D X Y) (k : RowsFrom D Y Z) : RowsFrom D X Z := ⟨Nat.le_trans h.size k.size, fun i cur e fr hi hk he => k.same i cur e fr hi (h.same i cur e fr hi hk he) he⟩
theorem RowsFrom.of_keepI {D : Nat} {W W' : World} (h : KeepI W W') : RowsFrom D W W' := ⟨h.size, fun k cur e fr _ hk he => (h.block k cur e fr hk he).trans hk⟩
theorem RowsFrom.of_below {D : Nat} {W W' : World} (h : Below W.heap.size W W') : RowsFrom D W W' := .of_keepI (.of_below h)
/-- A step that turns one block alone: it lies below D, or it holds no cells. -/
theorem RowsFrom.of_grownBy {D : Nat} {W W' : World} {row : Option Nat} (hg : W.grownBy W' row) (hr : ∀ k, row = some k → k < D ∨ ∃ o : Obj, W.heap[k]? = some o ∧ o.isCells = false) : RowsFrom D W W' :=
  ⟨hg.size, fun k cur e fr hk hc _ => (hg.block k (Array.getElem?_eq_some_iff.1 hc).1 fun e => by
    rcases hr k e.symm with h | ⟨o, ho, h⟩
    · omega
    · rw [hc] at ho; cases ho; cases h).trans hc⟩
theorem RowsFrom.turn {D B : Nat} {r : Loop} {W : World} (h : Desk B r W) (r' : Loop) : RowsFrom D W (W.putObj (B + 1) (.loop r')) := .of_grownBy (grownBy_putObj' W _ _) fun k e => by cases e; exact .inr ⟨_, h.rec_, rfl⟩
theorem RowsFrom.stored {D b : Nat} (W : World) (hb : b < D) (v : Value) : RowsFrom D W (W.setCell ⟨b, 0, none⟩ v) := .of_grownBy (grownBy_setCell' W b v) fun k e => by cases e; exact .inl hb
theorem Ints.rows {D : Nat} {W W' : World} {v : Value} {zs : List Int} (h : Ints W D v zs) (hk : RowsFrom D W W') : Ints W' D v zs := by
  refine ⟨h.1, ?_⟩
  rcases h.2 with h0 | ⟨g, cap, cur, e, hv, hb, hc, h1, h2, h3⟩
  · exact .inl h0
  · exact .inr ⟨g, cap, cur, e, hv, hb, hk.same g cur e _ hb hc h3, h1, h2, h3⟩
/-- A row speaks of cells alone. -/
theorem ints_own (D B : Nat) : OwnFrom D (fun (x : Value × List Int) W => Ints W B x.1 x.2) := fun x X Y row h hg hr => by
  refine ⟨h.1, ?_⟩
  rcases h.2 with h0 | ⟨g, cap, cur, e, hv, hb, hc, rest⟩
  · exact .inl h0
  · refine .inr ⟨g, cap, cur, e, hv, hb, (hg.block g (Array.getElem?_eq_some_iff.1 hc).1 fun e' => ?_).trans hc, rest⟩
    obtain ⟨_, o, ho, hcl⟩ := hr g e'.symm
    rw [hc] at ho; cases ho; cases hcl
/-- A row that was made since the last round: what range_tells asks of Kn. -/
theorem kn_row (D : Nat) (U V : World) (x : Value × List Int) (r r' : Loop) (_ : Desk D r U) (hd : Desk D r V) (h : Ints V U.heap.size x.1 x.2) : Ints (V.putObj (D + 1) (.loop r')) (U.putObj (D + 1) (.loop r')).heap.size x.1 x.2 := by
  have hsz : (U.putObj (D + 1) (.loop r')).heap.size = U.heap.size := by unfold World.putObj; simp
  rw [hsz]
  exact own_turn (ints_own D U.heap.size) (s := x) h hd
theorem intsS_own (D B : Nat) {β : Type} (v : Value) (f : β → List (List Int)) : OwnFrom D (fun (s : β) W => IntsS W B v (f s)) := fun s X Y row h hg hr => by
  obtain ⟨vs, h1, h2⟩ := h
  have hne : ∀ (u : Value) (zs : List Int), Ints X B u zs → Ints Y B u zs := fun u zs hu => ints_own D B (u, zs) X Y row hu hg hr
  refine ⟨vs, ?_, ⟨h2.len, fun i u zs hu hz => hne u zs (h2.row i u zs hu hz), h2.away⟩⟩
  refine h1.kept hg ?_
  rcases h1.2 with hn | ⟨g, cap, cur, hv, hb, hc, rest⟩
  · rw [hn.1]; exact .inl rfl
  · rw [hv]
    refine .inr fun e => ?_
    obtain ⟨_, o, ho, hcl⟩ := hr g e.symm
    rw [hc] at ho; cases ho; cases hcl
end Go.Proofs.YtplchjeamooliaaDoor


/-
  A RANGE OVER A FUNCTION WHOSE ITERATOR HAS BLOCKS OF ITS OWN (a list that is lent, an inner loop's desk): they lie in a zone right behind the loop's desk, and what the loop's body holds lies outside of it.
-/

namespace Go.Proofs.YtplchjeamooliaaDoor
set_option maxRecDepth 100000
open Go.RowKit

/-- What lies outside of [lo, hi) lies as it lay. -/
structure But (lo hi : Nat) (U V : World) : Prop where
  os : V.os = U.os
  tape : V.tape = U.tape
  output : V.output = U.output
  size : U.heap.size ≤ V.heap.size
  block : ∀ k, k < U.heap.size → k < lo ∨ hi ≤ k → V.heap[k]? = U.heap[k]?
theorem But.refl (lo hi : Nat) (U : World) : But lo hi U U := ⟨rfl, rfl, rfl, Nat.le_refl _, fun _ _ _ => rfl⟩
theorem But.trans {lo hi : Nat} {U V W : World} (h : But lo hi U V) (k : But lo hi V W) : But lo hi U W :=
  ⟨k.os.trans h.os, k.tape.trans h.tape, k.output.trans h.output, Nat.le_trans h.size k.size, fun i hi hz => (k.block i (Nat.lt_of_lt_of_le hi h.size) hz).trans (h.block i hi hz)⟩
theorem But.mono {lo hi lo' hi' : Nat} {U V : World} (h : But lo hi U V) (hl : lo' ≤ lo) (hh : hi ≤ hi') : But lo' hi' U V := ⟨h.os, h.tape, h.output, h.size, fun k hk hz => h.block k hk (by omega)⟩
theorem But.of_below {lo hi : Nat} {U V : World} (h : Below U.heap.size U V) : But lo hi U V := ⟨h.os, h.tape, h.output, h.size, fun k hk _ => h.block k hk⟩
/-- Changes at or behind lo alone, and no block lay behind hi. -/
theorem But.of_below_lo {lo hi : Nat} {U V : World} (h : Below lo U V) (hs : U.heap.size ≤ hi) : But lo hi U V := ⟨h.os, h.tape, h.output, h.size, fun k hk hz => h.block k (by omega)⟩
theorem But.below {lo hi n : Nat} {U V : World} (h : But lo hi U V) (hn : n ≤ lo) (hs : n ≤ U.heap.size) : Below n U V := ⟨h.os, h.tape, h.output, h.size, fun k hk => h.block k (by omega) (by omega)⟩
theorem But.alloc {lo hi : Nat} (U : World) (o : Obj) : But lo hi U (U.alloc o) := .of_below ((Below.refl _ U).alloc (Nat.le_refl _) o)
theorem But.grown {lo hi : Nat} {U V : World} {row : Option Nat} (hg : U.grownBy V row) (hr : ∀ k, row = some k → lo ≤ k ∧ k < hi) : But lo hi U V :=
  ⟨hg.os, hg.tape, hg.output, hg.size, fun k hk hz => hg.block k hk fun e => by have := hr k e.symm; omega⟩
theorem But.putObj {lo hi : Nat} (U : World) {k : Nat} (h1 : lo ≤ k) (h2 : k < hi) (o : Obj) : But lo hi U (U.putObj k o) := .grown (grownBy_putObj' U k o) fun j e => by cases e; exact ⟨h1, h2⟩
theorem But.setCell {lo hi : Nat} (U : World) {b : Nat} (h1 : lo ≤ b) (h2 : b < hi) (v : Value) : But lo hi U (U.setCell ⟨b, 0, none⟩ v) := .grown (grownBy_setCell' U b v) fun j e => by cases e; exact ⟨h1, h2⟩
theorem Desk.but {D lo hi : Nat} {r : Loop} {U V : World} (h : Desk D r U) (hb : But lo hi U V) (hz : D + 2 ≤ lo ∨ hi ≤ D) : Desk D r V :=
  ⟨(hb.block _ h.lt (by omega)).trans h.rec_, (hb.block _ (by have := h.lt; omega) (by omega)).trans h.marks⟩
theorem Boxed.but {W W' : World} {lo hi b : Nat} {t : TypeId} {v : Value} (h : Boxed W b t v) (hb : But lo hi W W') (hz : b < lo ∨ hi ≤ b) : Boxed W' b t v := (hb.block b h.lt hz).trans h
theorem Ints.but {W W' : World} {lo hi B : Nat} {v : Value} {zs : List Int} (h : Ints W B v zs) (hb : But lo hi W W') (hB : hi ≤ B) : Ints W' B v zs := by
  refine ⟨h.1, ?_⟩
  rcases h.2 with h0 | ⟨g, cap, cur, e, hv, hg, hc, rest⟩
  · exact .inl h0
  · exact .inr ⟨g, cap, cur, e, hv, hg, (hb.block g (Array.getElem?_eq_some_iff.1 hc).1 (by omega)).trans hc, rest⟩
theorem IntsS.but {W W' : World} {lo hi B : Nat} {v : Value} {zss : List (List Int)} (h : IntsS W B v zss) (hb : But lo hi W W') (hB : hi ≤ B) : IntsS W' B v zss := by
  obtain ⟨vs, h1, h2⟩ := h
  refine ⟨vs, ⟨h1.1, ?_⟩, ⟨h2.len, fun i u zs hu hz => (h2.row i u zs hu hz).but hb hB, h2.away⟩⟩
  rcases h1.2 with hn | ⟨g, cap, cur, hv, hg, hc, rest⟩
  · exact .inl hn
  · exact .inr ⟨g, cap, cur, hv, hg, (hb.block g (Array.getElem?_eq_some_iff.1 hc).1 (by omega)).trans hc, rest⟩

/-- The blocks of which P speaks lie as they lay. -/
structure Keep (P : Nat → Prop) (U V : World) : Prop where
  size : U.heap.size ≤ V.heap.size
  block : ∀ k, k < U.heap.size → P k → V.heap[k]? = U.heap[k]?
theorem Keep.refl (P : Nat → Prop) (U : World) : Keep P U U := ⟨Nat.le_refl _, fun _ _ _ => rfl⟩
theorem Keep.trans {P : Nat → Prop} {U V W : World} (h : Keep P U V) (k : Keep P V W) : Keep P U W := ⟨Nat.le_trans h.size k.size, fun i hi hp => (k.block i (Nat.lt_of_lt_of_le hi h.size) hp).trans (h.block i hi hp)⟩
theorem Keep.mono {P Q : Nat → Prop} {U V : World} (h : Keep P U V) (hq : ∀ k, Q k → P k) : Keep Q U V := ⟨h.size, fun k hk hp => h.block k hk (hq k hp)⟩
theorem Keep.of_below {P : Nat → Prop} {U V : World} (h : Below U.heap.size U V) : Keep P U V := ⟨h.size, fun k hk _ => h.block k hk⟩
theorem Keep.of_but {P : Nat → Prop} {lo hi : Nat} {U V : World} (h : But lo hi U V) (hp : ∀ k, P k → k < lo ∨ hi ≤ k) : Keep P U V := ⟨h.size, fun k hk h1 => h.block k hk (hp k h1)⟩
theorem Keep.putObj {P : Nat → Prop} (U : World) {b : Nat} (h : ¬ P b) (o : Obj) : Keep P U (U.putObj b o) := .of_but (.putObj U (Nat.le_refl b) (Nat.lt_succ_self b) o) fun k hk => by
  by_cases e : k = b
  · subst e; exact absurd hk h
  · omega
theorem Keep.setCell {P : Nat → Prop} (U : World) {b : Nat} (h : ¬ P b) (v : Value) : Keep P U (U.setCell ⟨b, 0, none⟩ v) := .of_but (.setCell U (Nat.le_refl b) (Nat.lt_succ_self b) v) fun k hk => by
  by_cases e : k = b
  · subst e; exact absurd hk h
  · omega
theorem Keep.desk {P : Nat → Prop} {D : Nat} {r : Loop} {U V : World} (h : Keep P U V) (hd : Desk D r U) (h1 : P D) (h2 : P (D + 1)) : Desk D r V :=
  ⟨(h.block _ hd.lt h2).trans hd.rec_, (h.block _ (by have := hd.lt; omega) h1).trans hd.marks⟩
theorem Keep.boxed {P : Nat → Prop} {b : Nat} {t : TypeId} {v : Value} {U V : World} (h : Keep P U V) (hd : Boxed U b t v) (h1 : P b) : Boxed V b t v := (h.block b hd.lt h1).trans hd

variable {F : Fence} {n : Nat} {P : Program}
/-- The iterator, whose own blocks are the z ones behind the loop's desk, hands x over in a world V that it has come to from U by new blocks alone; 'Kn U x V' holds; of a round that goes on it asks Kp. -/
def TellsZ {α : Type} (F : Fence) (n : Nat) (P : Program) (gf : Nat) (lb : Array Value) (z : Nat) (en : α → Array Value) (Kn : World → α → World → Prop) (Kp : World → World → Prop) (S Sp : List α → Prop) (N : Nat) (w : World) : Prop :=
  ∀ (l : Nat) (J Jx : List α → World → Prop) (W : World), Below w.heap.size w W → W.heap.size = w.heap.size + 2 →
    (∀ pre U V, J pre U → But (w.heap.size + 2) (w.heap.size + 2 + z) U V → J pre V) → (∀ pre U V, Jx pre U → But (w.heap.size + 2) (w.heap.size + 2 + z) U V → Jx pre V) →
    (∀ pre x U V, J pre U → w.heap.size + 2 + z ≤ U.heap.size → Below U.heap.size U V → Kn U x V → pre.length < N → YieldAt F (n - 1) P l (en x) V fun e V' => (e = .returned (.bool true) ∧ J (pre ++ [x]) V' ∧ Kp V V') ∨ (e = .returned (.bool false) ∧ Jx (pre ++ [x]) V' ∧ Kp V V')) →
    J [] W → CallsIn F n P gf (#[.func (.yield l) #[] #[]] ++ lb) W fun e V => (∃ v, e = .returned v) ∧ ((∃ xs, S xs ∧ J xs V) ∨ ∃ pre, Sp pre ∧ Jx pre V)

/-- The body's word at its ways out. -/
def postZ {α : Type} (D : Nat) (Kp : World → World → Prop) (I : List α → World → Prop) (Ix : Code → List α → World → Prop) (xs : List α) (W : World) : Exit → Act → World → Prop
  | .normal, _, W' => (∀ r, Desk D r W → Desk D r W') ∧ Kp W W' ∧ I xs W'
  | .ret, _, W' => (∀ r, Desk D r W → Desk D r W') ∧ Kp W W' ∧ Ix .ret xs W'
  | .exit id, _, W' => (∀ r, Desk D r W → Desk D r W') ∧ Kp W W' ∧ Ix (.exit id) xs W'
  | .goto t, _, W' => (∀ r, Desk D r W → Desk D r W') ∧ Kp W W' ∧ Ix (.goto t) xs W'
  | .panic _, _, _ => False
  | .outgrown, _, _ => False

set_option maxHeartbeats 1600000 in
theorem range_zone {α : Type} {g : Operand} {ps : Array Tmp} {assign body : Code} {Q : Exit → Act → World → Prop} {a : Act} {w : World}
    (hro : F.round = none) (h1 : 1 ≤ n) {gf : Nat} {lb : Array Value} (hg : a.eval g = .func (.func gf) #[] lb) (hFg : F.fn gf) (eg : ∀ args w, (callFunc gf args).run P w = .ok (.enter gf args) w)
    {z : Nat} {en : α → Array Value} {Kn : World → α → World → Prop} {Kp : World → World → Prop} {S Sp : List α → Prop} {N : Nat} (hseq : TellsZ F (n - 1) P gf lb z en Kn Kp S Sp N w)
    (hKt : ∀ {A B C : World}, Kp A B → Kp B C → Kp A C) (hKb : ∀ (W : World) (r r' : Loop), Desk w.heap.size r W → Kp W (W.putObj (w.heap.size + 1) (.loop r')))
    (hps : ∀ x, (en x).size = ps.size) (hKn : ∀ (U V : World) (x : α) (r r' : Loop), Desk w.heap.size r U → Desk w.heap.size r V → Kn U x V → Kn (U.putObj (w.heap.size + 1) (.loop r')) x (V.putObj (w.heap.size + 1) (.loop r')))
    (I : List α → World → Prop) (Ix : Code → List α → World → Prop) (hI : ∀ pre U V, I pre U → But w.heap.size (w.heap.size + 2 + z) U V → I pre V) (hIx : ∀ c pre U V, Ix c pre U → But w.heap.size (w.heap.size + 2 + z) U V → Ix c pre V) (h0 : I [] w) (a₁ : α → Act)
    (hassign : ∀ (l : Nat) (x : α) (W : World) (K : Act → World → Prop), K (a₁ x) W →
      assign.wpIn (F.inRound l) (n - 1 - 1) P (Exit.then K (fun _ _ _ => False)) { tmps := (ps.zip (en x)).foldl (fun t (p, v) => t.setIfInBounds p v) a.tmps, defers := [] } W)
    (hbody : ∀ (l : Nat) (pre : List α) (x : α) (U W : World), I pre U → w.heap.size + 2 + z ≤ U.heap.size → Below U.heap.size U W → Kn U x W → pre.length < N → body.wpIn (F.inRound l) (n - 1 - 1) P (postZ w.heap.size Kp I Ix (pre ++ [x]) W) (a₁ x) W)
    (hdone : ∀ (xs : List α) (W : World), S xs → I xs W → W.heap[w.heap.size]? = some (.deferred (some [])) → Q .normal { a with defers := { target := .collected w.heap.size, args := #[] } :: a.defers } W)
    (hstop : ∀ (c : Code) (pre : List α) (W : World), Sp pre → Ix c pre W → W.heap[w.heap.size]? = some (.deferred (some [])) → c.wpIn F n P Q { a with defers := { target := .collected w.heap.size, args := #[] } :: a.defers } W) :
    (Code.rangeFunc g ps assign body).wpIn F n P Q a w := by
  refine wpIn_rangeFunc fun fn hfn => ?_
  rw [hro]
  obtain ⟨R, hR⟩ : ∃ R : LoopState → Option Code → Loop, R = fun st pe => { state := st, pending := pe, fn, tmps := a.tmps, params := ps, assign, body, defers := w.heap.size } := ⟨_, rfl⟩
  have hd0 := Desk.new w (R .ready none)
  have hI0 : I [] ((w.alloc (.deferred (some []))).alloc (.loop (R .ready none))) := hI _ _ _ h0 ((But.alloc _ _).trans (But.alloc _ _))
  have hbel : Below w.heap.size w ((w.alloc (.deferred (some []))).alloc (.loop (R .ready none))) := (((Below.refl _ w).alloc (Nat.le_refl _) _).alloc (by simp) _)
  have hrun0 : (Instr.enterLoop fn a.tmps ps assign body none).run P w = .ok (w.heap.size + 1, [{ target := .collected w.heap.size, args := #[] }]) ((w.alloc (.deferred (some []))).alloc (.loop (R .ready none))) := by rw [hR]; exact run_enterLoop_outer _ _ _ _ _
  have hsz1 : ((w.alloc (.deferred (some []))).alloc (.loop (R .ready none))).heap.size = w.heap.size + 2 := by simp
  obtain ⟨W1, hW1⟩ : ∃ W1, W1 = (w.alloc (.deferred (some []))).alloc (.loop (R .ready none)) := ⟨_, rfl⟩
  rw [← hW1] at hd0 hI0 hbel hrun0 hsz1
  clear hW1
  have hturn : ∀ (W : World) (r' : Loop), But w.heap.size (w.heap.size + 2 + z) W (W.putObj (w.heap.size + 1) (.loop r')) := fun W r' => But.putObj W (by omega) (by omega) _
  refine ⟨w.heap.size + 1, [{ target := .collected w.heap.size, args := #[] }], W1, { target := .fn (.func gf) lb, args := #[.func (.yield (w.heap.size + 1)) #[] #[]] }, W1, gf,
    #[.func (.yield (w.heap.size + 1)) #[] #[]] ++ lb, W1, hrun0, ?_, ?_, ?_, fun _ => h1, ?_⟩
  · simp only [resolve, hg]
    simp [go_sem]
  · intro f' hf'
    simp [Target.leads] at hf'
    subst hf'
    exact hFg
  · simp [invoke, go_sem, eg]
  · refine (hseq (w.heap.size + 1) (fun pre W => I pre W ∧ Desk w.heap.size (R .ready none) W) (fun pre W => ∃ c, Ix c pre W ∧ Desk w.heap.size (R .done (some c)) W) W1 hbel hsz1
      (fun pre U V hs hb => ⟨hI _ _ _ hs.1 (hb.mono (by omega) (Nat.le_refl _)), hs.2.but hb (.inl (Nat.le_refl _))⟩)
      (fun pre U V hs hb => by obtain ⟨c, hc, hd⟩ := hs; exact ⟨c, hIx _ _ _ _ hc (hb.mono (by omega) (Nat.le_refl _)), hd.but hb (.inl (Nat.le_refl _))⟩)
      ?_ ⟨hI0, hd0⟩).mono ?_
    · rintro pre x U V ⟨hi, hdU⟩ hzU hbU hkn hlen
      have hd := hdU.later hbU
      have hy := run_yield (P := P) (args := en x) hd.rec_ (by rw [hR]; exact hps x)
      rw [hR] at hy
      refine ⟨fn, _, assign, body, hy, roundIn_of_wpIn hfn (hassign _ x V _ ⟨_, run_beginRound hd.rec_ (by rw [hR]), ?_⟩)⟩
      obtain ⟨r1, hr1⟩ : ∃ r1 : Loop, r1 = { R .ready none with state := .busy } := ⟨_, rfl⟩
      rw [← hr1]
      have hd1 := hd.turn r1
      have hk1 := hKb V _ r1 hd
      have hlt := (hdU.turn r1).lt
      have hszp : (U.putObj (w.heap.size + 1) (.loop r1)).heap.size = U.heap.size := by unfold World.putObj; simp
      refine wpIn_mono (hbody _ pre x _ _ (hI _ _ _ hi (hturn _ _)) (by omega) (below_both hbU hdU.lt _) (hKn _ _ _ _ r1 hdU hd hkn) hlen) ?_
      have fin : ∀ (c : Option Code) (V' : World), (∀ r, Desk w.heap.size r (V.putObj (w.heap.size + 1) (.loop r1)) → Desk w.heap.size r V') → Desk w.heap.size r1 V' ∧
          (Instr.endRound (w.heap.size + 1) c).run P V' = .ok (.bool c.isNone) (V'.putObj (w.heap.size + 1) (.loop (R (if c.isNone then .ready else .done) c))) := fun c V' hk => by
        have hd2 := hk _ hd1
        refine ⟨hd2, ?_⟩
        have := run_endRound (P := P) c hd2.rec_
        rw [hr1] at this
        rw [this, hR]
      rintro e a3 V3 hp
      cases e with
      | normal =>
        obtain ⟨hd3, hrun⟩ := fin none V3 hp.1
        exact ⟨_, _, hrun, .inl ⟨rfl, ⟨hI _ _ _ hp.2.2 (hturn _ _), hd3.turn _⟩, hKt (hKt hk1 hp.2.1) (hKb _ _ _ hd3)⟩⟩
      | ret =>
        obtain ⟨hd3, hrun⟩ := fin (some .ret) V3 hp.1
        exact ⟨_, _, hrun, .inr ⟨rfl, ⟨.ret, hIx _ _ _ _ hp.2.2 (hturn _ _), hd3.turn _⟩, hKt (hKt hk1 hp.2.1) (hKb _ _ _ hd3)⟩⟩
      | exit id =>
        obtain ⟨hd3, hrun⟩ := fin (some (.exit id)) V3 hp.1
        exact ⟨_, _, hrun, .inr ⟨rfl, ⟨.exit id, hIx _ _ _ _ hp.2.2 (hturn _ _), hd3.turn _⟩, hKt (hKt hk1 hp.2.1) (hKb _ _ _ hd3)⟩⟩
      | goto t =>
        obtain ⟨hd3, hrun⟩ := fin (some (.goto t)) V3 hp.1
        exact ⟨_, _, hrun, .inr ⟨rfl, ⟨.goto t, hIx _ _ _ _ hp.2.2 (hturn _ _), hd3.turn _⟩, hKt (hKt hk1 hp.2.1) (hKb _ _ _ hd3)⟩⟩
      | panic _ => exact hp.elim
      | outgrown => exact hp.elim
    · rintro e V ⟨⟨v, rfl⟩, hend⟩
      rcases hend with ⟨xs, hS, hi, hd⟩ | ⟨pre, hSp, c, hi, hd⟩
      · have hrun := run_endLoop (P := P) hd.rec_ (by rw [hR]; simp)
        rw [hR] at hrun
        exact ⟨none, _, hrun, hdone xs _ hS (hI _ _ _ hi (hturn _ _)) (hd.turn _).marks⟩
      · have hrun := run_endLoop (P := P) hd.rec_ (by rw [hR]; simp)
        rw [hR] at hrun
        exact ⟨some c, _, hrun, hstop c pre _ hSp (hIx _ _ _ _ hi (hturn _ _)) (hd.turn _).marks⟩
end Go.Proofs.YtplchjeamooliaaDoor


/-
  A region that draws its order, in a round of a range over a function; a call of yield at any depth of the wide fence.
-/

namespace Go.Proofs.YtplchjeamooliaaDoor
set_option maxRecDepth 100000
open Go.RowKit Go.Shelf

/-- No operation defers. -/
def plainOps (ops : Array Oper) : Bool := ops.toList.all fun o => match o.op with | .defer _ => false | _ => true
theorem plainOps_at {ops : Array Oper} (h : plainOps ops = true) {i : Nat} {o : Oper} (ho : ops[i]? = some o) : ∀ c, o.op ≠ .defer c := by
  unfold plainOps at h
  rw [List.all_eq_true] at h
  intro c e
  have h1 := h o (List.mem_of_getElem? (by rw [Array.getElem?_toList]; exact ho))
  rw [e] at h1
  cases h1
theorem operIn_round {F : Fence} {n : Nat} {P : Program} {o : Oper} (l : Nat) (hr : F.round = none) (hd : ∀ c, o.op ≠ .defer c) {a : Act} {w : World} {K : Act → World → Prop} {Q : Exit → Act → World → Prop} (h : o.wpIn F n P a w K Q) : o.wpIn (F.inRound l) n P a w K Q := by
  unfold Oper.wpIn at *
  refine ⟨h.1, ?_⟩
  have h2 := h.2
  rw [hr, Oper.semAt_none] at h2
  rw [Fence.inRound_round, Oper.semAt_eq _ _ _ hd]
  exact h2
theorem opsIn_round {F : Fence} {n : Nat} {P : Program} {ops : Array Oper} {Q : Exit → Act → World → Prop} (l : Nat) (hr : F.round = none) (hd : plainOps ops = true) : ∀ (is : List Nat) (a : Act) (w : World), wpOpsIn F n P ops Q is a w → wpOpsIn (F.inRound l) n P ops Q is a w
  | [], _, _, h => h
  | i :: rest, a, w, h => by
    unfold wpOpsIn at h ⊢
    cases ho : ops[i]? with
    | none => rw [ho] at h; exact opsIn_round l hr hd rest a w h
    | some o =>
      rw [ho] at h
      dsimp only at h ⊢
      split
      · rename_i hw
        rw [if_pos hw] at h
        exact operIn_round l hr (plainOps_at hd ho) (Oper.wpIn_mono (fun a w k => opsIn_round l hr hd rest a w k) h)
      · rename_i hw
        rw [if_neg hw] at h
        exact ⟨h.1, opsIn_round l hr hd rest _ w h.2⟩
/-- A region without a defer statement is walked in a round as outside of one. -/
theorem region_round {F : Fence} {n : Nat} {P : Program} {id : Nat} {ops : Array Oper} {Q : Exit → Act → World → Prop} {a : Act} {w : World} (l : Nat) (hr : F.round = none) (hd : plainOps ops = true) (hm : P.follows .mixedOrders = true)
    (h : wpAnyIn F n P .any ops Q ops.size (Array.replicate ops.size false) a { w with drawn := w.drawn + 1 }) : (Code.region id ops true).wpIn (F.inRound l) n P Q a w :=
  wpIn_region_draw fun t => by
    simp only [Region.schedule, hm, Bool.true_or, if_true]
    exact opsIn_round l hr hd _ a _ (wpAnyIn_sound ops.size t _ a _ h)

theorem round_any {F : Fence} (hd : F.depth = none) {m m' : Nat} {P : Program} {l : Nat} {args : Array Value} {W : World} {R : Ending → World → Prop} (h : YieldAt F m P l args W R) : YieldAt F m' P l args W R := by
  obtain ⟨fn, tmps, assign, body, hy, hR⟩ := h
  exact ⟨fn, tmps, assign, body, hy, hR.1, fun c cs _ => hR.2 c cs (by unfold Fence.room; rw [hd]; intro d h; cases h)⟩
end Go.Proofs.YtplchjeamooliaaDoor


/-
  impl.numbersAt: the numbers at places; impl.patternAt: their pattern.
-/

namespace Go.Proofs.YtplchjeamooliaaDoor
set_option maxRecDepth 100000
open Go.RowKit

theorem nums_patOK {p pl : List Int} (hp : isP p = true) (h : PlOK p.length pl) : patOK (nums p pl) = true :=
  patOK_yes (Nat.le_trans (nums_sub' h).length_le (isP_le hp)) ((isP_true.1 hp).2.2.sublist (nums_sub' h))
theorem plOK_le {n : Nat} {pl : List Int} (h : PlOK n pl) : pl.length ≤ n := by
  have h1 := nums_sub' (p := List.replicate n 0) (pl := pl) (by rw [List.length_replicate]; exact h)
  have := h1.length_le
  rwa [nums_length, List.length_replicate] at this
set_option maxHeartbeats 800000 in
theorem inums_any (A A' : Option Addr) (n c B n' c' B' : Nat) (p pl : List Int) (hp : isP p = true) (hpl : PlOK p.length pl) (w : World) (h : Arg w B A n c p) (h' : Arg w B' A' n' c' pl) :
    Calls Tryd.prog 86 #[.slice A n c, .slice A' n' c'] w (GivesI w (nums p pl)) := by
  obtain ⟨i0, hi, hz0, hz1, hz2⟩ := info_parts intInfo
  have hl := h'.len
  have hlp := h.len
  have hr := h.reads
  have hr' := h'.reads
  have hB := h.under
  have hB' := h'.under
  have hn8 : n ≤ 8 := by have := isP_le hp; omega
  have hn8' : n' ≤ 8 := by have := plOK_le hpl; omega
  have HP := hide (fun k (hk : k < n') => show 1 ≤ at0 pl k ∧ at0 pl k ≤ (n : Int) from by have := hpl.rng (i := k) (by omega); omega)
  have HL := hide (show pl.length = n' from hl)
  have HLP := hide (show p.length = n from hlp)
  obtain ⟨zs, hzs⟩ : ∃ zs, zs = nums p pl := ⟨_, rfl⟩
  have hlz : zs.length = n' := by rw [hzs, nums_length]; exact hl
  have HAT := hide (show ∀ (k : Nat) (z y : Int), k < n' → pl[k]? = some z → p[z.toNat - 1]? = some y → zs[k]? = some y from fun k z y hk hz hy => by
    have h1 := at0_some (l := nums p pl) (k := k) (by rw [nums_length]; omega)
    rw [nums_at0 (by omega), at0_of hz, at0_of hy] at h1
    rw [hzs]; exact h1)
  rw [← hzs]
  have HLZ := hide hlz
  clear hl hlp hp hpl h h' hzs hlz
  have hst := Below.refl w.heap.size w
  have hs0 := hst.size
  go_enter Tryd.func86, Tryd.ntmps86
  go_wp2_with (first
    | (at_make; refine wpList_make_full _ rfl (.tmp 9) (.tmp 9) 30 rfl w.heap.size 3 i0 (.int .i64 0) 1 Tryd.underlying30 hi hz0 hz1 _ _ _ _ n' rfl rfl (by first | rfl | omega) (by first | rfl | omega) (by rw [hz2]; omega) (by unfold maxLen; omega) hs0 ?_; intro w3 hown hg))
  have hb1 := hst.grown hg hs0 (by simp)
  clear hg hst
  obtain ⟨g, hg⟩ : ∃ g, g = w.heap.size := ⟨_, rfl⟩
  obtain ⟨xs0, hown2⟩ : ∃ xs0, w3.ownsRow w.heap.size 3 1 (.slice (some ⟨g, 0, none⟩) n' n') n' xs0 := by rw [hg]; exact ⟨_, hown⟩
  rw [← hg]
  clear hg hown
  go_loopw [6, 7, 13] (fun _ _ i wr => ∃ (k : Nat) (xs : List Value), k ≤ n' ∧ i = .int .i64 k ∧ Below w.heap.size w wr ∧ wr.ownsRow w.heap.size 3 1 (.slice (some ⟨g, 0, none⟩) n' n') n' xs ∧ Hid (xs.take k = (i64s zs).take k)) (fun _ _ i _ => n' - (intOf i).toNat)
  case atStart => exact ⟨0, _, Nat.zero_le _, rfl, hb1, hown2, by exact rfl⟩
  case round =>
    obtain ⟨k, xs, hk, rfl, hb, hown', hx⟩ := hrel
    clear hown2 hb1 hs0
    have hlx : xs.length = n' := by simpa using hown'.1
    by_cases hlt : k < n'
    · obtain ⟨ad, u, rfl, had, hu, hc⟩ := ((hr'.more hB').below hb).at_ hlt
      obtain ⟨z, hz, rfl⟩ := i64_at hu
      have hz9 : at0 pl k = z := at0_of hz
      obtain ⟨hz1', hz2'⟩ := unhide HP k hlt
      rw [hz9] at hz1' hz2'
      have hzn : z.toNat - 1 < n := by omega
      obtain ⟨ad2, u2, rfl, had2, hu2, hc2⟩ := ((hr.more hB).below hb).at_ hzn
      obtain ⟨y, hy, rfl⟩ := i64_at hu2
      obtain ⟨old, hold⟩ : ∃ old, wr.cell? ⟨g, k, none⟩ = some old := ⟨_, by rw [hown'.cellAt k (by omega)]; exact List.getElem?_eq_getElem (by omega)⟩
      have hfz := hown'.frozenAt k
      have hst := hide (take_set_i (unhide hx) (i64_get (unhide HAT k z y hlt hz hy)) (by omega))
      have ho2 := (hown'.stored k (.int .i64 y)).1
      have hb2 := below_set_i hb hown' k (.int .i64 y)
      clear hx hlx hu hu2 hz hy hown' hb
      go_wp2
      go_roundw
      case rel => exact ⟨k + 1, _, by omega, by go_num, hb2, ho2, hst⟩
      case measure => simp [intOf]; omega
    · obtain rfl : n' = k := by omega
      have hl3 : zs.length = n' := unhide HLZ
      have : xs = i64s zs := by
        have h := unhide hx
        rwa [List.take_of_length_le (by omega), List.take_of_length_le (by rw [i64_length]; omega)] at h
      subst this
      have hI : Ints wr w.heap.size (.slice (some ⟨g, 0, none⟩) n' n') zs := Ints.of_own hown'
      have hI4 := hI.low (Nat.le_refl _)
      clear hx hlx hown' hI
      go_wp2
      go_ret
      exact GivesI.mk hI4 hb
set_option maxHeartbeats 800000 in
theorem ipatat_any (A A' : Option Addr) (n c B n' c' B' : Nat) (p pl : List Int) (hp : isP p = true) (hpl : PlOK p.length pl) (w : World) (h : Arg w B A n c p) (h' : Arg w B' A' n' c' pl) :
    Calls Tryd.prog 75 #[.slice A n c, .slice A' n' c'] w (GivesI w (patA p pl)) := by
  have HSM := hide (show Small (nums p pl) from fun z hz => by
    obtain ⟨x, hx, rfl⟩ := List.mem_map.1 hz
    have hx2 := hpl.1 x hx
    have := isP_le hp
    have := isP_range hp (at0_some (show x.toNat - 1 < p.length by omega))
    omega)
  have hn8' : (nums p pl).length ≤ 8 := by have := plOK_le hpl; have := isP_le hp; rw [nums_length]; omega
  have HOK := hide (nums_patOK hp hpl)
  have H0 := hide (inums_any A A' n c B n' c' B' p pl hp hpl w h h')
  have hst := Below.refl w.heap.size w
  unfold patA
  obtain ⟨zs, hzs⟩ : ∃ zs, zs = nums p pl := ⟨_, rfl⟩
  rw [← hzs] at HSM HOK H0 hn8' ⊢
  clear h h' hp hpl hzs
  go_enter Tryd.func75, Tryd.ntmps75
  go_wp2_with fail
  refine (unhide H0).mono ?_
  rintro e w3 ⟨A3, c3, rfl, o3, hb3⟩
  have hA := o3.arg (by omega) o3.cap (unhide HSM)
  have H1 := hide (ipat_any A3 zs.length c3 _ zs true (unhide HOK) w3 hA)
  clear H0 o3 hA
  go_wp2_with fail
  refine (unhide H1).mono ?_
  rintro e w4 ⟨A4, c4, rfl, o4, hb4⟩
  rw [patR_yes (unhide HOK)] at o4 ⊢
  have hI4 := o4.low hb3.size
  have hb5 := below_after hb3 hb4
  clear H1 o4 hb4
  go_wp2
  go_ret
  exact GivesI.mk hI4 hb5
end Go.Proofs.YtplchjeamooliaaDoor


/-
  impl.chooseMore: the choices that begin with the places in the buffer, handed to yield one after the other; the buffer is lent.
-/

namespace Go.Proofs.YtplchjeamooliaaDoor
set_option maxRecDepth 100000
open Go.RowKit Go.Shelf
attribute [local go_sem] Oper.semAt_some

theorem chK_le (n m : Nat) (head : List Int) : ∀ {i j : Nat}, i ≤ j → (chK n m head i).length ≤ (chK n m head j).length := by
  intro i j h
  induction h with
  | refl => exact Nat.le_refl _
  | step h ih => rw [Nat.succ_eq_add_one, chK_step, List.length_append]; omega
/-- What lies in the buffer, block g. -/
def Buf (g K : Nat) (head : List Int) (W : World) : Prop := W.ownsRow g 3 1 (.slice (some ⟨g, 0, none⟩) head.length K) head.length (i64s head)
theorem Buf.kept {g K : Nat} {head : List Int} {W W' : World} (h : Buf g K head W) (hk : W'.heap[g]? = W.heap[g]?) : Buf g K head W' := by
  refine ⟨h.1, ?_⟩
  rcases h.2 with hn | ⟨g', cap, cur, hv, hb, hc, rest⟩
  · exact .inl hn
  · refine .inr ⟨g', cap, cur, hv, hb, ?_, rest⟩
    have : g' = g := by injection hv with h1; injection h1 with h2; injection h2 with h3; exact h3.symm
    subst this
    exact hk.trans hc
theorem Buf.lt {g K : Nat} {head : List Int} {W : World} (h : Buf g K head W) : g < W.heap.size := (World.ownsRow.lt h g rfl).2
theorem Buf.alloc {g K : Nat} {head : List Int} {W : World} (h : Buf g K head W) (o : Obj) : Buf g K head (W.alloc o) := h.kept (Below.heap_alloc W o g h.lt)
theorem Buf.ints {g K : Nat} {head : List Int} {W : World} (h : Buf g K head W) : Ints W g (.slice (some ⟨g, 0, none⟩) head.length K) head := Ints.of_own h
theorem Buf.back {g K : Nat} {head : List Int} {x : Int} {W : World} (h : Buf g K (head ++ [x]) W) : Buf g K head W := by
  unfold Buf at h
  have h1 := own_cut (s := head.length) h (by simp)
  rw [← i64_append, List.take_append_of_le_length (by rw [i64_length]; exact Nat.le_refl _), List.take_of_length_le (by rw [i64_length]; exact Nat.le_refl _)] at h1
  exact h1
/-- What chooseMore gives. -/
def Went (J Jx : List (List Int) → World → Prop) (g K : Nat) (head : List Int) (pre R : List (List Int)) (V : World) (e : Ending) (V' : World) : Prop :=
  (e = .returned (.bool true) ∧ J (pre ++ R) V' ∧ Buf g K head V' ∧ V.heap.size ≤ V'.heap.size) ∨ (e = .returned (.bool false) ∧ ∃ xs, Jx (pre ++ xs) V')
/-- What yield is asked to give. -/
def Lends (l g K n hi N : Nat) (J Jx : List (List Int) → World → Prop) : Prop :=
  ∀ m pre x V, J pre V → Buf g K x V → x.length = K → PlOK n x → hi ≤ V.heap.size → pre.length < N → YieldAt Fence.wide m Tryd.prog l #[.slice (some ⟨g, 0, none⟩) K K] V fun e V' => ∃ b : Bool, e = .returned (.bool b) ∧ (b = true → J (pre ++ [x]) V' ∧ V.heap.size ≤ V'.heap.size ∧ V'.heap[g]? = V.heap[g]?) ∧ (b = false → Jx (pre ++ [x]) V')

set_option maxRecDepth 100000 in
set_option maxHeartbeats 2000000 in
theorem more_zero (l g K n hi N : Nat) (J Jx : List (List Int) → World → Prop) (hY : Lends l g K n hi N J Jx) (head : List Int) (pre : List (List Int)) (k : Nat) (V : World) (hl : head.length = K) (hp : PlOK n head) (hj : J pre V) (hb : Buf g K head V) (hz : hi ≤ V.heap.size) (hN : pre.length < N) :
    CallsIn Fence.wide k Tryd.prog 84 #[.slice (some ⟨g, 0, none⟩) head.length K, .int .i64 n, .int .i64 K, .func (.yield l) #[] #[]] V (Went J Jx g K head pre [head] V) := by
  subst hl
  obtain ⟨fn, tmps, assign, body, hy, hR⟩ := hY (k - 1) pre head V hj hb rfl hp hz hN
  have hlt := hb.lt
  refine callsIn_of_wp Tryd.func84 rfl trivial ?_ rfl
  simp only [Tryd.ntmps84, List.size_toArray, List.length_cons, List.length_nil, Nat.reduceAdd, Nat.reduceSub, Array.replicate_succ, Array.replicate_zero, List.push_toArray, List.append_toArray, List.nil_append, List.cons_append]
  clear hY hj
  gi_wp2_with fail
  refine And.intro (fun h => absurd h (by decide)) ?_
  refine hR.mono ?_
  rintro e V2 ⟨b, rfl, h1, h2⟩
  clear hR hy
  cases b with
  | true =>
    obtain ⟨hj2, hs2, hg2⟩ := h1 rfl
    clear h1 h2
    gi_wp2
    go_ret
    exact .inl ⟨rfl, hj2, hb.kept hg2, hs2⟩
  | false =>
    have hx := h2 rfl
    clear h1 h2
    gi_wp2
    go_ret
    exact .inr ⟨rfl, [head], hx⟩

set_option maxRecDepth 100000 in
set_option maxHeartbeats 4000000 in
theorem more_stepA (l g K n lo hi N : Nat) (hlo : lo ≤ g) (hhi : g < hi) (hn8 : n ≤ 8) (J Jx : List (List Int) → World → Prop) (hJ : ∀ pre U V, J pre U → But lo hi U V → J pre V) (m : Nat)
    (ih : ∀ (head : List Int) (pre : List (List Int)) (k : Nat) (V : World), head.length + m = K → PlOK n head → J pre V → Buf g K head V → hi ≤ V.heap.size → pre.length + (chL n m head).length ≤ N →
      CallsIn Fence.wide k Tryd.prog 84 #[.slice (some ⟨g, 0, none⟩) head.length K, .int .i64 n, .int .i64 K, .func (.yield l) #[] #[]] V (Went J Jx g K head pre (chL n m head) V))
    (pre : List (List Int)) (k : Nat) (V : World) (hl : 0 + (m + 1) = K) (hp : PlOK n []) (hj : J pre V) (hb : Buf g K [] V) (hz : hi ≤ V.heap.size) (hN : pre.length + (chL n (m + 1) []).length ≤ N) :
    CallsIn Fence.wide k Tryd.prog 84 #[.slice (some ⟨g, 0, none⟩) 0 K, .int .i64 n, .int .i64 K, .func (.yield l) #[] #[]] V (Went J Jx g K [] pre (chL n (m + 1) []) V) := by
  obtain ⟨i0, hi0, hz0, hi1, hz2⟩ := info_parts intInfo
  have hne : ((0 : Int) == (K : Int)) = false := by rw [beq_eq_false_iff_ne]; omega
  refine callsIn_of_wp Tryd.func84 rfl trivial ?_ rfl
  simp only [Tryd.ntmps84, List.size_toArray, List.length_cons, List.length_nil, Nat.reduceAdd, Nat.reduceSub, Array.replicate_succ, Array.replicate_zero, List.push_toArray, List.append_toArray, List.nil_append, List.cons_append]
  gi_wp2_with fail
  gi_loopw [9] (fun nx wr => ∃ j : Nat, j ≤ n - lastP [] ∧ nx = .int .i64 ((lastP [] + j + 1 : Nat) : Int) ∧ J (pre ++ chK n m [] j) wr ∧ Buf g K [] wr ∧ hi ≤ wr.heap.size ∧ V.heap.size ≤ wr.heap.size) (fun nx _ => n + 1 - (intOf nx).toNat)
  case atStart => exact ⟨0, Nat.zero_le _, rfl, by rw [chK_zero, List.append_nil]; exact hj, hb, hz, Nat.le_refl _⟩
  case round =>
    obtain ⟨j, hjn, rfl, hj1, hb1, hz1, hs1⟩ := hrel
    clear hj hb hz
    by_cases hlt : j < n - lastP []
    · obtain ⟨x, hx⟩ : ∃ x : Nat, x = lastP [] + j + 1 := ⟨_, rfl⟩
      have hxn : x ≤ n := by omega
      have hle : ((x : Nat) : Int) ≤ (n : Int) := by omega
      have H1 := hide (show ∀ w', (wr.alloc (.cells #[.int .i64 (x : Int)] 3)).grownBy w' (some g) → w'.ownsRow g 3 1 (.slice (some ⟨g, 0, none⟩) 1 K) 1 ([.int .i64 (x : Int)]) →
          CallsIn Fence.wide (k - 1) Tryd.prog 84 #[.slice (some ⟨g, 0, none⟩) 1 K, .int .i64 n, .int .i64 K, .func (.yield l) #[] #[]] w' fun e V' => (e = .returned (.bool true) ∧ J (pre ++ chK n m [] (j + 1)) V' ∧ Buf g K [] V' ∧ w'.heap.size ≤ V'.heap.size) ∨ (e = .returned (.bool false) ∧ ∃ xs, Jx (pre ++ xs) V') from fun w' hg' ho' => by
        have hok : PlOK n ([] ++ [((lastP [] + j + 1 : Nat) : Int)]) := PlOK.snoc.2 ⟨hp, by omega, by omega⟩
        have hbut : But lo hi wr w' := (But.alloc _ _).trans (But.grown hg' fun k e => by cases e; exact ⟨hlo, hhi⟩)
        have hN2 : (pre ++ chK n m [] j).length + (chL n m ([] ++ [((lastP [] + j + 1 : Nat) : Int)])).length ≤ N := by
          have h1 := chK_le n m [] (show j + 1 ≤ n - lastP [] by omega)
          rw [chK_step, List.length_append] at h1
          rw [chK_all] at h1
          rw [List.length_append]; omega
        have hsz' := hg'.size
        have hrec := ih ([] ++ [((lastP [] + j + 1 : Nat) : Int)]) (pre ++ chK n m [] j) (k - 1) w' (by simp; omega) hok (hJ _ _ _ hj1 hbut) (by show w'.ownsRow g 3 1 (.slice (some ⟨g, 0, none⟩) 1 K) 1 [.int .i64 ((lastP [] + j + 1 : Nat) : Int)]; rw [← hx]; exact ho') (by simp at hsz'; omega) hN2
        refine (show CallsIn Fence.wide (k - 1) Tryd.prog 84 #[.slice (some ⟨g, 0, none⟩) 1 K, .int .i64 n, .int .i64 K, .func (.yield l) #[] #[]] w' _ from hrec).mono ?_
        rintro e V' (⟨rfl, h1, h2, h3⟩ | ⟨rfl, xs, h1⟩)
        · exact .inl ⟨rfl, by rw [chK_step, ← List.append_assoc]; exact h1, h2.back, h3⟩
        · exact .inr ⟨rfl, _, by rw [← List.append_assoc]; exact h1⟩)
      rw [← hx]
      have hown : (wr.alloc (.cells #[.int .i64 (x : Int)] 3)).ownsRow g 3 1 (.slice (some ⟨g, 0, none⟩) 0 K) 0 [] := hb1.alloc _
      have hroom : 1 ≤ K := by omega
      have HX := hide hx
      clear ih hJ hp hN hjn hlt hx hxn hj1
      gi_wp2_with (first
        | (gi_at_builtin; refine wpListIn_append_fits _ rfl (.tmp 32) (.tmp 34) 30 rfl g 3 i0 1 Tryd.underlying30 hi0 hi1 g 0 K [] rfl hown ⟨wr.heap.size, 0, none⟩ 1 1 [.int .i64 (x : Int)] rfl rfl (cell_one_new _ _ _) (by simp [Value.oneCell']) hroom ?_; intro w' hown' hg'; have H2 := hide (unhide H1 w' hg' hown'); have hsz' := hg'.size; clear H1 hown hown' hg'))
      refine And.intro trivial (And.intro (fun h => absurd h (by decide)) ?_)
      refine (unhide H2).mono ?_
      rintro e V1 (⟨rfl, hj2, hb2, hs2⟩ | ⟨rfl, xs, hx2⟩)
      · clear H2
        have hx := unhide HX
        have hsz2 : wr.heap.size ≤ V1.heap.size := by simp at hsz'; omega
        clear hsz' hs2
        gi_wp2
        go_roundw
        case rel => exact ⟨j + 1, by have := unhide HX; omega, by have := unhide HX; go_num, hj2, hb2, by omega, by omega⟩
        case measure => have := unhide HX; simp [intOf]; omega
      · clear H2
        gi_wp2
        go_ret
        exact .inr ⟨rfl, xs, hx2⟩
    · have hje : j = n - lastP [] := by omega
      have hle := lastP_le hp
      have hgt : ¬ (((lastP [] + j + 1 : Nat) : Int) ≤ (n : Int)) := by omega
      rw [hje, chK_all] at hj1
      clear hje ih hJ hp hN hjn hlt
      gi_wp2
      go_ret
      exact .inl ⟨rfl, hj1, hb1, hs1⟩

set_option maxRecDepth 100000 in
set_option maxHeartbeats 4000000 in
theorem more_stepB (l g K n lo hi N : Nat) (hlo : lo ≤ g) (hhi : g < hi) (hn8 : n ≤ 8) (J Jx : List (List Int) → World → Prop) (hJ : ∀ pre U V, J pre U → But lo hi U V → J pre V) (m : Nat)
    (ih : ∀ (head : List Int) (pre : List (List Int)) (k : Nat) (V : World), head.length + m = K → PlOK n head → J pre V → Buf g K head V → hi ≤ V.heap.size → pre.length + (chL n m head).length ≤ N →
      CallsIn Fence.wide k Tryd.prog 84 #[.slice (some ⟨g, 0, none⟩) head.length K, .int .i64 n, .int .i64 K, .func (.yield l) #[] #[]] V (Went J Jx g K head pre (chL n m head) V))
    (head : List Int) (hcase : 0 < head.length) (pre : List (List Int)) (k : Nat) (V : World) (hl : head.length + (m + 1) = K) (hp : PlOK n head) (hj : J pre V) (hb : Buf g K head V) (hz : hi ≤ V.heap.size) (hN : pre.length + (chL n (m + 1) head).length ≤ N) :
    CallsIn Fence.wide k Tryd.prog 84 #[.slice (some ⟨g, 0, none⟩) head.length K, .int .i64 n, .int .i64 K, .func (.yield l) #[] #[]] V (Went J Jx g K head pre (chL n (m + 1) head) V) := by
  obtain ⟨i0, hi0, hz0, hi1, hz2⟩ := info_parts intInfo
  have hne : ((head.length : Int) == (K : Int)) = false := by rw [beq_eq_false_iff_ne]; omega
  have hc0 : 0 < (head.length : Int) := by omega
  have hlast := lastP_at hcase
  have hr := hp.rng (i := head.length - 1) (by omega)
  have hb0 : (0 : Int) ≤ (head.length : Int) - 1 := by omega
  have hb1' : (head.length : Int) - 1 < (head.length : Int) := by omega
  have hwr : IntKind.i64.wrap ((head.length : Int) - 1) = (head.length : Int) - 1 := by rw [IntKind.wrap_i64]; have := plOK_le hp; omega
  have hti : ((head.length : Int) - 1).toNat = head.length - 1 := by omega
  have hcell : V.cell? ⟨g, head.length - 1, none⟩ = some (.int .i64 (at0 head (head.length - 1))) := by
    rw [World.ownsRow.cellAt hb (head.length - 1) (by omega)]
    exact i64_get (at0_some (by omega))
  have hwr2 : IntKind.i64.wrap (at0 head (head.length - 1) + 1) = at0 head (head.length - 1) + 1 := by rw [IntKind.wrap_i64]; omega
  refine callsIn_of_wp Tryd.func84 rfl trivial ?_ rfl
  simp only [Tryd.ntmps84, List.size_toArray, List.length_cons, List.length_nil, Nat.reduceAdd, Nat.reduceSub, Array.replicate_succ, Array.replicate_zero, List.push_toArray, List.append_toArray, List.nil_append, List.cons_append]
  gi_wp2_with fail
  gi_loopw [9] (fun nx wr => ∃ j : Nat, j ≤ n - lastP head ∧ nx = .int .i64 ((lastP head + j + 1 : Nat) : Int) ∧ J (pre ++ chK n m head j) wr ∧ Buf g K head wr ∧ hi ≤ wr.heap.size ∧ V.heap.size ≤ wr.heap.size) (fun nx _ => n + 1 - (intOf nx).toNat)
  case atStart => exact ⟨0, Nat.zero_le _, by rw [hlast]; congr 1; omega, by rw [chK_zero, List.append_nil]; exact hj, hb, hz, Nat.le_refl _⟩
  case round =>
    obtain ⟨j, hjn, rfl, hj1, hb1, hz1, hs1⟩ := hrel
    clear hj hb hz
    by_cases hlt : j < n - lastP head
    · obtain ⟨x, hx⟩ : ∃ x : Nat, x = lastP head + j + 1 := ⟨_, rfl⟩
      have hxn : x ≤ n := by omega
      have hle : ((x : Nat) : Int) ≤ (n : Int) := by omega
      have H1 := hide (show ∀ w', (wr.alloc (.cells #[.int .i64 (x : Int)] 3)).grownBy w' (some g) → w'.ownsRow g 3 1 (.slice (some ⟨g, 0, none⟩) (head.length + 1) K) (head.length + 1) (i64s head ++ [.int .i64 (x : Int)]) →
          CallsIn Fence.wide (k - 1) Tryd.prog 84 #[.slice (some ⟨g, 0, none⟩) (head.length + 1) K, .int .i64 n, .int .i64 K, .func (.yield l) #[] #[]] w' fun e V' => (e = .returned (.bool true) ∧ J (pre ++ chK n m head (j + 1)) V' ∧ Buf g K head V' ∧ w'.heap.size ≤ V'.heap.size) ∨ (e = .returned (.bool false) ∧ ∃ xs, Jx (pre ++ xs) V') from fun w' hg' ho' => by
        have hok : PlOK n (head ++ [((lastP head + j + 1 : Nat) : Int)]) := PlOK.snoc.2 ⟨hp, by omega, by omega⟩
        have hbut : But lo hi wr w' := (But.alloc _ _).trans (But.grown hg' fun k e => by cases e; exact ⟨hlo, hhi⟩)
        have hN2 : (pre ++ chK n m head j).length + (chL n m (head ++ [((lastP head + j + 1 : Nat) : Int)])).length ≤ N := by
          have h1 := chK_le n m head (show j + 1 ≤ n - lastP head by omega)
          rw [chK_step, List.length_append] at h1
          rw [chK_all] at h1
          rw [List.length_append]; omega
        have hsz' := hg'.size
        have hrec := ih (head ++ [((lastP head + j + 1 : Nat) : Int)]) (pre ++ chK n m head j) (k - 1) w' (by simp; omega) hok (hJ _ _ _ hj1 hbut) (by unfold Buf; rw [List.length_append, List.length_singleton, ← i64_append, ← hx]; exact ho') (by simp at hsz'; omega) hN2
        rw [List.length_append, List.length_singleton] at hrec
        refine hrec.mono ?_
        rintro e V' (⟨rfl, h1, h2, h3⟩ | ⟨rfl, xs, h1⟩)
        · exact .inl ⟨rfl, by rw [chK_step, ← List.append_assoc]; exact h1, h2.back, h3⟩
        · exact .inr ⟨rfl, _, by rw [← List.append_assoc]; exact h1⟩)
      rw [← hx]
      have hown : (wr.alloc (.cells #[.int .i64 (x : Int)] 3)).ownsRow g 3 1 (.slice (some ⟨g, 0, none⟩) head.length K) head.length (i64s head) := hb1.alloc _
      have hroom : head.length + 1 ≤ K := by omega
      have HX := hide hx
      clear ih hJ hp hN hjn hlt hx hxn hj1
      gi_wp2_with (first
        | (gi_at_builtin; refine wpListIn_append_fits _ rfl (.tmp 32) (.tmp 34) 30 rfl g 3 i0 1 Tryd.underlying30 hi0 hi1 g head.length K (i64s head) rfl hown ⟨wr.heap.size, 0, none⟩ 1 1 [.int .i64 (x : Int)] rfl rfl (cell_one_new _ _ _) (by simp [Value.oneCell']) hroom ?_; intro w' hown' hg'; have H2 := hide (unhide H1 w' hg' hown'); have hsz' := hg'.size; clear H1 hown hown' hg'))
      refine And.intro trivial (And.intro (fun h => absurd h (by decide)) ?_)
      refine (unhide H2).mono ?_
      rintro e V1 (⟨rfl, hj2, hb2, hs2⟩ | ⟨rfl, xs, hx2⟩)
      · clear H2
        have hx := unhide HX
        have hsz2 : wr.heap.size ≤ V1.heap.size := by simp at hsz'; omega
        clear hsz' hs2
        gi_wp2
        go_roundw
        case rel => exact ⟨j + 1, by have := unhide HX; omega, by have := unhide HX; go_num, hj2, hb2, by omega, by omega⟩
        case measure => have := unhide HX; simp [intOf]; omega
      · clear H2
        gi_wp2
        go_ret
        exact .inr ⟨rfl, xs, hx2⟩
    · have hje : j = n - lastP head := by omega
      have hle := lastP_le hp
      have hgt : ¬ (((lastP head + j + 1 : Nat) : Int) ≤ (n : Int)) := by omega
      rw [hje, chK_all] at hj1
      clear hje ih hJ hp hN hjn hlt
      gi_wp2
      go_ret
      exact .inl ⟨rfl, hj1, hb1, hs1⟩

theorem more_any (l g K n lo hi N : Nat) (hlo : lo ≤ g) (hhi : g < hi) (hn8 : n ≤ 8) (J Jx : List (List Int) → World → Prop) (hJ : ∀ pre U V, J pre U → But lo hi U V → J pre V) (hY : Lends l g K n hi N J Jx) :
    ∀ (m : Nat) (head : List Int) (pre : List (List Int)) (k : Nat) (V : World), head.length + m = K → PlOK n head → J pre V → Buf g K head V → hi ≤ V.heap.size → pre.length + (chL n m head).length ≤ N →
      CallsIn Fence.wide k Tryd.prog 84 #[.slice (some ⟨g, 0, none⟩) head.length K, .int .i64 n, .int .i64 K, .func (.yield l) #[] #[]] V (Went J Jx g K head pre (chL n m head) V)
  | 0, head, pre, k, V, hl, hp, hj, hb, hz, hN => more_zero l g K n hi N J Jx hY head pre k V hl hp hj hb hz (by rw [chL, List.length_singleton] at hN; omega)
  | m + 1, head, pre, k, V, hl, hp, hj, hb, hz, hN => by
    have ih := more_any l g K n lo hi N hlo hhi hn8 J Jx hJ hY m
    by_cases h0 : head.length = 0
    · obtain rfl := List.eq_nil_of_length_eq_zero h0
      exact more_stepA l g K n lo hi N hlo hhi hn8 J Jx hJ m ih pre k V hl hp hj hb hz hN
    · exact more_stepB l g K n lo hi N hlo hhi hn8 J Jx hJ m ih head (by omega) pre k V hl hp hj hb hz hN
end Go.Proofs.YtplchjeamooliaaDoor


/-
  impl.choices: an iterator over the choices in order; the list is lent.
-/

namespace Go.Proofs.YtplchjeamooliaaDoor
set_option maxRecDepth 100000
open Go.RowKit Go.Shelf
attribute [local go_sem] Oper.semAt_some

theorem boxed_later {W W' : World} {b : Nat} {t : TypeId} {v : Value} (h : Boxed W b t v) (hb : Below W.heap.size W W') : Boxed W' b t v := (hb.block b h.lt).trans h
theorem icho_any (n K : Int) (w : World) :
    Calls Tryd.prog 74 #[.int .i64 n, .int .i64 K] w fun e w' => e = .returned (.func (.func 83) #[] #[.pointer (some ⟨w.heap.size + 1, 0, none⟩), .pointer (some ⟨w.heap.size, 0, none⟩)]) ∧ w' = (w.alloc (.cells #[.int .i64 n] 3)).alloc (.cells #[.int .i64 K] 3) := by
  go_enter Tryd.func74, Tryd.ntmps74
  go_wp2
  go_ret
  exact ⟨rfl, rfl⟩

set_option maxRecDepth 100000 in
set_option maxHeartbeats 2000000 in
theorem choices_tell (n K N bn bk : Nat) (hn8 : n ≤ 8) (hK8 : K ≤ 8) (hN : (chR n K).length ≤ N) (m : Nat) (w : World) (hbn : Boxed w bn 3 (.int .i64 n)) (hbk : Boxed w bk 3 (.int .i64 K)) :
    TellsZ Fence.wide m Tryd.prog 83 #[.pointer (some ⟨bk, 0, none⟩), .pointer (some ⟨bn, 0, none⟩)] 1 (fun _ : List Int => #[.slice (some ⟨w.heap.size + 2, 0, none⟩) K K]) (fun _ x V => Buf (w.heap.size + 2) K x V ∧ x.length = K ∧ PlOK n x)
      (fun V V' => V.heap.size ≤ V'.heap.size ∧ V'.heap[w.heap.size + 2]? = V.heap[w.heap.size + 2]?) (fun xs => xs = chR n K) (fun _ => True) N w := by
  intro l J Jx W hW hsz hJ hJx hY h0
  obtain ⟨i0, hi, hz0, hz1, hz2⟩ := info_parts intInfo
  have hcn := Boxed.cell (boxed_later hbn hW)
  have hck := Boxed.cell (boxed_later hbk hW)
  obtain ⟨w3, hrun, hown, hg⟩ := run_make_own (P := Tryd.prog) W.drew W.heap.size 30 3 i0 (.int .i64 0) 1 Tryd.underlying30 hi hz0 hz1 .i64 .i64 K (by rw [hz2]; omega) (by unfold maxLen; omega) (Nat.le_refl _)
  have hb3 := (below_drew W.heap.size W).grown hg (Nat.le_refl _) (by simp)
  have hlt := (Array.getElem?_eq_some_iff.1 hbn).1
  have hlt' := (Array.getElem?_eq_some_iff.1 hbk).1
  have hcn3 := (hb3.cell (p := ⟨bn, 0, none⟩) (by rw [hsz]; show bn < _; omega)).trans hcn
  have hck3 := (hb3.cell (p := ⟨bk, 0, none⟩) (by rw [hsz]; show bk < _; omega)).trans hck
  have hs3 : w.heap.size + 2 < w3.heap.size := by rw [← hsz]; exact (World.ownsRow.lt hown _ rfl).2
  have h1 : Buf (w.heap.size + 2) K [] w3 := by unfold Buf; rw [← hsz]; exact hown
  have HM := hide (show CallsIn Fence.wide 0 Tryd.prog 84 #[.slice (some ⟨w.heap.size + 2, 0, none⟩) 0 K, .int .i64 n, .int .i64 K, .func (.yield l) #[] #[]] w3 (fun e V => ∃ b : Bool, e = .returned (.bool b) ∧ ((∃ xs, xs = chR n K ∧ J xs V) ∨ ∃ pre, True ∧ Jx pre V)) from (more_any l (w.heap.size + 2) K n (w.heap.size + 2) (w.heap.size + 2 + 1) N (Nat.le_refl _) (Nat.lt_succ_self _) hn8 J Jx hJ
    (fun m' pre x V hj hb hxl hok hz hlen => round_any rfl ((hY pre x V V hj hz (Below.refl _ V) ⟨hb, hxl, hok⟩ hlen).mono (by
      rintro e V' (⟨rfl, h1, h2, h3⟩ | ⟨rfl, h1, _⟩)
      · exact ⟨true, rfl, fun _ => ⟨h1, h2, h3⟩, fun h => by cases h⟩
      · exact ⟨false, rfl, fun h => by (cases h), fun _ => h1⟩)))
    K [] [] 0 w3 (by simp) (PlOK.nil n) (hJ _ _ _ h0 ((But.of_below (hsz ▸ hb3)))) h1 (by omega) (by rw [List.length_nil, Nat.zero_add]; exact hN)).mono (by
      rintro e V (⟨rfl, h1, _⟩ | ⟨rfl, xs, h1⟩)
      · exact ⟨true, rfl, .inl ⟨_, rfl, h1⟩⟩
      · exact ⟨false, rfl, .inr ⟨_, trivial, h1⟩⟩))
  rw [show W.drew.heap.size = w.heap.size + 2 from hsz] at hrun
  change CallsIn Fence.wide m Tryd.prog 83 #[.func (.yield l) #[] #[], .pointer (some ⟨bk, 0, none⟩), .pointer (some ⟨bn, 0, none⟩)] W _
  refine callsIn_wide.2 ?_
  clear hY hJ hJx h0 hW hbn hbk h1 hown hg
  go_enter Tryd.func83, Tryd.ntmps83
  go_wp2_with fail
  have hcn0 : W.drew.cell? ⟨bn, 0, none⟩ = some (.int .i64 n) := hcn
  have hck0 : W.drew.cell? ⟨bk, 0, none⟩ = some (.int .i64 K) := hck
  go_region_with
    (first
      | (go_simp; go_at_call 84; refine (callsIn_wide.1 (unhide HM)).mono ?_; rintro e w4 ⟨b, rfl, h4⟩))
  all_goals go_wp2
  all_goals go_end0
  all_goals exact ⟨⟨_, rfl⟩, h4⟩
end Go.Proofs.YtplchjeamooliaaDoor


/-
  impl.occurrences: an iterator over the occurrences in order; each list is new.
-/

namespace Go.Proofs.YtplchjeamooliaaDoor
set_option maxRecDepth 100000
open Go.RowKit Go.Shelf
attribute [local go_sem] Oper.semAt_some

theorem arg_kept {w w' : World} {B n c : Nat} {A : Option Addr} {zs : List Int} (h : Arg w B A n c zs) (hs : w.heap.size ≤ w'.heap.size) (hk : ∀ k, k < B → w'.heap[k]? = w.heap[k]?) : Arg w' B A n c zs :=
  ⟨h.reads.keep fun p hp => by unfold World.cell?; rw [hk p.block hp], Nat.le_trans h.under hs, h.le, h.cap, h.small, h.nil⟩
theorem iocs_made (A A' : Option Addr) (n c n' c' : Nat) (w : World) :
    Calls Tryd.prog 56 #[.slice A n c, .slice A' n' c'] w fun e w' => e = .returned (.func (.func 73) #[] #[.pointer (some ⟨w.heap.size, 0, none⟩), .pointer (some ⟨w.heap.size + 1, 0, none⟩)]) ∧ w' = (w.alloc (.cells #[.slice A n c] 30)).alloc (.cells #[.slice A' n' c'] 30) := by
  go_enter Tryd.func56, Tryd.ntmps56
  go_wp2
  go_ret
  exact ⟨rfl, rfl⟩

/-- What a handed occurrence is. -/
def KnO (p q : List Int) (U : World) (x : Value × List Int) (V : World) : Prop := Ints V U.heap.size x.1 x.2 ∧ x.2 ∈ occR p q
/-- Each of them is one. -/
def AllIn (p q : List Int) (xs : List (Value × List Int)) : Prop := ∀ x ∈ xs, x.2 ∈ occR p q
/-- What the iterator over occurrences needs to lie as it lay. -/
structure KeptO (P : Nat → Prop) (B B' bp bq lo : Nat) : Prop where
  p : ∀ k, k < B → P k
  q : ∀ k, k < B' → P k
  bp : P bp
  bq : P bq
  zone : ∀ k, lo ≤ k → k < lo + 6 → P k
/-- What holds while it runs. -/
structure AtO (A A' : Option Addr) (n c B n' c' B' : Nat) (p q : List Int) (bp bq by_ l : Nat) (V : World) : Prop where
  p : Arg V B A n c p
  q : Arg V B' A' n' c' q
  bp : Boxed V bp 30 (.slice A n c)
  bq : Boxed V bq 30 (.slice A' n' c')
  by_ : Boxed V by_ 36 (.func (.yield l) #[] #[])

theorem AtO.below {A A' : Option Addr} {n c B n' c' B' : Nat} {p q : List Int} {bp bq by_ l : Nat} {U V : World} (h : AtO A A' n c B n' c' B' p q bp bq by_ l U) (hb : Below U.heap.size U V) : AtO A A' n c B n' c' B' p q bp bq by_ l V :=
  ⟨h.p.below hb, h.q.below hb, boxed_later h.bp hb, boxed_later h.bq hb, boxed_later h.by_ hb⟩
theorem AtO.drew {A A' : Option Addr} {n c B n' c' B' : Nat} {p q : List Int} {bp bq by_ l : Nat} {U : World} (h : AtO A A' n c B n' c' B' p q bp bq by_ l U) : AtO A A' n c B n' c' B' p q bp bq by_ l U.drew := h.below (below_drew _ U)
theorem patA_small {p pl : List Int} (hp : isP p = true) (h : PlOK p.length pl) : Small (patA p pl) := fun z hz => by
  obtain ⟨k, hk⟩ := List.getElem?_of_mem hz
  have h1 : isP (patA p pl) = true := by unfold patA; rw [isP_pat]; exact nums_patOK hp h
  have := isP_range h1 hk
  have := isP_le h1
  omega
set_option maxRecDepth 100000 in
set_option maxHeartbeats 4000000 in
theorem occ_tell (A A' : Option Addr) (n c B n' c' B' : Nat) (p q : List Int) (hp : isP p = true) (hq : isP q = true) (P : Nat → Prop) (bp bq N : Nat) (w : World) (hpA : Arg w B A n c p) (hqA : Arg w B' A' n' c' q)
    (hbp : Boxed w bp 30 (.slice A n c)) (hbq : Boxed w bq 30 (.slice A' n' c')) (hk : KeptO P B B' bp bq (w.heap.size + 2)) (m : Nat) (hN : (chR n n').length ≤ N) :
    TellsZ Fence.wide m Tryd.prog 73 #[.pointer (some ⟨bp, 0, none⟩), .pointer (some ⟨bq, 0, none⟩)] 6 (fun x : Value × List Int => #[x.1]) (KnO p q) (Keep P) (fun xs => xs.map (·.2) = occR p q) (AllIn p q) N w := by
  intro l J Jx W hW hsz hJ hJx hY h0
  change CallsIn Fence.wide m Tryd.prog 73 #[.func (.yield l) #[] #[], .pointer (some ⟨bp, 0, none⟩), .pointer (some ⟨bq, 0, none⟩)] W _
  have hn8 : n ≤ 8 := by have := isP_le hp; have := hpA.len; omega
  have hn8' : n' ≤ 8 := by have := isP_le hq; have := hqA.len; omega
  have hbpl := Boxed.lt hbp
  have hbql := Boxed.lt hbq
  have hBu := hpA.under
  have hBu' := hqA.under
  -- the world ahead of the loop
  obtain ⟨w1, hw1⟩ : ∃ w1, w1 = W.alloc (.cells #[.func (.yield l) #[] #[]] 36) := ⟨_, rfl⟩
  have hs1 : w1.heap.size = w.heap.size + 3 := by rw [hw1]; simp [hsz]
  have hb1 : Below W.heap.size W w1 := by rw [hw1]; exact (Below.refl _ W).alloc (Nat.le_refl _) _
  obtain ⟨w3, hw3⟩ : ∃ w3, w3 = (w1.alloc (.cells #[.int .i64 n] 3)).alloc (.cells #[.int .i64 n'] 3) := ⟨_, rfl⟩
  have hs3 : w3.heap.size = w.heap.size + 5 := by rw [hw3]; simp [hs1]
  have hb3 : Below w1.heap.size w1 w3 := by rw [hw3]; exact ((Below.refl _ w1).alloc (Nat.le_refl _) _).alloc (by simp) _
  have hbW3 : Below W.heap.size W w3 := below_after hb1 hb3
  have hbw1 : Below w.heap.size w w1 := below_after hW hb1
  have hbw3 : Below w.heap.size w w3 := below_after hW hbW3
  have hby1 : Boxed w1 (w.heap.size + 2) 36 (.func (.yield l) #[] #[]) := by rw [hw1, ← hsz]; exact Boxed.new W _ _
  have hAt : AtO A A' n c B n' c' B' p q bp bq (w.heap.size + 2) l w3 := ⟨hpA.below hbw3, hqA.below hbw3, boxed_later hbp hbw3, boxed_later hbq hbw3, boxed_later hby1 hb3⟩
  have hbn : Boxed w3 (w.heap.size + 3) 3 (.int .i64 n) := by rw [hw3, ← hs1]; exact Boxed.alloc (Boxed.new w1 _ _) _
  have hbk : Boxed w3 (w.heap.size + 4) 3 (.int .i64 n') := by
    have := Boxed.new (w1.alloc (.cells #[.int .i64 n] 3)) 3 (.int .i64 n')
    rw [World.size_alloc, hs1] at this
    rw [hw3]; exact this
  have hJ3 : J [] w3 := hJ _ _ _ h0 (But.of_below hbW3)
  have hseq := choices_tell n n' N (w.heap.size + 3) (w.heap.size + 4) hn8 hn8' hN 3 w3 hbn hbk
  have hcp1 := Boxed.cell (boxed_later hbp hbw1)
  have hcq1 := Boxed.cell (boxed_later hbq hbw1)
  have HC := hide (fun w' => icho_any n n' w')
  refine callsIn_wide.2 ((callsIn_wide (n := 4)).1 ?_)
  refine callsIn_of_wp_marks Tryd.func73 rfl trivial ?_ rfl
  simp only [Tryd.ntmps73, List.size_toArray, List.length_cons, List.length_nil, Nat.reduceAdd, Nat.reduceSub, Array.replicate_succ, Array.replicate_zero, List.push_toArray, List.append_toArray, List.nil_append, List.cons_append]
  rw [hw1] at hcp1 hcq1
  have HW1 := hide hw1
  have HW3 := hide hw3
  clear hw1 hw3
  gi_wp2_with fail
  refine ⟨trivial, ?_⟩
  refine (callsIn_wide.2 (unhide HC _)).mono ?_
  rintro e w2 ⟨rfl, hw2⟩
  rw [← unhide HW1, ← unhide HW3] at hw2
  subst hw2
  rw [← unhide HW1, hs1]
  clear HC HW1 HW3 hcp1 hcq1
  have HBD := hide (⟨hk, hJ, hJx⟩ : KeptO P B B' bp bq (w.heap.size + 2) ∧ (∀ pre U V, J pre U → But (w.heap.size + 2) (w.heap.size + 2 + 6) U V → J pre V) ∧ (∀ pre U V, Jx pre U → But (w.heap.size + 2) (w.heap.size + 2 + 6) U V → Jx pre V))
  have HFI := hide (occ_filter hp hq)
  have HIN := hide (show ∀ pl, patA p pl = q → pl.length = n' → PlOK n pl → pl ∈ occR p q from fun pl h1 h2 h3 => by
    have e1 := hpA.len
    have e2 := hqA.len
    exact mem_occ.2 (isOcc_iff.2 ⟨hp, hq, by omega, by rw [e1]; exact h3, h1⟩))
  have e1 := hpA.len
  have e2 := hqA.len
  have hwle := hbw3.size
  clear hW h0 hb1 hb3 hbW3 hbw1 hbw3 hby1 hbn hbk hpA hqA hbp hbq hJ hJx hk hs1
  gi_wp2
  refine range_zone rfl (by decide) (gf := 83) (lb := #[.pointer (some ⟨w.heap.size + 4, 0, none⟩), .pointer (some ⟨w.heap.size + 3, 0, none⟩)]) rfl trivial (enters_of Tryd.func83 (by kernel_rfl) rfl)
    hseq (fun h k => ⟨Nat.le_trans h.1 k.1, k.2.trans h.2⟩) (fun W r r' hd => ⟨by unfold World.putObj; simp, World.putObj_heap_other (by omega)⟩) (fun _ => rfl) (fun U V x r r' hdU hdV h => ⟨h.1.kept (World.putObj_heap_other (by omega)), h.2⟩)
    (fun pre V => ∃ xs, (J xs V ∧ xs.map (·.2) = pre.filter (fun pl => decide (patA p pl = q))) ∧ AtO A A' n c B n' c' B' p q bp bq (w.heap.size + 2) l V ∧ AllIn p q xs)
    (fun c _ V => c = .ret ∧ ∃ xs, Jx xs V ∧ AllIn p q xs)
    (fun pre U V h hb => by
      obtain ⟨xs, ⟨h1, h2⟩, h3, h4⟩ := h
      exact ⟨xs, ⟨(unhide HBD).2.1 _ _ _ h1 (hb.mono (by omega) (by omega)), h2⟩, ⟨arg_kept h3.p hb.size fun k hk => hb.block k (by have := h3.p.under; omega) (by omega), arg_kept h3.q hb.size fun k hk => hb.block k (by have := h3.q.under; omega) (by omega), Boxed.but h3.bp hb (by omega), Boxed.but h3.bq hb (by omega), Boxed.but h3.by_ hb (by omega)⟩, h4⟩)
    (fun c pre U V h hb => by
      obtain ⟨hc, xs, h1, h2⟩ := h
      exact ⟨hc, xs, (unhide HBD).2.2 _ _ _ h1 (hb.mono (by omega) (by omega)), h2⟩)
    ⟨[], ⟨hJ3, rfl⟩, hAt, fun x hx => by cases hx⟩
    (fun _ => { tmps := #[.func (.yield l) #[] #[], .pointer (some ⟨bp, 0, none⟩), .pointer (some ⟨bq, 0, none⟩), .pointer (some ⟨w.heap.size + 2, 0, none⟩), .slice (some ⟨w2.heap.size + 2, 0, none⟩) n' n', .slice A n c, .int .i64 n, .slice A' n' c', .int .i64 n',
      .func (.func 83) #[] #[.pointer (some ⟨w.heap.size + 4, 0, none⟩), .pointer (some ⟨w.heap.size + 3, 0, none⟩)], .slice (some ⟨w2.heap.size + 2, 0, none⟩) n' n', undef, undef, undef, undef, undef, undef, undef, undef, undef, undef, undef, undef], defers := [] }) ?assign ?body ?done ?stop
  case assign =>
    intro l x W K hK
    clear hs3
    gi_wp2
    exact hK
  case body =>
    rintro l2 pre pl U V ⟨xs, ⟨hJU, hxs⟩, hAtU, hall⟩ hzU hbU ⟨hbuf, hpl, hok⟩ hlen
    obtain ⟨g, hg⟩ : ∃ g, g = w2.heap.size + 2 := ⟨_, rfl⟩
    rw [← hg] at hbuf ⊢
    have hAtV0 := hAtU.below hbU
    have hAtV := hAtV0.drew
    have hJV := (unhide HBD).2.1 _ _ _ hJU (But.of_below hbU)
    have hsm : Small pl := fun z hz => by have := hok.1 z hz; omega
    have hApl := ((hpl ▸ hbuf.ints : Ints V g (.slice (some ⟨g, 0, none⟩) n' n') pl).arg (by omega) (Nat.le_refl _) hsm).drew
    have hcp := Boxed.cell hAtV.bp
    have hcq := Boxed.cell hAtV.bq
    have hcy := Boxed.cell hAtV.by_
    have H1 := hide (ipatat_any A (some ⟨g, 0, none⟩) n c B n' n' _ p pl hp (e1.symm ▸ hok) V.drew hAtV.p hApl)
    have hmx : Tryd.prog.follows .mixedOrders = true := by kernel_rfl
    by_cases hyes : patA p pl = q
    · have hdec : decide (patA p pl = q) = true := by simpa using hyes
      have H2 := hide (show ∀ (A4 : Option Addr) (c4 : Nat) (w4 : World), Ints w4 V.drew.heap.size (.slice A4 (patA p pl).length c4) (patA p pl) → Below V.drew.heap.size V.drew w4 → Calls Tryd.prog 25 #[.slice A4 (patA p pl).length c4, .slice A' n' c'] w4 fun e w' => e = .returned (.bool true) ∧ Drew w4 w' from fun A4 c4 w4 h1 h2 =>
        eqsl_any A4 A' _ c4 _ n' c' B' (patA p pl) q true hdec w4 (h1.arg (by unfold patA; rw [patL_length, nums_length]; omega) h1.cap (patA_small hp (e1.symm ▸ hok))) (hAtV.q.below h2))
      have HQ := hide (show ∀ w4, Below V.drew.heap.size V.drew w4 → w4.cell? ⟨bq, 0, none⟩ = some (.slice A' n' c') from fun w4 h => Boxed.cell (boxed_later hAtV.bq h))
      have HY := hide (show ∀ w4, Below V.drew.heap.size V.drew w4 → w4.cell? ⟨w.heap.size + 2, 0, none⟩ = some (.func (.yield l) #[] #[]) from fun w4 h => Boxed.cell (boxed_later hAtV.by_ h))
      have HCL := hide (show ∀ w5, Below V.drew.heap.size V.drew w5 → Calls Tryd.prog 41 #[.slice (some ⟨g, 0, none⟩) n' n'] w5 (GivesI w5 pl) from fun w5 h => clone_any (some ⟨g, 0, none⟩) n' n' _ pl w5 (hApl.below h))
      have HYL := hide (show ∀ (w5 w6 : World) (A6 : Option Addr) (c6 : Nat), Below V.heap.size V w5 → Below w5.heap.size w5 w6 → Ints w6 w5.heap.size (.slice A6 pl.length c6) pl → YieldAt Fence.wide 1 Tryd.prog l #[.slice A6 pl.length c6] w6 fun e V' => ∃ b : Bool, e = .returned (.bool b) ∧
          (b = true → (∀ r, Desk w2.heap.size r V → Desk w2.heap.size r V') ∧ (V.heap.size ≤ V'.heap.size ∧ V'.heap[g]? = V.heap[g]?) ∧ ∃ xs, (J xs V' ∧ xs.map (·.2) = (pre ++ [pl]).filter (fun pl => decide (patA p pl = q))) ∧ AtO A A' n c B n' c' B' p q bp bq (w.heap.size + 2) l V' ∧ AllIn p q xs) ∧
          (b = false → (∀ r, Desk w2.heap.size r V → Desk w2.heap.size r V') ∧ (V.heap.size ≤ V'.heap.size ∧ V'.heap[g]? = V.heap[g]?) ∧ ∃ xs, Jx xs V' ∧ AllIn p q xs) from fun w5 w6 A6 c6 h5 h6 hI => by
        have hin := unhide HIN pl hyes hpl hok
        have hk := (unhide HBD).1
        have hz5 := h5.size
        have hz6 := h6.size
        have hbs := hbU.size
        have hxl : xs.length < N := by
          have h1 := congrArg List.length hxs
          have h2 := List.length_filter_le (fun pl => decide (patA p pl = q)) pre
          rw [List.length_map] at h1
          omega
        have hV6 : Below V.heap.size V w6 := below_after h5 h6
        have hglt := hbuf.lt
        have hkeep : ∀ V', Keep P w6 V' → (∀ r, Desk w2.heap.size r V → Desk w2.heap.size r V') ∧ (V.heap.size ≤ V'.heap.size ∧ V'.heap[g]? = V.heap[g]?) := fun V' h =>
          ⟨fun r hd => h.desk (hd.later hV6) (hk.zone _ (by omega) (by omega)) (hk.zone _ (by omega) (by omega)), Nat.le_trans hV6.size h.size, (h.block g (by omega) (hk.zone _ (by omega) (by omega))).trans (hV6.block g hglt)⟩
        have hall2 : AllIn p q (xs ++ [(.slice A6 pl.length c6, pl)]) := fun x hx => by
          rcases List.mem_append.1 hx with h | h
          · exact hall x h
          · rw [List.mem_singleton.1 h]; exact hin
        refine (round_any rfl (hY xs (.slice A6 pl.length c6, pl) w5 w6 ((unhide HBD).2.1 _ _ _ hJV (But.of_below h5)) (by omega) h6 ⟨hI, hin⟩ hxl)).mono ?_
        rintro e V' (⟨rfl, h1, h2⟩ | ⟨rfl, h1, h2⟩)
        · refine ⟨true, rfl, fun _ => ⟨(hkeep V' h2).1, (hkeep V' h2).2, xs ++ [(.slice A6 pl.length c6, pl)], ⟨h1, by rw [List.map_append, hxs, List.filter_append]; simp [hyes]⟩, ?_, hall2⟩, fun h => (by cases h)⟩
          have h6 := hAtV0.below hV6
          exact ⟨arg_kept h6.p h2.size fun k hkk => h2.block k (by have := h6.p.under; omega) (hk.p k hkk), arg_kept h6.q h2.size fun k hkk => h2.block k (by have := h6.q.under; omega) (hk.q k hkk), h2.boxed h6.bp hk.bp, h2.boxed h6.bq hk.bq, h2.boxed h6.by_ (hk.zone _ (by omega) (by omega))⟩
        · exact ⟨false, rfl, fun h => (by cases h), fun _ => ⟨(hkeep V' h2).1, (hkeep V' h2).2, xs ++ [(.slice A6 pl.length c6, pl)], h1, hall2⟩⟩)
      have HG := hide (⟨hg, hs3⟩ : g = w2.heap.size + 2 ∧ w2.heap.size = w.heap.size + 5)
      clear hseq hAtU hAtV hAtV0 hApl hJU hJV hbuf hxs hall hyes hg hs3 hY hpl
      gi_wp2_with fail
      refine region_round l2 rfl (by kernel_rfl) hmx ?_
      change wpAnyIn _ _ _ _ _ _ _ _ _ (World.drew _)
--REGION-YES
      refine wpAnyIn_take (i := 1) (v := .slice (some ⟨g, 0, none⟩) n' n') rfl rfl (by kernel_rfl) (by kernel_rfl) (by kernel_rfl) (fun _ _ _ h => h) ⟨Or.inl ⟨by rfl, fun w => by go_simp⟩, fun _ => rfl⟩ ?_
      simp only [Act.put]
      refine wpAnyIn_ready (rs := [0, 3]) (by kernel_rfl) (by simp) ?_
      refine AllReadyIn.cons rfl (fun K hK => ?_) (AllReadyIn.cons rfl (fun K hK => ?_) (AllReadyIn.nil))
      · skip
        go_simp
        refine hK _ _ ?_
        clear hK K
        refine wpAnyIn_ready (rs := [2, 3]) (by kernel_rfl) (by simp) ?_
        refine AllReadyIn.cons rfl (fun K hK => ?_) (AllReadyIn.cons rfl (fun K hK => ?_) (AllReadyIn.nil))
        · skip
          go_simp
          refine ⟨trivial, ?_⟩
          refine (callsIn_wide.2 (unhide H1)).mono ?_
          rintro e w4 ⟨A4, c4, rfl, o4, d4⟩
          have hq4 := unhide HQ w4 d4
          have H3 := hide (unhide H2 A4 c4 w4 o4 d4)
          refine hK _ _ ?_
          clear hK K
          refine wpAnyIn_ready (rs := [3]) (by kernel_rfl) (by simp) ?_
          refine AllReadyIn.cons rfl (fun K hK => ?_) (AllReadyIn.nil)
          go_simp
          refine hK _ _ ?_
          clear hK K
          refine wpAnyIn_ready (rs := [4]) (by kernel_rfl) (by simp) ?_
          refine AllReadyIn.cons rfl (fun K hK => ?_) (AllReadyIn.nil)
          go_simp
          refine ⟨trivial, ?_⟩
          refine (callsIn_wide.2 (unhide H3)).mono ?_
          rintro e w5 ⟨rfl, d5⟩
          have hb5 := d4.trans (d5.below _)
          have hy5 := unhide HY w5 hb5
          have H4 := hide (unhide HCL w5 hb5)
          refine hK _ _ ?_
          clear hK K
          refine wpAnyIn_take (i := 5) (v := .bool true) rfl rfl (by kernel_rfl) (by kernel_rfl) (by kernel_rfl) (fun _ _ _ h => h) ⟨Or.inl ⟨by rfl, fun w => by go_simp⟩, fun _ => rfl⟩ ?_
          simp only [Act.put]
          refine wpAnyIn_take (i := 7) (v := .slice (some ⟨g, 0, none⟩) n' n') rfl rfl (by kernel_rfl) (by kernel_rfl) (by kernel_rfl) (fun _ _ _ h => h) ⟨Or.inl ⟨by rfl, fun w => by go_simp⟩, fun _ => rfl⟩ ?_
          simp only [Act.put]
          refine wpAnyIn_ready (rs := [6, 8]) (by kernel_rfl) (by simp) ?_
          refine AllReadyIn.cons rfl (fun K hK => ?_) (AllReadyIn.cons rfl (fun K hK => ?_) (AllReadyIn.nil))
          · skip
            go_simp
            refine hK _ _ ?_
            clear hK K
            refine wpAnyIn_ready (rs := [8]) (by kernel_rfl) (by simp) ?_
            refine AllReadyIn.cons rfl (fun K hK => ?_) (AllReadyIn.nil)
            go_simp
            refine ⟨trivial, ?_⟩
            refine (callsIn_wide.2 (unhide H4)).mono ?_
            rintro e w6 ⟨A6, c6, rfl, o6, d6⟩
            have hy6 := unhide HY w6 (below_after hb5 d6)
            obtain ⟨fn, tmps, assign, body, hy, hR⟩ := unhide HYL w5 w6 A6 c6 ((below_drew V.heap.size V).trans hb5) d6 o6
            refine hK _ _ ?_
            clear hK K
            refine wpAnyIn_ready (rs := [9]) (by kernel_rfl) (by simp) ?_
            refine AllReadyIn.cons rfl (fun K hK => ?_) (AllReadyIn.nil)
            go_simp
            refine hR.mono ?_
            rintro e w7 ⟨b, rfl, ht, hf⟩
            refine hK _ _ ?_
            clear hK K
            refine wpAnyIn_take (i := 10) (v := .bool (!b)) rfl rfl (by kernel_rfl) (by kernel_rfl) (by kernel_rfl) (fun _ _ _ h => h) ⟨Or.inl ⟨by rfl, fun w => by go_simp⟩, fun _ => rfl⟩ ?_
            simp only [Act.put]
            refine wpAnyIn_take (i := 11) (v := .bool (!b)) rfl rfl (by kernel_rfl) (by kernel_rfl) (by kernel_rfl) (fun _ _ _ h => h) ⟨Or.inl ⟨by rfl, fun w => by go_simp⟩, fun _ => rfl⟩ ?_
            simp only [Act.put]
            refine wpAnyIn_done (by kernel_rfl) ?_ _
            cases b with
            | true =>
              have hend := ht rfl
              clear ht hf hR hy
              gi_wp2
              exact hend
            | false =>
              have hend := hf rfl
              clear ht hf hR hy
              gi_wp2
              exact ⟨hend.1, hend.2.1, rfl, hend.2.2⟩
          · skip
            go_simp
            refine ⟨trivial, ?_⟩
            refine (callsIn_wide.2 (unhide H4)).mono ?_
            rintro e w6 ⟨A6, c6, rfl, o6, d6⟩
            have hy6 := unhide HY w6 (below_after hb5 d6)
            obtain ⟨fn, tmps, assign, body, hy, hR⟩ := unhide HYL w5 w6 A6 c6 ((below_drew V.heap.size V).trans hb5) d6 o6
            refine hK _ _ ?_
            clear hK K
            refine wpAnyIn_ready (rs := [6]) (by kernel_rfl) (by simp) ?_
            refine AllReadyIn.cons rfl (fun K hK => ?_) (AllReadyIn.nil)
            go_simp
            refine hK _ _ ?_
            clear hK K
            refine wpAnyIn_ready (rs := [9]) (by kernel_rfl) (by simp) ?_
            refine AllReadyIn.cons rfl (fun K hK => ?_) (AllReadyIn.nil)
            go_simp
            refine hR.mono ?_
            rintro e w7 ⟨b, rfl, ht, hf⟩
            refine hK _ _ ?_
            clear hK K
            refine wpAnyIn_take (i := 10) (v := .bool (!b)) rfl rfl (by kernel_rfl) (by kernel_rfl) (by kernel_rfl) (fun _ _ _ h => h) ⟨Or.inl ⟨by rfl, fun w => by go_simp⟩, fun _ => rfl⟩ ?_
            simp only [Act.put]
            refine wpAnyIn_take (i := 11) (v := .bool (!b)) rfl rfl (by kernel_rfl) (by kernel_rfl) (by kernel_rfl) (fun _ _ _ h => h) ⟨Or.inl ⟨by rfl, fun w => by go_simp⟩, fun _ => rfl⟩ ?_
            simp only [Act.put]
            refine wpAnyIn_done (by kernel_rfl) ?_ _
            cases b with
            | true =>
              have hend := ht rfl
              clear ht hf hR hy
              gi_wp2
              exact hend
            | false =>
              have hend := hf rfl
              clear ht hf hR hy
              gi_wp2
              exact ⟨hend.1, hend.2.1, rfl, hend.2.2⟩
        · skip
          go_simp
          refine hK _ _ ?_
          clear hK K
          refine wpAnyIn_ready (rs := [2]) (by kernel_rfl) (by simp) ?_
          refine AllReadyIn.cons rfl (fun K hK => ?_) (AllReadyIn.nil)
          go_simp
          refine ⟨trivial, ?_⟩
          refine (callsIn_wide.2 (unhide H1)).mono ?_
          rintro e w4 ⟨A4, c4, rfl, o4, d4⟩
          have hq4 := unhide HQ w4 d4
          have H3 := hide (unhide H2 A4 c4 w4 o4 d4)
          refine hK _ _ ?_
          clear hK K
          refine wpAnyIn_ready (rs := [4]) (by kernel_rfl) (by simp) ?_
          refine AllReadyIn.cons rfl (fun K hK => ?_) (AllReadyIn.nil)
          go_simp
          refine ⟨trivial, ?_⟩
          refine (callsIn_wide.2 (unhide H3)).mono ?_
          rintro e w5 ⟨rfl, d5⟩
          have hb5 := d4.trans (d5.below _)
          have hy5 := unhide HY w5 hb5
          have H4 := hide (unhide HCL w5 hb5)
          refine hK _ _ ?_
          clear hK K
          refine wpAnyIn_take (i := 5) (v := .bool true) rfl rfl (by kernel_rfl) (by kernel_rfl) (by kernel_rfl) (fun _ _ _ h => h) ⟨Or.inl ⟨by rfl, fun w => by go_simp⟩, fun _ => rfl⟩ ?_
          simp only [Act.put]
          refine wpAnyIn_take (i := 7) (v := .slice (some ⟨g, 0, none⟩) n' n') rfl rfl (by kernel_rfl) (by kernel_rfl) (by kernel_rfl) (fun _ _ _ h => h) ⟨Or.inl ⟨by rfl, fun w => by go_simp⟩, fun _ => rfl⟩ ?_
          simp only [Act.put]
          refine wpAnyIn_ready (rs := [6, 8]) (by kernel_rfl) (by simp) ?_
          refine AllReadyIn.cons rfl (fun K hK => ?_) (AllReadyIn.cons rfl (fun K hK => ?_) (AllReadyIn.nil))
          · skip
            go_simp
            refine hK _ _ ?_
            clear hK K
            refine wpAnyIn_ready (rs := [8]) (by kernel_rfl) (by simp) ?_
            refine AllReadyIn.cons rfl (fun K hK => ?_) (AllReadyIn.nil)
            go_simp
            refine ⟨trivial, ?_⟩
            refine (callsIn_wide.2 (unhide H4)).mono ?_
            rintro e w6 ⟨A6, c6, rfl, o6, d6⟩
            have hy6 := unhide HY w6 (below_after hb5 d6)
            obtain ⟨fn, tmps, assign, body, hy, hR⟩ := unhide HYL w5 w6 A6 c6 ((below_drew V.heap.size V).trans hb5) d6 o6
            refine hK _ _ ?_
            clear hK K
            refine wpAnyIn_ready (rs := [9]) (by kernel_rfl) (by simp) ?_
            refine AllReadyIn.cons rfl (fun K hK => ?_) (AllReadyIn.nil)
            go_simp
            refine hR.mono ?_
            rintro e w7 ⟨b, rfl, ht, hf⟩
            refine hK _ _ ?_
            clear hK K
            refine wpAnyIn_take (i := 10) (v := .bool (!b)) rfl rfl (by kernel_rfl) (by kernel_rfl) (by kernel_rfl) (fun _ _ _ h => h) ⟨Or.inl ⟨by rfl, fun w => by go_simp⟩, fun _ => rfl⟩ ?_
            simp only [Act.put]
            refine wpAnyIn_take (i := 11) (v := .bool (!b)) rfl rfl (by kernel_rfl) (by kernel_rfl) (by kernel_rfl) (fun _ _ _ h => h) ⟨Or.inl ⟨by rfl, fun w => by go_simp⟩, fun _ => rfl⟩ ?_
            simp only [Act.put]
            refine wpAnyIn_done (by kernel_rfl) ?_ _
            cases b with
            | true =>
              have hend := ht rfl
              clear ht hf hR hy
              gi_wp2
              exact hend
            | false =>
              have hend := hf rfl
              clear ht hf hR hy
              gi_wp2
              exact ⟨hend.1, hend.2.1, rfl, hend.2.2⟩
          · skip
            go_simp
            refine ⟨trivial, ?_⟩
            refine (callsIn_wide.2 (unhide H4)).mono ?_
            rintro e w6 ⟨A6, c6, rfl, o6, d6⟩
            have hy6 := unhide HY w6 (below_after hb5 d6)
            obtain ⟨fn, tmps, assign, body, hy, hR⟩ := unhide HYL w5 w6 A6 c6 ((below_drew V.heap.size V).trans hb5) d6 o6
            refine hK _ _ ?_
            clear hK K
            refine wpAnyIn_ready (rs := [6]) (by kernel_rfl) (by simp) ?_
            refine AllReadyIn.cons rfl (fun K hK => ?_) (AllReadyIn.nil)
            go_simp
            refine hK _ _ ?_
            clear hK K
            refine wpAnyIn_ready (rs := [9]) (by kernel_rfl) (by simp) ?_
            refine AllReadyIn.cons rfl (fun K hK => ?_) (AllReadyIn.nil)
            go_simp
            refine hR.mono ?_
            rintro e w7 ⟨b, rfl, ht, hf⟩
            refine hK _ _ ?_
            clear hK K
            refine wpAnyIn_take (i := 10) (v := .bool (!b)) rfl rfl (by kernel_rfl) (by kernel_rfl) (by kernel_rfl) (fun _ _ _ h => h) ⟨Or.inl ⟨by rfl, fun w => by go_simp⟩, fun _ => rfl⟩ ?_
            simp only [Act.put]
            refine wpAnyIn_take (i := 11) (v := .bool (!b)) rfl rfl (by kernel_rfl) (by kernel_rfl) (by kernel_rfl) (fun _ _ _ h => h) ⟨Or.inl ⟨by rfl, fun w => by go_simp⟩, fun _ => rfl⟩ ?_
            simp only [Act.put]
            refine wpAnyIn_done (by kernel_rfl) ?_ _
            cases b with
            | true =>
              have hend := ht rfl
              clear ht hf hR hy
              gi_wp2
              exact hend
            | false =>
              have hend := hf rfl
              clear ht hf hR hy
              gi_wp2
              exact ⟨hend.1, hend.2.1, rfl, hend.2.2⟩
      · skip
        go_simp
        refine hK _ _ ?_
        clear hK K
        refine wpAnyIn_ready (rs := [0]) (by kernel_rfl) (by simp) ?_
        refine AllReadyIn.cons rfl (fun K hK => ?_) (AllReadyIn.nil)
        go_simp
        refine hK _ _ ?_
        clear hK K
        refine wpAnyIn_ready (rs := [2]) (by kernel_rfl) (by simp) ?_
        refine AllReadyIn.cons rfl (fun K hK => ?_) (AllReadyIn.nil)
        go_simp
        refine ⟨trivial, ?_⟩
        refine (callsIn_wide.2 (unhide H1)).mono ?_
        rintro e w4 ⟨A4, c4, rfl, o4, d4⟩
        have hq4 := unhide HQ w4 d4
        have H3 := hide (unhide H2 A4 c4 w4 o4 d4)
        refine hK _ _ ?_
        clear hK K
        refine wpAnyIn_ready (rs := [4]) (by kernel_rfl) (by simp) ?_
        refine AllReadyIn.cons rfl (fun K hK => ?_) (AllReadyIn.nil)
        go_simp
        refine ⟨trivial, ?_⟩
        refine (callsIn_wide.2 (unhide H3)).mono ?_
        rintro e w5 ⟨rfl, d5⟩
        have hb5 := d4.trans (d5.below _)
        have hy5 := unhide HY w5 hb5
        have H4 := hide (unhide HCL w5 hb5)
        refine hK _ _ ?_
        clear hK K
        refine wpAnyIn_take (i := 5) (v := .bool true) rfl rfl (by kernel_rfl) (by kernel_rfl) (by kernel_rfl) (fun _ _ _ h => h) ⟨Or.inl ⟨by rfl, fun w => by go_simp⟩, fun _ => rfl⟩ ?_
        simp only [Act.put]
        refine wpAnyIn_take (i := 7) (v := .slice (some ⟨g, 0, none⟩) n' n') rfl rfl (by kernel_rfl) (by kernel_rfl) (by kernel_rfl) (fun _ _ _ h => h) ⟨Or.inl ⟨by rfl, fun w => by go_simp⟩, fun _ => rfl⟩ ?_
        simp only [Act.put]
        refine wpAnyIn_ready (rs := [6, 8]) (by kernel_rfl) (by simp) ?_
        refine AllReadyIn.cons rfl (fun K hK => ?_) (AllReadyIn.cons rfl (fun K hK => ?_) (AllReadyIn.nil))
        · skip
          go_simp
          refine hK _ _ ?_
          clear hK K
          refine wpAnyIn_ready (rs := [8]) (by kernel_rfl) (by simp) ?_
          refine AllReadyIn.cons rfl (fun K hK => ?_) (AllReadyIn.nil)
          go_simp
          refine ⟨trivial, ?_⟩
          refine (callsIn_wide.2 (unhide H4)).mono ?_
          rintro e w6 ⟨A6, c6, rfl, o6, d6⟩
          have hy6 := unhide HY w6 (below_after hb5 d6)
          obtain ⟨fn, tmps, assign, body, hy, hR⟩ := unhide HYL w5 w6 A6 c6 ((below_drew V.heap.size V).trans hb5) d6 o6
          refine hK _ _ ?_
          clear hK K
          refine wpAnyIn_ready (rs := [9]) (by kernel_rfl) (by simp) ?_
          refine AllReadyIn.cons rfl (fun K hK => ?_) (AllReadyIn.nil)
          go_simp
          refine hR.mono ?_
          rintro e w7 ⟨b, rfl, ht, hf⟩
          refine hK _ _ ?_
          clear hK K
          refine wpAnyIn_take (i := 10) (v := .bool (!b)) rfl rfl (by kernel_rfl) (by kernel_rfl) (by kernel_rfl) (fun _ _ _ h => h) ⟨Or.inl ⟨by rfl, fun w => by go_simp⟩, fun _ => rfl⟩ ?_
          simp only [Act.put]
          refine wpAnyIn_take (i := 11) (v := .bool (!b)) rfl rfl (by kernel_rfl) (by kernel_rfl) (by kernel_rfl) (fun _ _ _ h => h) ⟨Or.inl ⟨by rfl, fun w => by go_simp⟩, fun _ => rfl⟩ ?_
          simp only [Act.put]
          refine wpAnyIn_done (by kernel_rfl) ?_ _
          cases b with
          | true =>
            have hend := ht rfl
            clear ht hf hR hy
            gi_wp2
            exact hend
          | false =>
            have hend := hf rfl
            clear ht hf hR hy
            gi_wp2
            exact ⟨hend.1, hend.2.1, rfl, hend.2.2⟩
        · skip
          go_simp
          refine ⟨trivial, ?_⟩
          refine (callsIn_wide.2 (unhide H4)).mono ?_
          rintro e w6 ⟨A6, c6, rfl, o6, d6⟩
          have hy6 := unhide HY w6 (below_after hb5 d6)
          obtain ⟨fn, tmps, assign, body, hy, hR⟩ := unhide HYL w5 w6 A6 c6 ((below_drew V.heap.size V).trans hb5) d6 o6
          refine hK _ _ ?_
          clear hK K
          refine wpAnyIn_ready (rs := [6]) (by kernel_rfl) (by simp) ?_
          refine AllReadyIn.cons rfl (fun K hK => ?_) (AllReadyIn.nil)
          go_simp
          refine hK _ _ ?_
          clear hK K
          refine wpAnyIn_ready (rs := [9]) (by kernel_rfl) (by simp) ?_
          refine AllReadyIn.cons rfl (fun K hK => ?_) (AllReadyIn.nil)
          go_simp
          refine hR.mono ?_
          rintro e w7 ⟨b, rfl, ht, hf⟩
          refine hK _ _ ?_
          clear hK K
          refine wpAnyIn_take (i := 10) (v := .bool (!b)) rfl rfl (by kernel_rfl) (by kernel_rfl) (by kernel_rfl) (fun _ _ _ h => h) ⟨Or.inl ⟨by rfl, fun w => by go_simp⟩, fun _ => rfl⟩ ?_
          simp only [Act.put]
          refine wpAnyIn_take (i := 11) (v := .bool (!b)) rfl rfl (by kernel_rfl) (by kernel_rfl) (by kernel_rfl) (fun _ _ _ h => h) ⟨Or.inl ⟨by rfl, fun w => by go_simp⟩, fun _ => rfl⟩ ?_
          simp only [Act.put]
          refine wpAnyIn_done (by kernel_rfl) ?_ _
          cases b with
          | true =>
            have hend := ht rfl
            clear ht hf hR hy
            gi_wp2
            exact hend
          | false =>
            have hend := hf rfl
            clear ht hf hR hy
            gi_wp2
            exact ⟨hend.1, hend.2.1, rfl, hend.2.2⟩
--END-YES
    · have hdec : decide (patA p pl = q) = false := by simpa using hyes
      have H2 := hide (show ∀ (A4 : Option Addr) (c4 : Nat) (w4 : World), Ints w4 V.drew.heap.size (.slice A4 (patA p pl).length c4) (patA p pl) → Below V.drew.heap.size V.drew w4 → Calls Tryd.prog 25 #[.slice A4 (patA p pl).length c4, .slice A' n' c'] w4 fun e w' => e = .returned (.bool false) ∧ Drew w4 w' from fun A4 c4 w4 h1 h2 =>
        eqsl_any A4 A' _ c4 _ n' c' B' (patA p pl) q false hdec w4 (h1.arg (by unfold patA; rw [patL_length, nums_length]; omega) h1.cap (patA_small hp (e1.symm ▸ hok))) (hAtV.q.below h2))
      have HQ := hide (show ∀ w4, Below V.drew.heap.size V.drew w4 → w4.cell? ⟨bq, 0, none⟩ = some (.slice A' n' c') from fun w4 h => Boxed.cell (boxed_later hAtV.bq h))
      have HEND := hide (show ∀ w5, Below V.heap.size V w5 → (∀ r, Desk w2.heap.size r V → Desk w2.heap.size r w5) ∧ (V.heap.size ≤ w5.heap.size ∧ w5.heap[g]? = V.heap[g]?) ∧ ∃ xs, (J xs w5 ∧ xs.map (·.2) = (pre ++ [pl]).filter (fun pl => decide (patA p pl = q))) ∧ AtO A A' n c B n' c' B' p q bp bq (w.heap.size + 2) l w5 ∧ AllIn p q xs from fun w5 h =>
        ⟨fun r hd => hd.later h, ⟨h.size, h.block g hbuf.lt⟩, ⟨xs, ⟨(unhide HBD).2.1 _ _ _ hJV (But.of_below h), by rw [List.filter_append, hxs]; simp [hyes]⟩, hAtV0.below h, hall⟩⟩)
      have HG := hide (⟨hg, hs3⟩ : g = w2.heap.size + 2 ∧ w2.heap.size = w.heap.size + 5)
      clear hseq hAtU hAtV hAtV0 hApl hJU hJV hbuf hxs hall hyes hg hs3
      gi_wp2_with fail
      refine region_round l2 rfl (by kernel_rfl) hmx ?_
      change wpAnyIn _ _ _ _ _ _ _ _ _ (World.drew _)
--REGION-NO
      refine wpAnyIn_take (i := 1) (v := .slice (some ⟨g, 0, none⟩) n' n') rfl rfl (by kernel_rfl) (by kernel_rfl) (by kernel_rfl) (fun _ _ _ h => h) ⟨Or.inl ⟨by rfl, fun w => by go_simp⟩, fun _ => rfl⟩ ?_
      simp only [Act.put]
      refine wpAnyIn_ready (rs := [0, 3]) (by kernel_rfl) (by simp) ?_
      refine AllReadyIn.cons rfl (fun K hK => ?_) (AllReadyIn.cons rfl (fun K hK => ?_) (AllReadyIn.nil))
      · skip
        go_simp
        refine hK _ _ ?_
        clear hK K
        refine wpAnyIn_ready (rs := [2, 3]) (by kernel_rfl) (by simp) ?_
        refine AllReadyIn.cons rfl (fun K hK => ?_) (AllReadyIn.cons rfl (fun K hK => ?_) (AllReadyIn.nil))
        · skip
          go_simp
          refine ⟨trivial, ?_⟩
          refine (callsIn_wide.2 (unhide H1)).mono ?_
          rintro e w4 ⟨A4, c4, rfl, o4, d4⟩
          have hq4 := unhide HQ w4 d4
          have H3 := hide (unhide H2 A4 c4 w4 o4 d4)
          refine hK _ _ ?_
          clear hK K
          refine wpAnyIn_ready (rs := [3]) (by kernel_rfl) (by simp) ?_
          refine AllReadyIn.cons rfl (fun K hK => ?_) (AllReadyIn.nil)
          go_simp
          refine hK _ _ ?_
          clear hK K
          refine wpAnyIn_ready (rs := [4]) (by kernel_rfl) (by simp) ?_
          refine AllReadyIn.cons rfl (fun K hK => ?_) (AllReadyIn.nil)
          go_simp
          refine ⟨trivial, ?_⟩
          refine (callsIn_wide.2 (unhide H3)).mono ?_
          rintro e w5 ⟨rfl, d5⟩
          refine hK _ _ ?_
          clear hK K
          refine wpAnyIn_take (i := 5) (v := .bool false) rfl rfl (by kernel_rfl) (by kernel_rfl) (by kernel_rfl) (fun _ _ _ h => h) ⟨Or.inl ⟨by rfl, fun w => by go_simp⟩, fun _ => rfl⟩ ?_
          simp only [Act.put]
          refine wpAnyIn_take (i := 6) (v := undef) rfl rfl (by kernel_rfl) (by kernel_rfl) (by kernel_rfl) (fun _ _ _ h => h) ⟨Or.inr ⟨by rfl, rfl⟩, fun _ => rfl⟩ ?_
          simp only [Act.put]
          refine wpAnyIn_take (i := 7) (v := undef) rfl rfl (by kernel_rfl) (by kernel_rfl) (by kernel_rfl) (fun _ _ _ h => h) ⟨Or.inr ⟨by rfl, rfl⟩, fun _ => rfl⟩ ?_
          simp only [Act.put]
          refine wpAnyIn_ready (rs := [8]) (by kernel_rfl) (by simp) ?_
          refine AllReadyIn.cons rfl (fun K hK => ?_) (AllReadyIn.nil)
          go_simp
          refine ⟨trivial, hK _ _ ?_⟩
          clear hK K
          refine wpAnyIn_ready (rs := [9]) (by kernel_rfl) (by simp) ?_
          refine AllReadyIn.cons rfl (fun K hK => ?_) (AllReadyIn.nil)
          go_simp
          first | refine hK _ _ ?_ | refine ⟨fun _ h => (by cases h), hK _ _ ?_⟩
          clear hK K
          refine wpAnyIn_ready (rs := [10]) (by kernel_rfl) (by simp) ?_
          refine AllReadyIn.cons rfl (fun K hK => ?_) (AllReadyIn.nil)
          go_simp
          refine hK _ _ ?_
          clear hK K
          refine wpAnyIn_take (i := 11) (v := .bool false) rfl rfl (by kernel_rfl) (by kernel_rfl) (by kernel_rfl) (fun _ _ _ h => h) ⟨Or.inl ⟨by rfl, fun w => by go_simp⟩, fun _ => rfl⟩ ?_
          simp only [Act.put]
          refine wpAnyIn_done (by kernel_rfl) ?_ _
          have hend := unhide HEND w5 (((below_drew V.heap.size V).trans d4).trans (d5.below _))
          gi_wp2
          exact hend
        · skip
          go_simp
          refine hK _ _ ?_
          clear hK K
          refine wpAnyIn_ready (rs := [2]) (by kernel_rfl) (by simp) ?_
          refine AllReadyIn.cons rfl (fun K hK => ?_) (AllReadyIn.nil)
          go_simp
          refine ⟨trivial, ?_⟩
          refine (callsIn_wide.2 (unhide H1)).mono ?_
          rintro e w4 ⟨A4, c4, rfl, o4, d4⟩
          have hq4 := unhide HQ w4 d4
          have H3 := hide (unhide H2 A4 c4 w4 o4 d4)
          refine hK _ _ ?_
          clear hK K
          refine wpAnyIn_ready (rs := [4]) (by kernel_rfl) (by simp) ?_
          refine AllReadyIn.cons rfl (fun K hK => ?_) (AllReadyIn.nil)
          go_simp
          refine ⟨trivial, ?_⟩
          refine (callsIn_wide.2 (unhide H3)).mono ?_
          rintro e w5 ⟨rfl, d5⟩
          refine hK _ _ ?_
          clear hK K
          refine wpAnyIn_take (i := 5) (v := .bool false) rfl rfl (by kernel_rfl) (by kernel_rfl) (by kernel_rfl) (fun _ _ _ h => h) ⟨Or.inl ⟨by rfl, fun w => by go_simp⟩, fun _ => rfl⟩ ?_
          simp only [Act.put]
          refine wpAnyIn_take (i := 6) (v := undef) rfl rfl (by kernel_rfl) (by kernel_rfl) (by kernel_rfl) (fun _ _ _ h => h) ⟨Or.inr ⟨by rfl, rfl⟩, fun _ => rfl⟩ ?_
          simp only [Act.put]
          refine wpAnyIn_take (i := 7) (v := undef) rfl rfl (by kernel_rfl) (by kernel_rfl) (by kernel_rfl) (fun _ _ _ h => h) ⟨Or.inr ⟨by rfl, rfl⟩, fun _ => rfl⟩ ?_
          simp only [Act.put]
          refine wpAnyIn_ready (rs := [8]) (by kernel_rfl) (by simp) ?_
          refine AllReadyIn.cons rfl (fun K hK => ?_) (AllReadyIn.nil)
          go_simp
          refine ⟨trivial, hK _ _ ?_⟩
          clear hK K
          refine wpAnyIn_ready (rs := [9]) (by kernel_rfl) (by simp) ?_
          refine AllReadyIn.cons rfl (fun K hK => ?_) (AllReadyIn.nil)
          go_simp
          first | refine hK _ _ ?_ | refine ⟨fun _ h => (by cases h), hK _ _ ?_⟩
          clear hK K
          refine wpAnyIn_ready (rs := [10]) (by kernel_rfl) (by simp) ?_
          refine AllReadyIn.cons rfl (fun K hK => ?_) (AllReadyIn.nil)
          go_simp
          refine hK _ _ ?_
          clear hK K
          refine wpAnyIn_take (i := 11) (v := .bool false) rfl rfl (by kernel_rfl) (by kernel_rfl) (by kernel_rfl) (fun _ _ _ h => h) ⟨Or.inl ⟨by rfl, fun w => by go_simp⟩, fun _ => rfl⟩ ?_
          simp only [Act.put]
          refine wpAnyIn_done (by kernel_rfl) ?_ _
          have hend := unhide HEND w5 (((below_drew V.heap.size V).trans d4).trans (d5.below _))
          gi_wp2
          exact hend
      · skip
        go_simp
        refine hK _ _ ?_
        clear hK K
        refine wpAnyIn_ready (rs := [0]) (by kernel_rfl) (by simp) ?_
        refine AllReadyIn.cons rfl (fun K hK => ?_) (AllReadyIn.nil)
        go_simp
        refine hK _ _ ?_
        clear hK K
        refine wpAnyIn_ready (rs := [2]) (by kernel_rfl) (by simp) ?_
        refine AllReadyIn.cons rfl (fun K hK => ?_) (AllReadyIn.nil)
        go_simp
        refine ⟨trivial, ?_⟩
        refine (callsIn_wide.2 (unhide H1)).mono ?_
        rintro e w4 ⟨A4, c4, rfl, o4, d4⟩
        have hq4 := unhide HQ w4 d4
        have H3 := hide (unhide H2 A4 c4 w4 o4 d4)
        refine hK _ _ ?_
        clear hK K
        refine wpAnyIn_ready (rs := [4]) (by kernel_rfl) (by simp) ?_
        refine AllReadyIn.cons rfl (fun K hK => ?_) (AllReadyIn.nil)
        go_simp
        refine ⟨trivial, ?_⟩
        refine (callsIn_wide.2 (unhide H3)).mono ?_
        rintro e w5 ⟨rfl, d5⟩
        refine hK _ _ ?_
        clear hK K
        refine wpAnyIn_take (i := 5) (v := .bool false) rfl rfl (by kernel_rfl) (by kernel_rfl) (by kernel_rfl) (fun _ _ _ h => h) ⟨Or.inl ⟨by rfl, fun w => by go_simp⟩, fun _ => rfl⟩ ?_
        simp only [Act.put]
        refine wpAnyIn_take (i := 6) (v := undef) rfl rfl (by kernel_rfl) (by kernel_rfl) (by kernel_rfl) (fun _ _ _ h => h) ⟨Or.inr ⟨by rfl, rfl⟩, fun _ => rfl⟩ ?_
        simp only [Act.put]
        refine wpAnyIn_take (i := 7) (v := undef) rfl rfl (by kernel_rfl) (by kernel_rfl) (by kernel_rfl) (fun _ _ _ h => h) ⟨Or.inr ⟨by rfl, rfl⟩, fun _ => rfl⟩ ?_
        simp only [Act.put]
        refine wpAnyIn_ready (rs := [8]) (by kernel_rfl) (by simp) ?_
        refine AllReadyIn.cons rfl (fun K hK => ?_) (AllReadyIn.nil)
        go_simp
        refine ⟨trivial, hK _ _ ?_⟩
        clear hK K
        refine wpAnyIn_ready (rs := [9]) (by kernel_rfl) (by simp) ?_
        refine AllReadyIn.cons rfl (fun K hK => ?_) (AllReadyIn.nil)
        go_simp
        first | refine hK _ _ ?_ | refine ⟨fun _ h => (by cases h), hK _ _ ?_⟩
        clear hK K
        refine wpAnyIn_ready (rs := [10]) (by kernel_rfl) (by simp) ?_
        refine AllReadyIn.cons rfl (fun K hK => ?_) (AllReadyIn.nil)
        go_simp
        refine hK _ _ ?_
        clear hK K
        refine wpAnyIn_take (i := 11) (v := .bool false) rfl rfl (by kernel_rfl) (by kernel_rfl) (by kernel_rfl) (fun _ _ _ h => h) ⟨Or.inl ⟨by rfl, fun w => by go_simp⟩, fun _ => rfl⟩ ?_
        simp only [Act.put]
        refine wpAnyIn_done (by kernel_rfl) ?_ _
        have hend := unhide HEND w5 (((below_drew V.heap.size V).trans d4).trans (d5.below _))
        gi_wp2
        exact hend
--END-NO
  case done =>
    rintro pls V rfl ⟨xs, ⟨hJV, hxs⟩, hAtV, hall⟩ hK
    rw [← e1, ← e2, unhide HFI] at hxs
    have hJD := (unhide HBD).2.1 _ _ _ hJV (But.putObj V (k := w2.heap.size) (by omega) (by omega) (.deferred none))
    gi_wp2
    refine ⟨by simp, .inl ⟨_, _, rfl, run_takeDeferred hK, ?_⟩⟩
    refine ⟨_, results_none rfl _ _ _, ?_⟩
    exact ⟨⟨_, rfl⟩, .inl ⟨xs, hxs, hJD⟩⟩
  case stop =>
    rintro c pre V _ ⟨rfl, xs, hJV, hall⟩ hK
    have hJD := (unhide HBD).2.2 _ _ _ hJV (But.putObj V (k := w2.heap.size) (by omega) (by omega) (.deferred none))
    gi_wp2
    refine ⟨by simp, .inl ⟨_, _, rfl, run_takeDeferred hK, ?_⟩⟩
    refine ⟨_, results_none rfl _ _ _, ?_⟩
    exact ⟨⟨_, rfl⟩, .inr ⟨xs, hall, hJD⟩⟩
end Go.Proofs.YtplchjeamooliaaDoor


/-
  'list = append(list, row)' inside a fence (a round of a range over a function): row was made since world w0.
-/

namespace Go.Proofs.YtplchjeamooliaaDoor
set_option maxRecDepth 100000
open Go.RowKit

theorem wpListIn_push_row {F : Fence} {nF : Nat} {ops : Array Oper} {rest : List Oper} {o : Oper} {a : Act} {W : World} {Q : Exit → Act → World → Prop} (hgd : o.guard = none) (sl x : Operand)
    (ho : o.op = .call { callee := .builtin .append, args := #[sl, x], argTypes := #[22, 22] })
    (base : Nat) (w0 wr : World) (v u : Value) (zss : List (List Int)) (zs : List Int) (hs : a.eval sl = v) (hx : a.eval x = .slice (some ⟨wr.heap.size, 0, none⟩) 1 1) (hW : W = wr.alloc (.cells #[u] 30))
    (hS : IntsS w0 base v zss) (hb0 : Below w0.heap.size w0 wr) (hu : Ints wr w0.heap.size u zs) (hn : zss.length ≤ 1048576) (hbase : base ≤ w0.heap.size)
    (K : ∀ v' w', IntsS w' base v' (zss ++ [zs]) → Below base wr w' → KeepI wr w' → (v'.ownBlock = v.ownBlock ∨ v'.ownBlock = some W.heap.size) → W.grownBy w' v.ownBlock → wpListIn F nF Tryd.prog ops Q rest (a.put o.dst v') w') : wpListIn F nF Tryd.prog ops Q (o :: rest) a W := by
  obtain ⟨i0, hi, hz0, hz1, hz2⟩ := info_parts rowsInfo
  obtain ⟨vs, hown, hin⟩ := hS
  have hown1 := own_below hown hb0
  have hal := (Below.refl wr.heap.size wr).alloc (Nat.le_refl _) (.cells #[u] 30)
  have hown2 := own_below hown1 hal
  obtain ⟨A1, c1, rfl⟩ := hu.slice
  subst hW
  refine wpListIn_append_own_at _ hgd sl x 22 ho base 30 i0 (.slice none 0 0) 1 24 Tryd.underlying22 hi hz0 hz1 hz2 rfl (by decide) v _ _ hs hown2 ⟨wr.heap.size, 0, none⟩ 1 1 [.slice A1 zs.length c1] hx rfl ?_ ?_ (by unfold maxLen; omega) (by omega) (by simp; have := hb0.size; omega) ?_
  · intro j u hj
    match j, hj with
    | 0, hj => simp at hj; subst hj; simp [Addr.add]
  · intro y hy
    obtain rfl := List.mem_singleton.1 hy
    rfl
  · intro v' w' h1 h2 _ h4
    have hk := (KeepI.of_below hal).trans (KeepI.of_grown hown2 h2)
    refine K v' w' ⟨vs ++ [.slice A1 zs.length c1], by rw [List.length_append]; exact h1, ?_⟩ ?_ hk h4 h2
    · exact ((hin.keepI (KeepI.of_below hb0)).keepI hk).push ((hu.low hbase).keepI hk) (hin.away_new hu.since (Nat.le_refl _))
    · exact ((Below.refl base wr).alloc (Nat.le_trans hbase hb0.size) _).grown h2 (by simp; have := hb0.size; omega) (fun k hk => (hown.lt k hk).1)
end Go.Proofs.YtplchjeamooliaaDoor
