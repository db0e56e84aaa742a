/-
  Words and contracts that the laws lean on, bundled: Zone, Round, ChM, PatA, More, Choices, OccT, CntI, Ident.
-/
import Derived.Test.YtichenjbkclljaaDoorB8
import Derived.Shelf.Abstract
import Derived.Shelf.RegionOpen
import Derived.WalkKit
import Derived.OwnWalkIn
import Derived.TacticsInMore
import Derived.LoopNIn
import Derived.LoopIn
import Derived.Test.YtichenjbkclljaaDoorB4
import Derived.Test.YtichenjbkclljaaDoorB6
import Derived.Test.YtichenjbkclljaaDoorB5
import Derived.Test.YtichenjbkclljaaDoorB1
import Derived.Maps.AppendAt
import Derived.Test.YtichenjbkclljaaDoorB3
import Derived.Test.YtichenjbkclljaaDoorProg
import Derived.Test.YtichenjbkclljaaDoorB2

/-
  A RANGE OVER A FUNCTION WHOSE ITERATOR HAS BLOCKS OF ITS OWN (a list that is lent, an inner loop's desk): they lie in a zone right behind the loop's desk, and what the loop's body holds lies outside of it.
-/

namespace Go.Proofs.YtichenjbkclljaaDoor
set_option maxRecDepth 100000
open Go.RowKit

/-- What lies outside of [lo, hi) lies as it lay. -/
structure But (lo hi : Nat) (U V : World) : Prop where
  os : V.os = U.os
  tape : V.tape = U.tape
  output : V.output = U.output
  size : U.heap.size ≤ V.heap.size
  block : ∀ k, k < U.heap.size → k < lo ∨ hi ≤ k → V.heap[k]? = U.heap[k]?
theorem But.refl (lo hi : Nat) (U : World) : But lo hi U U := ⟨rfl, rfl, rfl, Nat.le_refl _, fun _ _ _ => rfl⟩
theorem But.trans {lo hi : Nat} {U V W : World} (h : But lo hi U V) (k : But lo hi V W) : But lo hi U W :=
  ⟨k.os.trans h.os, k.tape.trans h.tape, k.output.trans h.output, Nat.le_trans h.size k.size, fun i hi hz => (k.block i (Nat.lt_of_lt_of_le hi h.size) hz).trans (h.block i hi hz)⟩
theorem But.mono {lo hi lo' hi' : Nat} {U V : World} (h : But lo hi U V) (hl : lo' ≤ lo) (hh : hi ≤ hi') : But lo' hi' U V := ⟨h.os, h.tape, h.output, h.size, fun k hk hz => h.block k hk (by omega)⟩
theorem But.of_below {lo hi : Nat} {U V : World} (h : Below U.heap.size U V) : But lo hi U V := ⟨h.os, h.tape, h.output, h.size, fun k hk _ => h.block k hk⟩
/-- Changes at or behind lo alone, and no block lay behind hi. -/
theorem But.of_below_lo {lo hi : Nat} {U V : World} (h : Below lo U V) (hs : U.heap.size ≤ hi) : But lo hi U V := ⟨h.os, h.tape, h.output, h.size, fun k hk hz => h.block k (by omega)⟩
theorem But.below {lo hi n : Nat} {U V : World} (h : But lo hi U V) (hn : n ≤ lo) (hs : n ≤ U.heap.size) : Below n U V := ⟨h.os, h.tape, h.output, h.size, fun k hk => h.block k (by omega) (by omega)⟩
theorem But.alloc {lo hi : Nat} (U : World) (o : Obj) : But lo hi U (U.alloc o) := .of_below ((Below.refl _ U).alloc (Nat.le_refl _) o)
theorem But.grown {lo hi : Nat} {U V : World} {row : Option Nat} (hg : U.grownBy V row) (hr : ∀ k, row = some k → lo ≤ k ∧ k < hi) : But lo hi U V :=
  ⟨hg.os, hg.tape, hg.output, hg.size, fun k hk hz => hg.block k hk fun e => by have := hr k e.symm; omega⟩
theorem But.putObj {lo hi : Nat} (U : World) {k : Nat} (h1 : lo ≤ k) (h2 : k < hi) (o : Obj) : But lo hi U (U.putObj k o) := .grown (grownBy_putObj' U k o) fun j e => by cases e; exact ⟨h1, h2⟩
theorem But.setCell {lo hi : Nat} (U : World) {b : Nat} (h1 : lo ≤ b) (h2 : b < hi) (v : Value) : But lo hi U (U.setCell ⟨b, 0, none⟩ v) := .grown (grownBy_setCell' U b v) fun j e => by cases e; exact ⟨h1, h2⟩
theorem Desk.but {D lo hi : Nat} {r : Loop} {U V : World} (h : Desk D r U) (hb : But lo hi U V) (hz : D + 2 ≤ lo ∨ hi ≤ D) : Desk D r V :=
  ⟨(hb.block _ h.lt (by omega)).trans h.rec_, (hb.block _ (by have := h.lt; omega) (by omega)).trans h.marks⟩
theorem Boxed.but {W W' : World} {lo hi b : Nat} {t : TypeId} {v : Value} (h : Boxed W b t v) (hb : But lo hi W W') (hz : b < lo ∨ hi ≤ b) : Boxed W' b t v := (hb.block b h.lt hz).trans h
theorem Ints.but {W W' : World} {lo hi B : Nat} {v : Value} {zs : List Int} (h : Ints W B v zs) (hb : But lo hi W W') (hB : hi ≤ B) : Ints W' B v zs := by
  refine ⟨h.1, ?_⟩
  rcases h.2 with h0 | ⟨g, cap, cur, e, hv, hg, hc, rest⟩
  · exact .inl h0
  · exact .inr ⟨g, cap, cur, e, hv, hg, (hb.block g (Array.getElem?_eq_some_iff.1 hc).1 (by omega)).trans hc, rest⟩
theorem IntsS.but {W W' : World} {lo hi B : Nat} {v : Value} {zss : List (List Int)} (h : IntsS W B v zss) (hb : But lo hi W W') (hB : hi ≤ B) : IntsS W' B v zss := by
  obtain ⟨vs, h1, h2⟩ := h
  refine ⟨vs, ⟨h1.1, ?_⟩, ⟨h2.len, fun i u zs hu hz => (h2.row i u zs hu hz).but hb hB, h2.away⟩⟩
  rcases h1.2 with hn | ⟨g, cap, cur, hv, hg, hc, rest⟩
  · exact .inl hn
  · exact .inr ⟨g, cap, cur, hv, hg, (hb.block g (Array.getElem?_eq_some_iff.1 hc).1 (by omega)).trans hc, rest⟩

/-- The blocks of which P speaks lie as they lay. -/
structure Keep (P : Nat → Prop) (U V : World) : Prop where
  size : U.heap.size ≤ V.heap.size
  block : ∀ k, k < U.heap.size → P k → V.heap[k]? = U.heap[k]?
theorem Keep.refl (P : Nat → Prop) (U : World) : Keep P U U := ⟨Nat.le_refl _, fun _ _ _ => rfl⟩
theorem Keep.trans {P : Nat → Prop} {U V W : World} (h : Keep P U V) (k : Keep P V W) : Keep P U W := ⟨Nat.le_trans h.size k.size, fun i hi hp => (k.block i (Nat.lt_of_lt_of_le hi h.size) hp).trans (h.block i hi hp)⟩
theorem Keep.mono {P Q : Nat → Prop} {U V : World} (h : Keep P U V) (hq : ∀ k, Q k → P k) : Keep Q U V := ⟨h.size, fun k hk hp => h.block k hk (hq k hp)⟩
theorem Keep.of_below {P : Nat → Prop} {U V : World} (h : Below U.heap.size U V) : Keep P U V := ⟨h.size, fun k hk _ => h.block k hk⟩
theorem Keep.of_but {P : Nat → Prop} {lo hi : Nat} {U V : World} (h : But lo hi U V) (hp : ∀ k, P k → k < lo ∨ hi ≤ k) : Keep P U V := ⟨h.size, fun k hk h1 => h.block k hk (hp k h1)⟩
theorem Keep.putObj {P : Nat → Prop} (U : World) {b : Nat} (h : ¬ P b) (o : Obj) : Keep P U (U.putObj b o) := .of_but (.putObj U (Nat.le_refl b) (Nat.lt_succ_self b) o) fun k hk => by
  by_cases e : k = b
  · subst e; exact absurd hk h
  · omega
theorem Keep.setCell {P : Nat → Prop} (U : World) {b : Nat} (h : ¬ P b) (v : Value) : Keep P U (U.setCell ⟨b, 0, none⟩ v) := .of_but (.setCell U (Nat.le_refl b) (Nat.lt_succ_self b) v) fun k hk => by
  by_cases e : k = b
  · subst e; exact absurd hk h
  · omega
theorem Keep.desk {P : Nat → Prop} {D : Nat} {r : Loop} {U V : World} (h : Keep P U V) (hd : Desk D r U) (h1 : P D) (h2 : P (D + 1)) : Desk D r V :=
  ⟨(h.block _ hd.lt h2).trans hd.rec_, (h.block _ (by have := hd.lt; omega) h1).trans hd.marks⟩
theorem Keep.boxed {P : Nat → Prop} {b : Nat} {t : TypeId} {v : Value} {U V : World} (h : Keep P U V) (hd : Boxed U b t v) (h1 : P b) : Boxed V b t v := (h.block b hd.lt h1).trans hd

variable {F : Fence} {n : Nat} {P : Program}
/-- The iterator, whose own blocks are the z ones behind the loop's desk, hands x over in a world V that it has come to from U by new blocks alone; 'Kn U x V' holds; of a round that goes on it asks Kp. -/
def TellsZ {α : Type} (F : Fence) (n : Nat) (P : Program) (gf : Nat) (lb : Array Value) (z : Nat) (en : α → Array Value) (Kn : World → α → World → Prop) (Kp : World → World → Prop) (S Sp : List α → Prop) (N : Nat) (w : World) : Prop :=
  ∀ (l : Nat) (J Jx : List α → World → Prop) (W : World), Below w.heap.size w W → W.heap.size = w.heap.size + 2 →
    (∀ pre U V, J pre U → But (w.heap.size + 2) (w.heap.size + 2 + z) U V → J pre V) → (∀ pre U V, Jx pre U → But (w.heap.size + 2) (w.heap.size + 2 + z) U V → Jx pre V) →
    (∀ pre x U V, J pre U → w.heap.size + 2 + z ≤ U.heap.size → Below U.heap.size U V → Kn U x V → pre.length < N → YieldAt F (n - 1) P l (en x) V fun e V' => (e = .returned (.bool true) ∧ J (pre ++ [x]) V' ∧ Kp V V') ∨ (e = .returned (.bool false) ∧ Jx (pre ++ [x]) V' ∧ Kp V V')) →
    J [] W → CallsIn F n P gf (#[.func (.yield l) #[] #[]] ++ lb) W fun e V => (∃ v, e = .returned v) ∧ ((∃ xs, S xs ∧ J xs V) ∨ ∃ pre, Sp pre ∧ Jx pre V)

/-- The body's word at its ways out. -/
def postZ {α : Type} (D : Nat) (Kp : World → World → Prop) (I : List α → World → Prop) (Ix : Code → List α → World → Prop) (xs : List α) (W : World) : Exit → Act → World → Prop
  | .normal, _, W' => (∀ r, Desk D r W → Desk D r W') ∧ Kp W W' ∧ I xs W'
  | .ret, _, W' => (∀ r, Desk D r W → Desk D r W') ∧ Kp W W' ∧ Ix .ret xs W'
  | .exit id, _, W' => (∀ r, Desk D r W → Desk D r W') ∧ Kp W W' ∧ Ix (.exit id) xs W'
  | .goto t, _, W' => (∀ r, Desk D r W → Desk D r W') ∧ Kp W W' ∧ Ix (.goto t) xs W'
  | .panic _, _, _ => False
  | .outgrown, _, _ => False

set_option maxHeartbeats 1600000 in
theorem range_zone {α : Type} {g : Operand} {ps : Array Tmp} {assign body : Code} {Q : Exit → Act → World → Prop} {a : Act} {w : World}
    (hro : F.round = none) (h1 : 1 ≤ n) {gf : Nat} {lb : Array Value} (hg : a.eval g = .func (.func gf) #[] lb) (hFg : F.fn gf) (eg : ∀ args w, (callFunc gf args).run P w = .ok (.enter gf args) w)
    {z : Nat} {en : α → Array Value} {Kn : World → α → World → Prop} {Kp : World → World → Prop} {S Sp : List α → Prop} {N : Nat} (hseq : TellsZ F (n - 1) P gf lb z en Kn Kp S Sp N w)
    (hKt : ∀ {A B C : World}, Kp A B → Kp B C → Kp A C) (hKb : ∀ (W : World) (r r' : Loop), Desk w.heap.size r W → Kp W (W.putObj (w.heap.size + 1) (.loop r')))
    (hps : ∀ x, (en x).size = ps.size) (hKn : ∀ (U V : World) (x : α) (r r' : Loop), Desk w.heap.size r U → Desk w.heap.size r V → Kn U x V → Kn (U.putObj (w.heap.size + 1) (.loop r')) x (V.putObj (w.heap.size + 1) (.loop r')))
    (I : List α → World → Prop) (Ix : Code → List α → World → Prop) (hI : ∀ pre U V, I pre U → But w.heap.size (w.heap.size + 2 + z) U V → I pre V) (hIx : ∀ c pre U V, Ix c pre U → But w.heap.size (w.heap.size + 2 + z) U V → Ix c pre V) (h0 : I [] w) (a₁ : α → Act)
    (hassign : ∀ (l : Nat) (x : α) (W : World) (K : Act → World → Prop), K (a₁ x) W →
      assign.wpIn (F.inRound l) (n - 1 - 1) P (Exit.then K (fun _ _ _ => False)) { tmps := (ps.zip (en x)).foldl (fun t (p, v) => t.setIfInBounds p v) a.tmps, defers := [] } W)
    (hbody : ∀ (l : Nat) (pre : List α) (x : α) (U W : World), I pre U → w.heap.size + 2 + z ≤ U.heap.size → Below U.heap.size U W → Kn U x W → pre.length < N → body.wpIn (F.inRound l) (n - 1 - 1) P (postZ w.heap.size Kp I Ix (pre ++ [x]) W) (a₁ x) W)
    (hdone : ∀ (xs : List α) (W : World), S xs → I xs W → W.heap[w.heap.size]? = some (.deferred (some [])) → Q .normal { a with defers := { target := .collected w.heap.size, args := #[] } :: a.defers } W)
    (hstop : ∀ (c : Code) (pre : List α) (W : World), Sp pre → Ix c pre W → W.heap[w.heap.size]? = some (.deferred (some [])) → c.wpIn F n P Q { a with defers := { target := .collected w.heap.size, args := #[] } :: a.defers } W) :
    (Code.rangeFunc g ps assign body).wpIn F n P Q a w := by
  refine wpIn_rangeFunc fun fn hfn => ?_
  rw [hro]
  obtain ⟨R, hR⟩ : ∃ R : LoopState → Option Code → Loop, R = fun st pe => { state := st, pending := pe, fn, tmps := a.tmps, params := ps, assign, body, defers := w.heap.size } := ⟨_, rfl⟩
  have hd0 := Desk.new w (R .ready none)
  have hI0 : I [] ((w.alloc (.deferred (some []))).alloc (.loop (R .ready none))) := hI _ _ _ h0 ((But.alloc _ _).trans (But.alloc _ _))
  have hbel : Below w.heap.size w ((w.alloc (.deferred (some []))).alloc (.loop (R .ready none))) := (((Below.refl _ w).alloc (Nat.le_refl _) _).alloc (by simp) _)
  have hrun0 : (Instr.enterLoop fn a.tmps ps assign body none).run P w = .ok (w.heap.size + 1, [{ target := .collected w.heap.size, args := #[] }]) ((w.alloc (.deferred (some []))).alloc (.loop (R .ready none))) := by rw [hR]; exact run_enterLoop_outer _ _ _ _ _
  have hsz1 : ((w.alloc (.deferred (some []))).alloc (.loop (R .ready none))).heap.size = w.heap.size + 2 := by simp
  obtain ⟨W1, hW1⟩ : ∃ W1, W1 = (w.alloc (.deferred (some []))).alloc (.loop (R .ready none)) := ⟨_, rfl⟩
  rw [← hW1] at hd0 hI0 hbel hrun0 hsz1
  clear hW1
  have hturn : ∀ (W : World) (r' : Loop), But w.heap.size (w.heap.size + 2 + z) W (W.putObj (w.heap.size + 1) (.loop r')) := fun W r' => But.putObj W (by omega) (by omega) _
  refine ⟨w.heap.size + 1, [{ target := .collected w.heap.size, args := #[] }], W1, { target := .fn (.func gf) lb, args := #[.func (.yield (w.heap.size + 1)) #[] #[]] }, W1, gf,
    #[.func (.yield (w.heap.size + 1)) #[] #[]] ++ lb, W1, hrun0, ?_, ?_, ?_, fun _ => h1, ?_⟩
  · simp only [resolve, hg]
    simp [go_sem]
  · intro f' hf'
    simp [Target.leads] at hf'
    subst hf'
    exact hFg
  · simp [invoke, go_sem, eg]
  · refine (hseq (w.heap.size + 1) (fun pre W => I pre W ∧ Desk w.heap.size (R .ready none) W) (fun pre W => ∃ c, Ix c pre W ∧ Desk w.heap.size (R .done (some c)) W) W1 hbel hsz1
      (fun pre U V hs hb => ⟨hI _ _ _ hs.1 (hb.mono (by omega) (Nat.le_refl _)), hs.2.but hb (.inl (Nat.le_refl _))⟩)
      (fun pre U V hs hb => by obtain ⟨c, hc, hd⟩ := hs; exact ⟨c, hIx _ _ _ _ hc (hb.mono (by omega) (Nat.le_refl _)), hd.but hb (.inl (Nat.le_refl _))⟩)
      ?_ ⟨hI0, hd0⟩).mono ?_
    · rintro pre x U V ⟨hi, hdU⟩ hzU hbU hkn hlen
      have hd := hdU.later hbU
      have hy := run_yield (P := P) (args := en x) hd.rec_ (by rw [hR]; exact hps x)
      rw [hR] at hy
      refine ⟨fn, _, assign, body, hy, roundIn_of_wpIn hfn (hassign _ x V _ ⟨_, run_beginRound hd.rec_ (by rw [hR]), ?_⟩)⟩
      obtain ⟨r1, hr1⟩ : ∃ r1 : Loop, r1 = { R .ready none with state := .busy } := ⟨_, rfl⟩
      rw [← hr1]
      have hd1 := hd.turn r1
      have hk1 := hKb V _ r1 hd
      have hlt := (hdU.turn r1).lt
      have hszp : (U.putObj (w.heap.size + 1) (.loop r1)).heap.size = U.heap.size := by unfold World.putObj; simp
      refine wpIn_mono (hbody _ pre x _ _ (hI _ _ _ hi (hturn _ _)) (by omega) (below_both hbU hdU.lt _) (hKn _ _ _ _ r1 hdU hd hkn) hlen) ?_
      have fin : ∀ (c : Option Code) (V' : World), (∀ r, Desk w.heap.size r (V.putObj (w.heap.size + 1) (.loop r1)) → Desk w.heap.size r V') → Desk w.heap.size r1 V' ∧
          (Instr.endRound (w.heap.size + 1) c).run P V' = .ok (.bool c.isNone) (V'.putObj (w.heap.size + 1) (.loop (R (if c.isNone then .ready else .done) c))) := fun c V' hk => by
        have hd2 := hk _ hd1
        refine ⟨hd2, ?_⟩
        have := run_endRound (P := P) c hd2.rec_
        rw [hr1] at this
        rw [this, hR]
      rintro e a3 V3 hp
      cases e with
      | normal =>
        obtain ⟨hd3, hrun⟩ := fin none V3 hp.1
        exact ⟨_, _, hrun, .inl ⟨rfl, ⟨hI _ _ _ hp.2.2 (hturn _ _), hd3.turn _⟩, hKt (hKt hk1 hp.2.1) (hKb _ _ _ hd3)⟩⟩
      | ret =>
        obtain ⟨hd3, hrun⟩ := fin (some .ret) V3 hp.1
        exact ⟨_, _, hrun, .inr ⟨rfl, ⟨.ret, hIx _ _ _ _ hp.2.2 (hturn _ _), hd3.turn _⟩, hKt (hKt hk1 hp.2.1) (hKb _ _ _ hd3)⟩⟩
      | exit id =>
        obtain ⟨hd3, hrun⟩ := fin (some (.exit id)) V3 hp.1
        exact ⟨_, _, hrun, .inr ⟨rfl, ⟨.exit id, hIx _ _ _ _ hp.2.2 (hturn _ _), hd3.turn _⟩, hKt (hKt hk1 hp.2.1) (hKb _ _ _ hd3)⟩⟩
      | goto t =>
        obtain ⟨hd3, hrun⟩ := fin (some (.goto t)) V3 hp.1
        exact ⟨_, _, hrun, .inr ⟨rfl, ⟨.goto t, hIx _ _ _ _ hp.2.2 (hturn _ _), hd3.turn _⟩, hKt (hKt hk1 hp.2.1) (hKb _ _ _ hd3)⟩⟩
      | panic _ => exact hp.elim
      | outgrown => exact hp.elim
    · rintro e V ⟨⟨v, rfl⟩, hend⟩
      rcases hend with ⟨xs, hS, hi, hd⟩ | ⟨pre, hSp, c, hi, hd⟩
      · have hrun := run_endLoop (P := P) hd.rec_ (by rw [hR]; simp)
        rw [hR] at hrun
        exact ⟨none, _, hrun, hdone xs _ hS (hI _ _ _ hi (hturn _ _)) (hd.turn _).marks⟩
      · have hrun := run_endLoop (P := P) hd.rec_ (by rw [hR]; simp)
        rw [hR] at hrun
        exact ⟨some c, _, hrun, hstop c pre _ hSp (hIx _ _ _ _ hi (hturn _ _)) (hd.turn _).marks⟩
end Go.Proofs.YtichenjbkclljaaDoor


/-
  A region that draws its order, in a round of a range over a function; a call of yield at any depth of the wide fence.
-/

namespace Go.Proofs.YtichenjbkclljaaDoor
set_option maxRecDepth 100000
open Go.RowKit Go.Shelf

/-- No operation defers. -/
def plainOps (ops : Array Oper) : Bool := ops.toList.all fun o => match o.op with | .defer _ => false | _ => true
theorem plainOps_at {ops : Array Oper} (h : plainOps ops = true) {i : Nat} {o : Oper} (ho : ops[i]? = some o) : ∀ c, o.op ≠ .defer c := by
  unfold plainOps at h
  rw [List.all_eq_true] at h
  intro c e
  have h1 := h o (List.mem_of_getElem? (by rw [Array.getElem?_toList]; exact ho))
  rw [e] at h1
  cases h1
theorem operIn_round {F : Fence} {n : Nat} {P : Program} {o : Oper} (l : Nat) (hr : F.round = none) (hd : ∀ c, o.op ≠ .defer c) {a : Act} {w : World} {K : Act → World → Prop} {Q : Exit → Act → World → Prop} (h : o.wpIn F n P a w K Q) : o.wpIn (F.inRound l) n P a w K Q := by
  unfold Oper.wpIn at *
  refine ⟨h.1, ?_⟩
  have h2 := h.2
  rw [hr, Oper.semAt_none] at h2
  rw [Fence.inRound_round, Oper.semAt_eq _ _ _ hd]
  exact h2
theorem opsIn_round {F : Fence} {n : Nat} {P : Program} {ops : Array Oper} {Q : Exit → Act → World → Prop} (l : Nat) (hr : F.round = none) (hd : plainOps ops = true) : ∀ (is : List Nat) (a : Act) (w : World), wpOpsIn F n P ops Q is a w → wpOpsIn (F.inRound l) n P ops Q is a w
  | [], _, _, h => h
  | i :: rest, a, w, h => by
    unfold wpOpsIn at h ⊢
    cases ho : ops[i]? with
    | none => rw [ho] at h; exact opsIn_round l hr hd rest a w h
    | some o =>
      rw [ho] at h
      dsimp only at h ⊢
      split
      · rename_i hw
        rw [if_pos hw] at h
        exact operIn_round l hr (plainOps_at hd ho) (Oper.wpIn_mono (fun a w k => opsIn_round l hr hd rest a w k) h)
      · rename_i hw
        rw [if_neg hw] at h
        exact ⟨h.1, opsIn_round l hr hd rest _ w h.2⟩
/-- A region without a defer statement is walked in a round as outside of one. -/
theorem region_round {F : Fence} {n : Nat} {P : Program} {id : Nat} {ops : Array Oper} {Q : Exit → Act → World → Prop} {a : Act} {w : World} (l : Nat) (hr : F.round = none) (hd : plainOps ops = true) (hm : P.follows .mixedOrders = true)
    (h : wpAnyIn F n P .any ops Q ops.size (Array.replicate ops.size false) a { w with drawn := w.drawn + 1 }) : (Code.region id ops true).wpIn (F.inRound l) n P Q a w :=
  wpIn_region_draw fun t => by
    simp only [Region.schedule, hm, Bool.true_or, if_true]
    exact opsIn_round l hr hd _ a _ (wpAnyIn_sound ops.size t _ a _ h)

theorem round_any {F : Fence} (hd : F.depth = none) {m m' : Nat} {P : Program} {l : Nat} {args : Array Value} {W : World} {R : Ending → World → Prop} (h : YieldAt F m P l args W R) : YieldAt F m' P l args W R := by
  obtain ⟨fn, tmps, assign, body, hy, hR⟩ := h
  exact ⟨fn, tmps, assign, body, hy, hR.1, fun c cs _ => hR.2 c cs (by unfold Fence.room; rw [hd]; intro d h; cases h)⟩
end Go.Proofs.YtichenjbkclljaaDoor


/-
  PLAIN: the choices of places in order; occurrences are those whose pattern is right, patterns are the patterns of the choices. Nothing here speaks of the program.
-/

namespace Go.Proofs.YtichenjbkclljaaDoor
set_option maxRecDepth 100000

/-- The choices of m more of the places 1 to n that begin with head. -/
def chL (n : Nat) : Nat → List Int → List (List Int)
  | 0, head => [head]
  | m + 1, head => (List.range (n - lastP head)).flatMap fun i => chL n m (head ++ [((lastP head + i + 1 : Nat) : Int)])
/-- .. of the first j of the next places. -/
def chK (n m : Nat) (head : List Int) (j : Nat) : List (List Int) := (List.range j).flatMap fun i => chL n m (head ++ [((lastP head + i + 1 : Nat) : Int)])
theorem chK_all (n m : Nat) (head : List Int) : chK n m head (n - lastP head) = chL n (m + 1) head := rfl
theorem chK_zero (n m : Nat) (head : List Int) : chK n m head 0 = [] := rfl
theorem chK_step (n m : Nat) (head : List Int) (j : Nat) : chK n m head (j + 1) = chK n m head j ++ chL n m (head ++ [((lastP head + j + 1 : Nat) : Int)]) := by
  unfold chK
  rw [List.range_succ, List.flatMap_append, List.flatMap_cons, List.flatMap_nil, List.append_nil]
theorem mem_chL {n : Nat} : ∀ (m : Nat) (head pl : List Int), PlOK n head → (pl ∈ chL n m head ↔ ∃ tl, pl = head ++ tl ∧ tl.length = m ∧ PlOK n pl)
  | 0, head, pl, h => by
    rw [chL, List.mem_singleton]
    constructor
    · rintro rfl
      exact ⟨[], by simp, rfl, h⟩
    · rintro ⟨tl, rfl, h1, _⟩
      rw [List.eq_nil_of_length_eq_zero h1, List.append_nil]
  | m + 1, head, pl, h => by
    have hle := lastP_le h
    rw [chL, List.mem_flatMap]
    constructor
    · rintro ⟨i, hi, hm⟩
      rw [List.mem_range] at hi
      have hh : PlOK n (head ++ [((lastP head + i + 1 : Nat) : Int)]) := PlOK.snoc.2 ⟨h, by omega, by omega⟩
      obtain ⟨tl, rfl, h1, h2⟩ := (mem_chL m _ pl hh).1 hm
      exact ⟨((lastP head + i + 1 : Nat) : Int) :: tl, by rw [List.append_assoc]; rfl, by simp [h1], h2⟩
    · rintro ⟨tl, rfl, h1, h2⟩
      match tl, h1 with
      | x :: tl, h1 =>
        have hx : PlOK n (head ++ [x]) := by
          have := h2.take (head.length + 1)
          rwa [show head ++ x :: tl = head ++ [x] ++ tl by simp, List.take_append_of_le_length (by simp), List.take_of_length_le (by simp)] at this
        obtain ⟨_, hx1, hx2⟩ := PlOK.snoc.1 hx
        have hxe : ((lastP head + (x.toNat - lastP head - 1) + 1 : Nat) : Int) = x := by omega
        refine ⟨x.toNat - lastP head - 1, List.mem_range.2 (by omega), ?_⟩
        rw [hxe, mem_chL m _ _ hx]
        exact ⟨tl, by simp, by simpa using h1, h2⟩
theorem chL_len {n : Nat} : ∀ (m : Nat) (head pl : List Int), pl ∈ chL n m head → pl.length = head.length + m
  | 0, head, pl, h => by rw [chL, List.mem_singleton] at h; subst h; rfl
  | m + 1, head, pl, h => by
    rw [chL, List.mem_flatMap] at h
    obtain ⟨i, _, h⟩ := h
    have := chL_len m _ pl h
    simp at this; omega
theorem chL_pre {n : Nat} : ∀ (m : Nat) (head pl : List Int), pl ∈ chL n m head → ∃ tl, pl = head ++ tl
  | 0, head, pl, h => by rw [chL, List.mem_singleton] at h; subst h; exact ⟨[], by simp⟩
  | m + 1, head, pl, h => by
    rw [chL, List.mem_flatMap] at h
    obtain ⟨i, _, h⟩ := h
    obtain ⟨tl, rfl⟩ := chL_pre m _ pl h
    exact ⟨_ :: tl, by simp; rfl⟩
theorem chL_asc {n : Nat} : ∀ (m : Nat) (head : List Int), Asc (chL n m head)
  | 0, head => by rw [chL]; exact List.pairwise_singleton _ _
  | m + 1, head => by
    rw [chL]
    unfold Asc
    rw [List.pairwise_flatMap]
    constructor
    · intro i _
      exact chL_asc m _
    · refine List.Pairwise.imp ?_ List.pairwise_lt_range
      intro i j hij x hx y hy
      have l1 := chL_len m _ x hx
      have l2 := chL_len m _ y hy
      obtain ⟨t, rfl⟩ := chL_pre m _ x hx
      obtain ⟨s, rfl⟩ := chL_pre m _ y hy
      simp only [List.length_append, List.length_singleton] at l1 l2
      rw [befL_eq (by simp; omega), List.append_assoc, List.append_assoc, lexL_app, List.singleton_append, List.singleton_append, lexL, if_neg (by omega)]
      simp; omega
/-- The choices of k of the places 1 to n. -/
def chR (n k : Nat) : List (List Int) := chL n k []
theorem mem_chR {n k : Nat} {pl : List Int} : pl ∈ chR n k ↔ pl.length = k ∧ PlOK n pl := by
  unfold chR
  rw [mem_chL k [] pl (PlOK.nil n)]
  constructor
  · rintro ⟨tl, rfl, h1, h2⟩; exact ⟨by simpa using h1, h2⟩
  · rintro ⟨h1, h2⟩; exact ⟨pl, rfl, h1, h2⟩
theorem chR_asc (n k : Nat) : Asc (chR n k) := chL_asc k []
/-- The pattern at places. -/
def patA (p pl : List Int) : List Int := patL (nums p pl)
theorem occ_filter {p q : List Int} (hp : isP p = true) (hq : isP q = true) : (chR p.length q.length).filter (fun pl => decide (patA p pl = q)) = occR p q := by
  refine asc_unique ((chR_asc _ _).sublist List.filter_sublist) (occ_asc p q) fun x => ?_
  rw [List.mem_filter, mem_chR, mem_occ, isOcc_iff]
  unfold patA
  simp only [decide_eq_true_eq, hp, hq, true_and]
  constructor
  · rintro ⟨⟨h1, h2⟩, h3⟩; exact ⟨h1, h2, h3⟩
  · rintro ⟨h1, h2, h3⟩; exact ⟨⟨h1, h2⟩, h3⟩

/-! patterns -/
theorem nums_sub {p : List Int} : ∀ {pl : List Int} {m : Nat}, PlOK m pl → m ≤ p.length → (nums p pl).Sublist (p.take m) := by
  intro pl m
  induction m generalizing pl with
  | zero =>
    intro h _
    cases pl with
    | nil => simp [nums]
    | cons a l => have := h.1 a (by simp); omega
  | succ m ih =>
    intro h hm
    by_cases h0 : pl = []
    · subst h0; simp [nums]
    · obtain ⟨l, x, rfl⟩ : ∃ l x, pl = l ++ [x] := ⟨pl.dropLast, pl.getLast h0, (List.dropLast_concat_getLast h0).symm⟩
      obtain ⟨h1, h2, h3⟩ := PlOK.snoc.1 h
      have hsub : ∀ (k : Nat), k ≤ m → (p.take k).Sublist (p.take m) := fun k hk => by
        have := List.take_sublist k (p.take m)
        rwa [List.take_take, Nat.min_eq_left hk] at this
      by_cases hx : x = ((m + 1 : Nat) : Int)
      · subst hx
        have hl : PlOK m l := ⟨fun y hy => ⟨(h1.1 y hy).1, by
          have hh := (List.pairwise_append.1 h.2).2.2 y hy ((m + 1 : Nat) : Int) (by simp)
          omega⟩, h1.2⟩
        rw [nums_snoc, take_snoc_i (at0_some (show m < p.length by omega))]
        exact (ih hl (by omega)).append (by rw [show (((m + 1 : Nat) : Int)).toNat - 1 = m by omega]; exact List.Sublist.refl _)
      · have hl : PlOK m (l ++ [x]) := PlOK.snoc.2 ⟨⟨fun y hy => ⟨(h1.1 y hy).1, by
          have hh := (List.pairwise_append.1 h.2).2.2 y hy x (by simp)
          omega⟩, h1.2⟩, h2, by omega⟩
        have := ih hl (by omega)
        have h5 := List.take_sublist m (p.take (m + 1))
        rw [List.take_take, Nat.min_eq_left (Nat.le_succ m)] at h5
        exact this.trans h5
theorem nums_sub' {p pl : List Int} (h : PlOK p.length pl) : (nums p pl).Sublist p := by
  have := nums_sub (p := p) h (Nat.le_refl _)
  rwa [List.take_length] at this
/-- The patterns of the choices are those of the parts of a length. -/
theorem mem_pats_ch {p x : List Int} {k : Nat} : x ∈ (chR p.length k).map (patA p) ↔ ∃ s, s.Sublist p ∧ s.length = k ∧ x = patL s := by
  rw [List.mem_map]
  constructor
  · rintro ⟨pl, h, rfl⟩
    rw [mem_chR] at h
    exact ⟨nums p pl, nums_sub' h.2, by rw [nums_length]; exact h.1, rfl⟩
  · rintro ⟨s, h1, h2, rfl⟩
    obtain ⟨pl, h3, rfl⟩ := places_of h1
    rw [nums_length] at h2
    exact ⟨pl, mem_chR.2 ⟨h2, h3⟩, rfl⟩
theorem subK_hi (p : List Int) {s t : Nat} : ∀ {k : Nat}, (∀ i, i < k → s.testBit i = t.testBit i) → subK p s k = subK p t k
  | 0, _ => rfl
  | k + 1, h => by
    rw [subK, subK, h k (by omega), subK_hi p (k := k) fun i hi => h i (by omega)]
/-- Every part is one of the parts that the bits tell. -/
theorem sub_bits {p : List Int} : ∀ (k : Nat) (s : List Int), k ≤ p.length → s.Sublist (p.take k) → ∃ t, t < 2 ^ k ∧ subK p t k = s
  | 0, s, _, h => ⟨0, by simp, by rw [List.take_zero] at h; rw [List.sublist_nil.1 h]; rfl⟩
  | k + 1, s, hk, h => by
    rw [take_snoc_i (at0_some (show k < p.length by omega)), List.sublist_append_iff] at h
    obtain ⟨a, b, rfl, h1, h2⟩ := h
    obtain ⟨t, ht, rfl⟩ := sub_bits k a (by omega) h1
    have hpow : 2 ^ (k + 1) = 2 ^ k + 2 ^ k := by rw [Nat.pow_succ]; omega
    cases b with
    | nil =>
      refine ⟨t, by omega, ?_⟩
      rw [subK, Nat.testBit_lt_two_pow ht, List.append_nil]
      rfl
    | cons y b =>
      have hb : y :: b = [at0 p k] := by
        have := h2.length_le
        cases b with
        | nil => have := h2.subset (List.mem_singleton.2 rfl); simp at this; rw [this]
        | cons z b => simp at this
      rw [hb]
      refine ⟨2 ^ k + t, by omega, ?_⟩
      rw [subK, Nat.testBit_two_pow_add_eq, Nat.testBit_lt_two_pow ht]
      rw [subK_hi p (s := 2 ^ k + t) (t := t) fun i hi => Nat.testBit_two_pow_add_gt hi t]
      rfl
theorem mem_patK {p : List Int} {k : Int} : ∀ {s : Nat} {x : List Int}, x ∈ patK p k s ↔ ∃ t, t < s ∧ ((subK p t p.length).length : Int) = k ∧ x = patL (subK p t p.length)
  | 0, x => by simp [patK]
  | s + 1, x => by
    have ih := mem_patK (p := p) (k := k) (s := s) (x := x)
    constructor
    · intro h
      by_cases hk : ((subK p s p.length).length : Int) = k
      · rw [patK_yes hk, mem_putL] at h
        rcases h with h | rfl
        · obtain ⟨t, h1, h2⟩ := ih.1 h; exact ⟨t, by omega, h2⟩
        · exact ⟨s, by omega, hk, rfl⟩
      · rw [patK_no hk] at h
        obtain ⟨t, h1, h2⟩ := ih.1 h; exact ⟨t, by omega, h2⟩
    · rintro ⟨t, h1, h2, h3⟩
      by_cases hk : ((subK p s p.length).length : Int) = k
      · rw [patK_yes hk, mem_putL]
        by_cases hts : t = s
        · subst hts; exact .inr h3
        · exact .inl (ih.2 ⟨t, by omega, h2, h3⟩)
      · rw [patK_no hk]
        have hts : t ≠ s := fun e => hk (by rw [← e]; exact h2)
        exact ih.2 ⟨t, by omega, h2, h3⟩
theorem patK_asc (p : List Int) (k : Int) : ∀ s, Asc (patK p k s)
  | 0 => List.Pairwise.nil
  | s + 1 => by
    rw [patK]
    split
    · exact asc_putL (patK_asc p k s)
    · exact patK_asc p k s
theorem patsOK_nat {p : List Int} {k : Nat} (hp : isP p = true) (hk : k ≤ p.length) : patsOK p (k : Int) = true := by
  unfold patsOK
  rw [hp, Bool.true_and, decide_eq_true_eq]
  omega
theorem mem_patsR {p x : List Int} {k : Nat} (hp : isP p = true) (hk : k ≤ p.length) : x ∈ patsR p (k : Int) ↔ ∃ s, s.Sublist p ∧ s.length = k ∧ x = patL s := by
  rw [patsR_yes (patsOK_nat hp hk), mem_patK]
  constructor
  · rintro ⟨t, _, h2, h3⟩
    have h := subK_sub p t p.length (Nat.le_refl _)
    rw [List.take_length] at h
    exact ⟨_, h, by omega, h3⟩
  · rintro ⟨s, h1, h2, h3⟩
    obtain ⟨t, ht, h4⟩ := sub_bits p.length s (Nat.le_refl _) (by rw [List.take_length]; exact h1)
    exact ⟨t, ht, by rw [h4]; omega, by rw [h4]; exact h3⟩
theorem patsR_asc (p : List Int) (k : Int) : Asc (patsR p k) := by
  unfold patsR
  split
  · exact patK_asc p k _
  · exact List.Pairwise.nil
theorem pats_ordL {p : List Int} {k : Nat} (hp : isP p = true) (hk : k ≤ p.length) : ordL ((chR p.length k).map (patA p)) ((chR p.length k).map (patA p)).length = patsR p (k : Int) := by
  refine asc_unique (ordL_asc _ _) (patsR_asc _ _) fun x => ?_
  rw [ordL_mem, List.take_length, mem_pats_ch, mem_patsR hp hk]
theorem pats_allP {p : List Int} {k : Nat} (hp : isP p = true) : allP ((chR p.length k).map (patA p)) = true := by
  unfold allP
  rw [List.all_eq_true]
  intro x hx
  obtain ⟨s, h1, _, rfl⟩ := mem_pats_ch.1 hx
  rw [isP_pat]
  exact patOK_yes (Nat.le_trans h1.length_le (isP_le hp)) ((isP_true.1 hp).2.2.sublist h1)
theorem pats_ordR {p : List Int} {k : Nat} (hp : isP p = true) (hk : k ≤ p.length) : ordR ((chR p.length k).map (patA p)) = patsR p (k : Int) := by
  rw [ordR_yes (pats_allP hp), pats_ordL hp hk]

/-! leaving one out -/
theorem sub_cut {s p : List Int} (h : s.Sublist p) : s.length + 1 = p.length → ∃ i, i < p.length ∧ s = cutAt p i := by
  induction h with
  | slnil => intro h; simp at h
  | cons a h ih =>
    intro hl
    simp only [List.length_cons, Nat.add_right_cancel_iff] at hl
    exact ⟨0, by simp, by rw [h.eq_of_length hl]; simp [cutAt]⟩
  | cons_cons a h ih =>
    intro hl
    simp only [List.length_cons, Nat.add_right_cancel_iff] at hl
    obtain ⟨i, hi, rfl⟩ := ih hl
    exact ⟨i + 1, by simpa using hi, by simp [cutAt]⟩
theorem lowK_mem {p x : List Int} {k : Nat} : x ∈ lowK p k ↔ ∃ i, i < k ∧ x = patL (cutAt p i) := by
  unfold lowK
  rw [(foldl_put _ [] List.Pairwise.nil).2.1]
  simp only [List.not_mem_nil, false_or, List.mem_map, List.mem_range]
  exact ⟨fun ⟨i, h1, h2⟩ => ⟨i, h1, h2.symm⟩, fun ⟨i, h1, h2⟩ => ⟨i, h1, h2.symm⟩⟩
theorem lowK_asc (p : List Int) (k : Nat) : Asc (lowK p k) := (foldl_put _ [] List.Pairwise.nil).1
theorem pats_low (p : List Int) : patsR p ((p.length : Int) - 1) = lowR p := by
  cases hp : isP p with
  | false => rw [lowR_no hp, patsR_no (by unfold patsOK; rw [hp]; rfl)]
  | true =>
    rw [lowR_yes hp]
    by_cases h0 : p.length = 0
    · rw [h0, patsR_no (by unfold patsOK; rw [hp, h0]; rfl)]; rfl
    · obtain ⟨m, hm⟩ : ∃ m, p.length = m + 1 := ⟨p.length - 1, by omega⟩
      rw [show ((p.length : Int) - 1) = (m : Int) by omega]
      refine asc_unique (patsR_asc _ _) (lowK_asc _ _) fun x => ?_
      rw [mem_patsR hp (by omega), lowK_mem]
      constructor
      · rintro ⟨s, h1, h2, rfl⟩
        obtain ⟨i, hi, rfl⟩ := sub_cut h1 (by omega)
        exact ⟨i, hi, rfl⟩
      · rintro ⟨i, hi, rfl⟩
        exact ⟨_, cutAt_sub p i, by have := cutAt_len hi; omega, rfl⟩
end Go.Proofs.YtichenjbkclljaaDoor


/-
  impl.numbersAt: the numbers at places; impl.patternAt: their pattern.
-/

namespace Go.Proofs.YtichenjbkclljaaDoor
set_option maxRecDepth 100000
open Go.RowKit

theorem nums_patOK {p pl : List Int} (hp : isP p = true) (h : PlOK p.length pl) : patOK (nums p pl) = true :=
  patOK_yes (Nat.le_trans (nums_sub' h).length_le (isP_le hp)) ((isP_true.1 hp).2.2.sublist (nums_sub' h))
theorem plOK_le {n : Nat} {pl : List Int} (h : PlOK n pl) : pl.length ≤ n := by
  have h1 := nums_sub' (p := List.replicate n 0) (pl := pl) (by rw [List.length_replicate]; exact h)
  have := h1.length_le
  rwa [nums_length, List.length_replicate] at this
set_option maxHeartbeats 800000 in
theorem inums_any (A A' : Option Addr) (n c B n' c' B' : Nat) (p pl : List Int) (hp : isP p = true) (hpl : PlOK p.length pl) (w : World) (h : Arg w B A n c p) (h' : Arg w B' A' n' c' pl) :
    Calls Tryd.prog 74 #[.slice A n c, .slice A' n' c'] w (GivesI w (nums p pl)) := by
  obtain ⟨i0, hi, hz0, hz1, hz2⟩ := info_parts intInfo
  have hl := h'.len
  have hlp := h.len
  have hr := h.reads
  have hr' := h'.reads
  have hB := h.under
  have hB' := h'.under
  have hn8 : n ≤ 8 := by have := isP_le hp; omega
  have hn8' : n' ≤ 8 := by have := plOK_le hpl; omega
  have HP := hide (fun k (hk : k < n') => show 1 ≤ at0 pl k ∧ at0 pl k ≤ (n : Int) from by have := hpl.rng (i := k) (by omega); omega)
  have HL := hide (show pl.length = n' from hl)
  have HLP := hide (show p.length = n from hlp)
  obtain ⟨zs, hzs⟩ : ∃ zs, zs = nums p pl := ⟨_, rfl⟩
  have hlz : zs.length = n' := by rw [hzs, nums_length]; exact hl
  have HAT := hide (show ∀ (k : Nat) (z y : Int), k < n' → pl[k]? = some z → p[z.toNat - 1]? = some y → zs[k]? = some y from fun k z y hk hz hy => by
    have h1 := at0_some (l := nums p pl) (k := k) (by rw [nums_length]; omega)
    rw [nums_at0 (by omega), at0_of hz, at0_of hy] at h1
    rw [hzs]; exact h1)
  rw [← hzs]
  have HLZ := hide hlz
  clear hl hlp hp hpl h h' hzs hlz
  have hst := Below.refl w.heap.size w
  have hs0 := hst.size
  go_enter Tryd.func74, Tryd.ntmps74
  go_wp2_with (first
    | (at_make; refine wpList_make_full _ rfl (.tmp 9) (.tmp 9) 24 rfl w.heap.size 3 i0 (.int .i64 0) 1 Tryd.underlying24 hi hz0 hz1 _ _ _ _ n' rfl rfl (by first | rfl | omega) (by first | rfl | omega) (by rw [hz2]; omega) (by unfold maxLen; omega) hs0 ?_; intro w3 hown hg))
  have hb1 := hst.grown hg hs0 (by simp)
  clear hg hst
  obtain ⟨g, hg⟩ : ∃ g, g = w.heap.size := ⟨_, rfl⟩
  obtain ⟨xs0, hown2⟩ : ∃ xs0, w3.ownsRow w.heap.size 3 1 (.slice (some ⟨g, 0, none⟩) n' n') n' xs0 := by rw [hg]; exact ⟨_, hown⟩
  rw [← hg]
  clear hg hown
  go_loopw [6, 7, 13] (fun _ _ i wr => ∃ (k : Nat) (xs : List Value), k ≤ n' ∧ i = .int .i64 k ∧ Below w.heap.size w wr ∧ wr.ownsRow w.heap.size 3 1 (.slice (some ⟨g, 0, none⟩) n' n') n' xs ∧ Hid (xs.take k = (i64s zs).take k)) (fun _ _ i _ => n' - (intOf i).toNat)
  case atStart => exact ⟨0, _, Nat.zero_le _, rfl, hb1, hown2, by exact rfl⟩
  case round =>
    obtain ⟨k, xs, hk, rfl, hb, hown', hx⟩ := hrel
    clear hown2 hb1 hs0
    have hlx : xs.length = n' := by simpa using hown'.1
    by_cases hlt : k < n'
    · obtain ⟨ad, u, rfl, had, hu, hc⟩ := ((hr'.more hB').below hb).at_ hlt
      obtain ⟨z, hz, rfl⟩ := i64_at hu
      have hz9 : at0 pl k = z := at0_of hz
      obtain ⟨hz1', hz2'⟩ := unhide HP k hlt
      rw [hz9] at hz1' hz2'
      have hzn : z.toNat - 1 < n := by omega
      obtain ⟨ad2, u2, rfl, had2, hu2, hc2⟩ := ((hr.more hB).below hb).at_ hzn
      obtain ⟨y, hy, rfl⟩ := i64_at hu2
      obtain ⟨old, hold⟩ : ∃ old, wr.cell? ⟨g, k, none⟩ = some old := ⟨_, by rw [hown'.cellAt k (by omega)]; exact List.getElem?_eq_getElem (by omega)⟩
      have hfz := hown'.frozenAt k
      have hst := hide (take_set_i (unhide hx) (i64_get (unhide HAT k z y hlt hz hy)) (by omega))
      have ho2 := (hown'.stored k (.int .i64 y)).1
      have hb2 := below_set_i hb hown' k (.int .i64 y)
      clear hx hlx hu hu2 hz hy hown' hb
      go_wp2
      go_roundw
      case rel => exact ⟨k + 1, _, by omega, by go_num, hb2, ho2, hst⟩
      case measure => simp [intOf]; omega
    · obtain rfl : n' = k := by omega
      have hl3 : zs.length = n' := unhide HLZ
      have : xs = i64s zs := by
        have h := unhide hx
        rwa [List.take_of_length_le (by omega), List.take_of_length_le (by rw [i64_length]; omega)] at h
      subst this
      have hI : Ints wr w.heap.size (.slice (some ⟨g, 0, none⟩) n' n') zs := Ints.of_own hown'
      have hI4 := hI.low (Nat.le_refl _)
      clear hx hlx hown' hI
      go_wp2
      go_ret
      exact GivesI.mk hI4 hb
set_option maxHeartbeats 800000 in
theorem ipatat_any (A A' : Option Addr) (n c B n' c' B' : Nat) (p pl : List Int) (hp : isP p = true) (hpl : PlOK p.length pl) (w : World) (h : Arg w B A n c p) (h' : Arg w B' A' n' c' pl) :
    Calls Tryd.prog 63 #[.slice A n c, .slice A' n' c'] w (GivesI w (patA p pl)) := by
  have HSM := hide (show Small (nums p pl) from fun z hz => by
    obtain ⟨x, hx, rfl⟩ := List.mem_map.1 hz
    have hx2 := hpl.1 x hx
    have := isP_le hp
    have := isP_range hp (at0_some (show x.toNat - 1 < p.length by omega))
    omega)
  have hn8' : (nums p pl).length ≤ 8 := by have := plOK_le hpl; have := isP_le hp; rw [nums_length]; omega
  have HOK := hide (nums_patOK hp hpl)
  have H0 := hide (inums_any A A' n c B n' c' B' p pl hp hpl w h h')
  have hst := Below.refl w.heap.size w
  unfold patA
  obtain ⟨zs, hzs⟩ : ∃ zs, zs = nums p pl := ⟨_, rfl⟩
  rw [← hzs] at HSM HOK H0 hn8' ⊢
  clear h h' hp hpl hzs
  go_enter Tryd.func63, Tryd.ntmps63
  go_wp2_with fail
  refine (unhide H0).mono ?_
  rintro e w3 ⟨A3, c3, rfl, o3, hb3⟩
  have hA := o3.arg (by omega) o3.cap (unhide HSM)
  have H1 := hide (ipat_any A3 zs.length c3 _ zs true (unhide HOK) w3 hA)
  clear H0 o3 hA
  go_wp2_with fail
  refine (unhide H1).mono ?_
  rintro e w4 ⟨A4, c4, rfl, o4, hb4⟩
  rw [patR_yes (unhide HOK)] at o4 ⊢
  have hI4 := o4.low hb3.size
  have hb5 := below_after hb3 hb4
  clear H1 o4 hb4
  go_wp2
  go_ret
  exact GivesI.mk hI4 hb5
end Go.Proofs.YtichenjbkclljaaDoor


/-
  impl.chooseMore: the choices that begin with the places in the buffer, handed to yield one after the other; the buffer is lent.
-/

namespace Go.Proofs.YtichenjbkclljaaDoor
set_option maxRecDepth 100000
open Go.RowKit Go.Shelf
attribute [local go_sem] Oper.semAt_some

theorem chK_le (n m : Nat) (head : List Int) : ∀ {i j : Nat}, i ≤ j → (chK n m head i).length ≤ (chK n m head j).length := by
  intro i j h
  induction h with
  | refl => exact Nat.le_refl _
  | step h ih => rw [Nat.succ_eq_add_one, chK_step, List.length_append]; omega
/-- What lies in the buffer, block g. -/
def Buf (g K : Nat) (head : List Int) (W : World) : Prop := W.ownsRow g 3 1 (.slice (some ⟨g, 0, none⟩) head.length K) head.length (i64s head)
theorem Buf.kept {g K : Nat} {head : List Int} {W W' : World} (h : Buf g K head W) (hk : W'.heap[g]? = W.heap[g]?) : Buf g K head W' := by
  refine ⟨h.1, ?_⟩
  rcases h.2 with hn | ⟨g', cap, cur, hv, hb, hc, rest⟩
  · exact .inl hn
  · refine .inr ⟨g', cap, cur, hv, hb, ?_, rest⟩
    have : g' = g := by injection hv with h1; injection h1 with h2; injection h2 with h3; exact h3.symm
    subst this
    exact hk.trans hc
theorem Buf.lt {g K : Nat} {head : List Int} {W : World} (h : Buf g K head W) : g < W.heap.size := (World.ownsRow.lt h g rfl).2
theorem Buf.alloc {g K : Nat} {head : List Int} {W : World} (h : Buf g K head W) (o : Obj) : Buf g K head (W.alloc o) := h.kept (Below.heap_alloc W o g h.lt)
theorem Buf.ints {g K : Nat} {head : List Int} {W : World} (h : Buf g K head W) : Ints W g (.slice (some ⟨g, 0, none⟩) head.length K) head := Ints.of_own h
theorem Buf.back {g K : Nat} {head : List Int} {x : Int} {W : World} (h : Buf g K (head ++ [x]) W) : Buf g K head W := by
  unfold Buf at h
  have h1 := own_cut (s := head.length) h (by simp)
  rw [← i64_append, List.take_append_of_le_length (by rw [i64_length]; exact Nat.le_refl _), List.take_of_length_le (by rw [i64_length]; exact Nat.le_refl _)] at h1
  exact h1
/-- What chooseMore gives. -/
def Went (J Jx : List (List Int) → World → Prop) (g K : Nat) (head : List Int) (pre R : List (List Int)) (V : World) (e : Ending) (V' : World) : Prop :=
  (e = .returned (.bool true) ∧ J (pre ++ R) V' ∧ Buf g K head V' ∧ V.heap.size ≤ V'.heap.size) ∨ (e = .returned (.bool false) ∧ ∃ xs, Jx (pre ++ xs) V')
/-- What yield is asked to give. -/
def Lends (l g K n hi N : Nat) (J Jx : List (List Int) → World → Prop) : Prop :=
  ∀ m pre x V, J pre V → Buf g K x V → x.length = K → PlOK n x → hi ≤ V.heap.size → pre.length < N → YieldAt Fence.wide m Tryd.prog l #[.slice (some ⟨g, 0, none⟩) K K] V fun e V' => ∃ b : Bool, e = .returned (.bool b) ∧ (b = true → J (pre ++ [x]) V' ∧ V.heap.size ≤ V'.heap.size ∧ V'.heap[g]? = V.heap[g]?) ∧ (b = false → Jx (pre ++ [x]) V')

set_option maxRecDepth 100000 in
set_option maxHeartbeats 2000000 in
theorem more_zero (l g K n hi N : Nat) (J Jx : List (List Int) → World → Prop) (hY : Lends l g K n hi N J Jx) (head : List Int) (pre : List (List Int)) (k : Nat) (V : World) (hl : head.length = K) (hp : PlOK n head) (hj : J pre V) (hb : Buf g K head V) (hz : hi ≤ V.heap.size) (hN : pre.length < N) :
    CallsIn Fence.wide k Tryd.prog 72 #[.slice (some ⟨g, 0, none⟩) head.length K, .int .i64 n, .int .i64 K, .func (.yield l) #[] #[]] V (Went J Jx g K head pre [head] V) := by
  subst hl
  obtain ⟨fn, tmps, assign, body, hy, hR⟩ := hY (k - 1) pre head V hj hb rfl hp hz hN
  have hlt := hb.lt
  refine callsIn_of_wp Tryd.func72 rfl trivial ?_ rfl
  simp only [Tryd.ntmps72, List.size_toArray, List.length_cons, List.length_nil, Nat.reduceAdd, Nat.reduceSub, Array.replicate_succ, Array.replicate_zero, List.push_toArray, List.append_toArray, List.nil_append, List.cons_append]
  clear hY hj
  gi_wp2_with fail
  refine And.intro (fun h => absurd h (by decide)) ?_
  refine hR.mono ?_
  rintro e V2 ⟨b, rfl, h1, h2⟩
  clear hR hy
  cases b with
  | true =>
    obtain ⟨hj2, hs2, hg2⟩ := h1 rfl
    clear h1 h2
    gi_wp2
    go_ret
    exact .inl ⟨rfl, hj2, hb.kept hg2, hs2⟩
  | false =>
    have hx := h2 rfl
    clear h1 h2
    gi_wp2
    go_ret
    exact .inr ⟨rfl, [head], hx⟩

set_option maxRecDepth 100000 in
set_option maxHeartbeats 4000000 in
theorem more_stepA (l g K n lo hi N : Nat) (hlo : lo ≤ g) (hhi : g < hi) (hn8 : n ≤ 8) (J Jx : List (List Int) → World → Prop) (hJ : ∀ pre U V, J pre U → But lo hi U V → J pre V) (m : Nat)
    (ih : ∀ (head : List Int) (pre : List (List Int)) (k : Nat) (V : World), head.length + m = K → PlOK n head → J pre V → Buf g K head V → hi ≤ V.heap.size → pre.length + (chL n m head).length ≤ N →
      CallsIn Fence.wide k Tryd.prog 72 #[.slice (some ⟨g, 0, none⟩) head.length K, .int .i64 n, .int .i64 K, .func (.yield l) #[] #[]] V (Went J Jx g K head pre (chL n m head) V))
    (pre : List (List Int)) (k : Nat) (V : World) (hl : 0 + (m + 1) = K) (hp : PlOK n []) (hj : J pre V) (hb : Buf g K [] V) (hz : hi ≤ V.heap.size) (hN : pre.length + (chL n (m + 1) []).length ≤ N) :
    CallsIn Fence.wide k Tryd.prog 72 #[.slice (some ⟨g, 0, none⟩) 0 K, .int .i64 n, .int .i64 K, .func (.yield l) #[] #[]] V (Went J Jx g K [] pre (chL n (m + 1) []) V) := by
  obtain ⟨i0, hi0, hz0, hi1, hz2⟩ := info_parts intInfo
  have hne : ((0 : Int) == (K : Int)) = false := by rw [beq_eq_false_iff_ne]; omega
  refine callsIn_of_wp Tryd.func72 rfl trivial ?_ rfl
  simp only [Tryd.ntmps72, List.size_toArray, List.length_cons, List.length_nil, Nat.reduceAdd, Nat.reduceSub, Array.replicate_succ, Array.replicate_zero, List.push_toArray, List.append_toArray, List.nil_append, List.cons_append]
  gi_wp2_with fail
  gi_loopw [9] (fun nx wr => ∃ j : Nat, j ≤ n - lastP [] ∧ nx = .int .i64 ((lastP [] + j + 1 : Nat) : Int) ∧ J (pre ++ chK n m [] j) wr ∧ Buf g K [] wr ∧ hi ≤ wr.heap.size ∧ V.heap.size ≤ wr.heap.size) (fun nx _ => n + 1 - (intOf nx).toNat)
  case atStart => exact ⟨0, Nat.zero_le _, rfl, by rw [chK_zero, List.append_nil]; exact hj, hb, hz, Nat.le_refl _⟩
  case round =>
    obtain ⟨j, hjn, rfl, hj1, hb1, hz1, hs1⟩ := hrel
    clear hj hb hz
    by_cases hlt : j < n - lastP []
    · obtain ⟨x, hx⟩ : ∃ x : Nat, x = lastP [] + j + 1 := ⟨_, rfl⟩
      have hxn : x ≤ n := by omega
      have hle : ((x : Nat) : Int) ≤ (n : Int) := by omega
      have H1 := hide (show ∀ w', (wr.alloc (.cells #[.int .i64 (x : Int)] 3)).grownBy w' (some g) → w'.ownsRow g 3 1 (.slice (some ⟨g, 0, none⟩) 1 K) 1 ([.int .i64 (x : Int)]) →
          CallsIn Fence.wide (k - 1) Tryd.prog 72 #[.slice (some ⟨g, 0, none⟩) 1 K, .int .i64 n, .int .i64 K, .func (.yield l) #[] #[]] w' fun e V' => (e = .returned (.bool true) ∧ J (pre ++ chK n m [] (j + 1)) V' ∧ Buf g K [] V' ∧ w'.heap.size ≤ V'.heap.size) ∨ (e = .returned (.bool false) ∧ ∃ xs, Jx (pre ++ xs) V') from fun w' hg' ho' => by
        have hok : PlOK n ([] ++ [((lastP [] + j + 1 : Nat) : Int)]) := PlOK.snoc.2 ⟨hp, by omega, by omega⟩
        have hbut : But lo hi wr w' := (But.alloc _ _).trans (But.grown hg' fun k e => by cases e; exact ⟨hlo, hhi⟩)
        have hN2 : (pre ++ chK n m [] j).length + (chL n m ([] ++ [((lastP [] + j + 1 : Nat) : Int)])).length ≤ N := by
          have h1 := chK_le n m [] (show j + 1 ≤ n - lastP [] by omega)
          rw [chK_step, List.length_append] at h1
          rw [chK_all] at h1
          rw [List.length_append]; omega
        have hsz' := hg'.size
        have hrec := ih ([] ++ [((lastP [] + j + 1 : Nat) : Int)]) (pre ++ chK n m [] j) (k - 1) w' (by simp; omega) hok (hJ _ _ _ hj1 hbut) (by show w'.ownsRow g 3 1 (.slice (some ⟨g, 0, none⟩) 1 K) 1 [.int .i64 ((lastP [] + j + 1 : Nat) : Int)]; rw [← hx]; exact ho') (by simp at hsz'; omega) hN2
        refine (show CallsIn Fence.wide (k - 1) Tryd.prog 72 #[.slice (some ⟨g, 0, none⟩) 1 K, .int .i64 n, .int .i64 K, .func (.yield l) #[] #[]] w' _ from hrec).mono ?_
        rintro e V' (⟨rfl, h1, h2, h3⟩ | ⟨rfl, xs, h1⟩)
        · exact .inl ⟨rfl, by rw [chK_step, ← List.append_assoc]; exact h1, h2.back, h3⟩
        · exact .inr ⟨rfl, _, by rw [← List.append_assoc]; exact h1⟩)
      rw [← hx]
      have hown : (wr.alloc (.cells #[.int .i64 (x : Int)] 3)).ownsRow g 3 1 (.slice (some ⟨g, 0, none⟩) 0 K) 0 [] := hb1.alloc _
      have hroom : 1 ≤ K := by omega
      have HX := hide hx
      clear ih hJ hp hN hjn hlt hx hxn hj1
      gi_wp2_with (first
        | (gi_at_builtin; refine wpListIn_append_fits _ rfl (.tmp 32) (.tmp 34) 24 rfl g 3 i0 1 Tryd.underlying24 hi0 hi1 g 0 K [] rfl hown ⟨wr.heap.size, 0, none⟩ 1 1 [.int .i64 (x : Int)] rfl rfl (cell_one_new _ _ _) (by simp [Value.oneCell']) hroom ?_; intro w' hown' hg'; have H2 := hide (unhide H1 w' hg' hown'); have hsz' := hg'.size; clear H1 hown hown' hg'))
      refine And.intro trivial (And.intro (fun h => absurd h (by decide)) ?_)
      refine (unhide H2).mono ?_
      rintro e V1 (⟨rfl, hj2, hb2, hs2⟩ | ⟨rfl, xs, hx2⟩)
      · clear H2
        have hx := unhide HX
        have hsz2 : wr.heap.size ≤ V1.heap.size := by simp at hsz'; omega
        clear hsz' hs2
        gi_wp2
        go_roundw
        case rel => exact ⟨j + 1, by have := unhide HX; omega, by have := unhide HX; go_num, hj2, hb2, by omega, by omega⟩
        case measure => have := unhide HX; simp [intOf]; omega
      · clear H2
        gi_wp2
        go_ret
        exact .inr ⟨rfl, xs, hx2⟩
    · have hje : j = n - lastP [] := by omega
      have hle := lastP_le hp
      have hgt : ¬ (((lastP [] + j + 1 : Nat) : Int) ≤ (n : Int)) := by omega
      rw [hje, chK_all] at hj1
      clear hje ih hJ hp hN hjn hlt
      gi_wp2
      go_ret
      exact .inl ⟨rfl, hj1, hb1, hs1⟩

set_option maxRecDepth 100000 in
set_option maxHeartbeats 4000000 in
theorem more_stepB (l g K n lo hi N : Nat) (hlo : lo ≤ g) (hhi : g < hi) (hn8 : n ≤ 8) (J Jx : List (List Int) → World → Prop) (hJ : ∀ pre U V, J pre U → But lo hi U V → J pre V) (m : Nat)
    (ih : ∀ (head : List Int) (pre : List (List Int)) (k : Nat) (V : World), head.length + m = K → PlOK n head → J pre V → Buf g K head V → hi ≤ V.heap.size → pre.length + (chL n m head).length ≤ N →
      CallsIn Fence.wide k Tryd.prog 72 #[.slice (some ⟨g, 0, none⟩) head.length K, .int .i64 n, .int .i64 K, .func (.yield l) #[] #[]] V (Went J Jx g K head pre (chL n m head) V))
    (head : List Int) (hcase : 0 < head.length) (pre : List (List Int)) (k : Nat) (V : World) (hl : head.length + (m + 1) = K) (hp : PlOK n head) (hj : J pre V) (hb : Buf g K head V) (hz : hi ≤ V.heap.size) (hN : pre.length + (chL n (m + 1) head).length ≤ N) :
    CallsIn Fence.wide k Tryd.prog 72 #[.slice (some ⟨g, 0, none⟩) head.length K, .int .i64 n, .int .i64 K, .func (.yield l) #[] #[]] V (Went J Jx g K head pre (chL n (m + 1) head) V) := by
  obtain ⟨i0, hi0, hz0, hi1, hz2⟩ := info_parts intInfo
  have hne : ((head.length : Int) == (K : Int)) = false := by rw [beq_eq_false_iff_ne]; omega
  have hc0 : 0 < (head.length : Int) := by omega
  have hlast := lastP_at hcase
  have hr := hp.rng (i := head.length - 1) (by omega)
  have hb0 : (0 : Int) ≤ (head.length : Int) - 1 := by omega
  have hb1' : (head.length : Int) - 1 < (head.length : Int) := by omega
  have hwr : IntKind.i64.wrap ((head.length : Int) - 1) = (head.length : Int) - 1 := by rw [IntKind.wrap_i64]; have := plOK_le hp; omega
  have hti : ((head.length : Int) - 1).toNat = head.length - 1 := by omega
  have hcell : V.cell? ⟨g, head.length - 1, none⟩ = some (.int .i64 (at0 head (head.length - 1))) := by
    rw [World.ownsRow.cellAt hb (head.length - 1) (by omega)]
    exact i64_get (at0_some (by omega))
  have hwr2 : IntKind.i64.wrap (at0 head (head.length - 1) + 1) = at0 head (head.length - 1) + 1 := by rw [IntKind.wrap_i64]; omega
  refine callsIn_of_wp Tryd.func72 rfl trivial ?_ rfl
  simp only [Tryd.ntmps72, List.size_toArray, List.length_cons, List.length_nil, Nat.reduceAdd, Nat.reduceSub, Array.replicate_succ, Array.replicate_zero, List.push_toArray, List.append_toArray, List.nil_append, List.cons_append]
  gi_wp2_with fail
  gi_loopw [9] (fun nx wr => ∃ j : Nat, j ≤ n - lastP head ∧ nx = .int .i64 ((lastP head + j + 1 : Nat) : Int) ∧ J (pre ++ chK n m head j) wr ∧ Buf g K head wr ∧ hi ≤ wr.heap.size ∧ V.heap.size ≤ wr.heap.size) (fun nx _ => n + 1 - (intOf nx).toNat)
  case atStart => exact ⟨0, Nat.zero_le _, by rw [hlast]; congr 1; omega, by rw [chK_zero, List.append_nil]; exact hj, hb, hz, Nat.le_refl _⟩
  case round =>
    obtain ⟨j, hjn, rfl, hj1, hb1, hz1, hs1⟩ := hrel
    clear hj hb hz
    by_cases hlt : j < n - lastP head
    · obtain ⟨x, hx⟩ : ∃ x : Nat, x = lastP head + j + 1 := ⟨_, rfl⟩
      have hxn : x ≤ n := by omega
      have hle : ((x : Nat) : Int) ≤ (n : Int) := by omega
      have H1 := hide (show ∀ w', (wr.alloc (.cells #[.int .i64 (x : Int)] 3)).grownBy w' (some g) → w'.ownsRow g 3 1 (.slice (some ⟨g, 0, none⟩) (head.length + 1) K) (head.length + 1) (i64s head ++ [.int .i64 (x : Int)]) →
          CallsIn Fence.wide (k - 1) Tryd.prog 72 #[.slice (some ⟨g, 0, none⟩) (head.length + 1) K, .int .i64 n, .int .i64 K, .func (.yield l) #[] #[]] w' fun e V' => (e = .returned (.bool true) ∧ J (pre ++ chK n m head (j + 1)) V' ∧ Buf g K head V' ∧ w'.heap.size ≤ V'.heap.size) ∨ (e = .returned (.bool false) ∧ ∃ xs, Jx (pre ++ xs) V') from fun w' hg' ho' => by
        have hok : PlOK n (head ++ [((lastP head + j + 1 : Nat) : Int)]) := PlOK.snoc.2 ⟨hp, by omega, by omega⟩
        have hbut : But lo hi wr w' := (But.alloc _ _).trans (But.grown hg' fun k e => by cases e; exact ⟨hlo, hhi⟩)
        have hN2 : (pre ++ chK n m head j).length + (chL n m (head ++ [((lastP head + j + 1 : Nat) : Int)])).length ≤ N := by
          have h1 := chK_le n m head (show j + 1 ≤ n - lastP head by omega)
          rw [chK_step, List.length_append] at h1
          rw [chK_all] at h1
          rw [List.length_append]; omega
        have hsz' := hg'.size
        have hrec := ih (head ++ [((lastP head + j + 1 : Nat) : Int)]) (pre ++ chK n m head j) (k - 1) w' (by simp; omega) hok (hJ _ _ _ hj1 hbut) (by unfold Buf; rw [List.length_append, List.length_singleton, ← i64_append, ← hx]; exact ho') (by simp at hsz'; omega) hN2
        rw [List.length_append, List.length_singleton] at hrec
        refine hrec.mono ?_
        rintro e V' (⟨rfl, h1, h2, h3⟩ | ⟨rfl, xs, h1⟩)
        · exact .inl ⟨rfl, by rw [chK_step, ← List.append_assoc]; exact h1, h2.back, h3⟩
        · exact .inr ⟨rfl, _, by rw [← List.append_assoc]; exact h1⟩)
      rw [← hx]
      have hown : (wr.alloc (.cells #[.int .i64 (x : Int)] 3)).ownsRow g 3 1 (.slice (some ⟨g, 0, none⟩) head.length K) head.length (i64s head) := hb1.alloc _
      have hroom : head.length + 1 ≤ K := by omega
      have HX := hide hx
      clear ih hJ hp hN hjn hlt hx hxn hj1
      gi_wp2_with (first
        | (gi_at_builtin; refine wpListIn_append_fits _ rfl (.tmp 32) (.tmp 34) 24 rfl g 3 i0 1 Tryd.underlying24 hi0 hi1 g head.length K (i64s head) rfl hown ⟨wr.heap.size, 0, none⟩ 1 1 [.int .i64 (x : Int)] rfl rfl (cell_one_new _ _ _) (by simp [Value.oneCell']) hroom ?_; intro w' hown' hg'; have H2 := hide (unhide H1 w' hg' hown'); have hsz' := hg'.size; clear H1 hown hown' hg'))
      refine And.intro trivial (And.intro (fun h => absurd h (by decide)) ?_)
      refine (unhide H2).mono ?_
      rintro e V1 (⟨rfl, hj2, hb2, hs2⟩ | ⟨rfl, xs, hx2⟩)
      · clear H2
        have hx := unhide HX
        have hsz2 : wr.heap.size ≤ V1.heap.size := by simp at hsz'; omega
        clear hsz' hs2
        gi_wp2
        go_roundw
        case rel => exact ⟨j + 1, by have := unhide HX; omega, by have := unhide HX; go_num, hj2, hb2, by omega, by omega⟩
        case measure => have := unhide HX; simp [intOf]; omega
      · clear H2
        gi_wp2
        go_ret
        exact .inr ⟨rfl, xs, hx2⟩
    · have hje : j = n - lastP head := by omega
      have hle := lastP_le hp
      have hgt : ¬ (((lastP head + j + 1 : Nat) : Int) ≤ (n : Int)) := by omega
      rw [hje, chK_all] at hj1
      clear hje ih hJ hp hN hjn hlt
      gi_wp2
      go_ret
      exact .inl ⟨rfl, hj1, hb1, hs1⟩

theorem more_any (l g K n lo hi N : Nat) (hlo : lo ≤ g) (hhi : g < hi) (hn8 : n ≤ 8) (J Jx : List (List Int) → World → Prop) (hJ : ∀ pre U V, J pre U → But lo hi U V → J pre V) (hY : Lends l g K n hi N J Jx) :
    ∀ (m : Nat) (head : List Int) (pre : List (List Int)) (k : Nat) (V : World), head.length + m = K → PlOK n head → J pre V → Buf g K head V → hi ≤ V.heap.size → pre.length + (chL n m head).length ≤ N →
      CallsIn Fence.wide k Tryd.prog 72 #[.slice (some ⟨g, 0, none⟩) head.length K, .int .i64 n, .int .i64 K, .func (.yield l) #[] #[]] V (Went J Jx g K head pre (chL n m head) V)
  | 0, head, pre, k, V, hl, hp, hj, hb, hz, hN => more_zero l g K n hi N J Jx hY head pre k V hl hp hj hb hz (by rw [chL, List.length_singleton] at hN; omega)
  | m + 1, head, pre, k, V, hl, hp, hj, hb, hz, hN => by
    have ih := more_any l g K n lo hi N hlo hhi hn8 J Jx hJ hY m
    by_cases h0 : head.length = 0
    · obtain rfl := List.eq_nil_of_length_eq_zero h0
      exact more_stepA l g K n lo hi N hlo hhi hn8 J Jx hJ m ih pre k V hl hp hj hb hz hN
    · exact more_stepB l g K n lo hi N hlo hhi hn8 J Jx hJ m ih head (by omega) pre k V hl hp hj hb hz hN
end Go.Proofs.YtichenjbkclljaaDoor


/-
  impl.choices: an iterator over the choices in order; the list is lent.
-/

namespace Go.Proofs.YtichenjbkclljaaDoor
set_option maxRecDepth 100000
open Go.RowKit Go.Shelf
attribute [local go_sem] Oper.semAt_some

theorem boxed_later {W W' : World} {b : Nat} {t : TypeId} {v : Value} (h : Boxed W b t v) (hb : Below W.heap.size W W') : Boxed W' b t v := (hb.block b h.lt).trans h
theorem icho_any (n K : Int) (w : World) :
    Calls Tryd.prog 61 #[.int .i64 n, .int .i64 K] w fun e w' => e = .returned (.func (.func 71) #[] #[.pointer (some ⟨w.heap.size + 1, 0, none⟩), .pointer (some ⟨w.heap.size, 0, none⟩)]) ∧ w' = (w.alloc (.cells #[.int .i64 n] 3)).alloc (.cells #[.int .i64 K] 3) := by
  go_enter Tryd.func61, Tryd.ntmps61
  go_wp2
  go_ret
  exact ⟨rfl, rfl⟩

set_option maxRecDepth 100000 in
set_option maxHeartbeats 2000000 in
theorem choices_tell (n K N bn bk : Nat) (hn8 : n ≤ 8) (hK8 : K ≤ 8) (hN : (chR n K).length ≤ N) (m : Nat) (w : World) (hbn : Boxed w bn 3 (.int .i64 n)) (hbk : Boxed w bk 3 (.int .i64 K)) :
    TellsZ Fence.wide m Tryd.prog 71 #[.pointer (some ⟨bk, 0, none⟩), .pointer (some ⟨bn, 0, none⟩)] 1 (fun _ : List Int => #[.slice (some ⟨w.heap.size + 2, 0, none⟩) K K]) (fun _ x V => Buf (w.heap.size + 2) K x V ∧ x.length = K ∧ PlOK n x)
      (fun V V' => V.heap.size ≤ V'.heap.size ∧ V'.heap[w.heap.size + 2]? = V.heap[w.heap.size + 2]?) (fun xs => xs = chR n K) (fun _ => True) N w := by
  intro l J Jx W hW hsz hJ hJx hY h0
  obtain ⟨i0, hi, hz0, hz1, hz2⟩ := info_parts intInfo
  have hcn := Boxed.cell (boxed_later hbn hW)
  have hck := Boxed.cell (boxed_later hbk hW)
  obtain ⟨w3, hrun, hown, hg⟩ := run_make_own (P := Tryd.prog) W.drew W.heap.size 24 3 i0 (.int .i64 0) 1 Tryd.underlying24 hi hz0 hz1 .i64 .i64 K (by rw [hz2]; omega) (by unfold maxLen; omega) (Nat.le_refl _)
  have hb3 := (below_drew W.heap.size W).grown hg (Nat.le_refl _) (by simp)
  have hlt := (Array.getElem?_eq_some_iff.1 hbn).1
  have hlt' := (Array.getElem?_eq_some_iff.1 hbk).1
  have hcn3 := (hb3.cell (p := ⟨bn, 0, none⟩) (by rw [hsz]; show bn < _; omega)).trans hcn
  have hck3 := (hb3.cell (p := ⟨bk, 0, none⟩) (by rw [hsz]; show bk < _; omega)).trans hck
  have hs3 : w.heap.size + 2 < w3.heap.size := by rw [← hsz]; exact (World.ownsRow.lt hown _ rfl).2
  have h1 : Buf (w.heap.size + 2) K [] w3 := by unfold Buf; rw [← hsz]; exact hown
  have HM := hide (show CallsIn Fence.wide 0 Tryd.prog 72 #[.slice (some ⟨w.heap.size + 2, 0, none⟩) 0 K, .int .i64 n, .int .i64 K, .func (.yield l) #[] #[]] w3 (fun e V => ∃ b : Bool, e = .returned (.bool b) ∧ ((∃ xs, xs = chR n K ∧ J xs V) ∨ ∃ pre, True ∧ Jx pre V)) from (more_any l (w.heap.size + 2) K n (w.heap.size + 2) (w.heap.size + 2 + 1) N (Nat.le_refl _) (Nat.lt_succ_self _) hn8 J Jx hJ
    (fun m' pre x V hj hb hxl hok hz hlen => round_any rfl ((hY pre x V V hj hz (Below.refl _ V) ⟨hb, hxl, hok⟩ hlen).mono (by
      rintro e V' (⟨rfl, h1, h2, h3⟩ | ⟨rfl, h1, _⟩)
      · exact ⟨true, rfl, fun _ => ⟨h1, h2, h3⟩, fun h => by cases h⟩
      · exact ⟨false, rfl, fun h => by (cases h), fun _ => h1⟩)))
    K [] [] 0 w3 (by simp) (PlOK.nil n) (hJ _ _ _ h0 ((But.of_below (hsz ▸ hb3)))) h1 (by omega) (by rw [List.length_nil, Nat.zero_add]; exact hN)).mono (by
      rintro e V (⟨rfl, h1, _⟩ | ⟨rfl, xs, h1⟩)
      · exact ⟨true, rfl, .inl ⟨_, rfl, h1⟩⟩
      · exact ⟨false, rfl, .inr ⟨_, trivial, h1⟩⟩))
  rw [show W.drew.heap.size = w.heap.size + 2 from hsz] at hrun
  change CallsIn Fence.wide m Tryd.prog 71 #[.func (.yield l) #[] #[], .pointer (some ⟨bk, 0, none⟩), .pointer (some ⟨bn, 0, none⟩)] W _
  refine callsIn_wide.2 ?_
  clear hY hJ hJx h0 hW hbn hbk h1 hown hg
  go_enter Tryd.func71, Tryd.ntmps71
  go_wp2_with fail
  have hcn0 : W.drew.cell? ⟨bn, 0, none⟩ = some (.int .i64 n) := hcn
  have hck0 : W.drew.cell? ⟨bk, 0, none⟩ = some (.int .i64 K) := hck
  go_region_with
    (first
      | (go_simp; go_at_call 72; refine (callsIn_wide.1 (unhide HM)).mono ?_; rintro e w4 ⟨b, rfl, h4⟩))
  all_goals go_wp2
  all_goals go_end0
  all_goals exact ⟨⟨_, rfl⟩, h4⟩
end Go.Proofs.YtichenjbkclljaaDoor


/-
  impl.occurrences: an iterator over the occurrences in order; each list is new.
-/

namespace Go.Proofs.YtichenjbkclljaaDoor
set_option maxRecDepth 100000
open Go.RowKit Go.Shelf
attribute [local go_sem] Oper.semAt_some

theorem arg_kept {w w' : World} {B n c : Nat} {A : Option Addr} {zs : List Int} (h : Arg w B A n c zs) (hs : w.heap.size ≤ w'.heap.size) (hk : ∀ k, k < B → w'.heap[k]? = w.heap[k]?) : Arg w' B A n c zs :=
  ⟨h.reads.keep fun p hp => by unfold World.cell?; rw [hk p.block hp], Nat.le_trans h.under hs, h.le, h.cap, h.small, h.nil⟩
theorem iocs_made (A A' : Option Addr) (n c n' c' : Nat) (w : World) :
    Calls Tryd.prog 29 #[.slice A n c, .slice A' n' c'] w fun e w' => e = .returned (.func (.func 60) #[] #[.pointer (some ⟨w.heap.size, 0, none⟩), .pointer (some ⟨w.heap.size + 1, 0, none⟩)]) ∧ w' = (w.alloc (.cells #[.slice A n c] 24)).alloc (.cells #[.slice A' n' c'] 24) := by
  go_enter Tryd.func29, Tryd.ntmps29
  go_wp2
  go_ret
  exact ⟨rfl, rfl⟩

/-- What a handed occurrence is. -/
def KnO (p q : List Int) (U : World) (x : Value × List Int) (V : World) : Prop := Ints V U.heap.size x.1 x.2 ∧ x.2 ∈ occR p q
/-- Each of them is one. -/
def AllIn (p q : List Int) (xs : List (Value × List Int)) : Prop := ∀ x ∈ xs, x.2 ∈ occR p q
/-- What the iterator over occurrences needs to lie as it lay. -/
structure KeptO (P : Nat → Prop) (B B' bp bq lo : Nat) : Prop where
  p : ∀ k, k < B → P k
  q : ∀ k, k < B' → P k
  bp : P bp
  bq : P bq
  zone : ∀ k, lo ≤ k → k < lo + 6 → P k
/-- What holds while it runs. -/
structure AtO (A A' : Option Addr) (n c B n' c' B' : Nat) (p q : List Int) (bp bq by_ l : Nat) (V : World) : Prop where
  p : Arg V B A n c p
  q : Arg V B' A' n' c' q
  bp : Boxed V bp 24 (.slice A n c)
  bq : Boxed V bq 24 (.slice A' n' c')
  by_ : Boxed V by_ 45 (.func (.yield l) #[] #[])

theorem AtO.below {A A' : Option Addr} {n c B n' c' B' : Nat} {p q : List Int} {bp bq by_ l : Nat} {U V : World} (h : AtO A A' n c B n' c' B' p q bp bq by_ l U) (hb : Below U.heap.size U V) : AtO A A' n c B n' c' B' p q bp bq by_ l V :=
  ⟨h.p.below hb, h.q.below hb, boxed_later h.bp hb, boxed_later h.bq hb, boxed_later h.by_ hb⟩
theorem AtO.drew {A A' : Option Addr} {n c B n' c' B' : Nat} {p q : List Int} {bp bq by_ l : Nat} {U : World} (h : AtO A A' n c B n' c' B' p q bp bq by_ l U) : AtO A A' n c B n' c' B' p q bp bq by_ l U.drew := h.below (below_drew _ U)
theorem patA_small {p pl : List Int} (hp : isP p = true) (h : PlOK p.length pl) : Small (patA p pl) := fun z hz => by
  obtain ⟨k, hk⟩ := List.getElem?_of_mem hz
  have h1 : isP (patA p pl) = true := by unfold patA; rw [isP_pat]; exact nums_patOK hp h
  have := isP_range h1 hk
  have := isP_le h1
  omega
set_option maxRecDepth 100000 in
set_option maxHeartbeats 4000000 in
theorem occ_tell (A A' : Option Addr) (n c B n' c' B' : Nat) (p q : List Int) (hp : isP p = true) (hq : isP q = true) (P : Nat → Prop) (bp bq N : Nat) (w : World) (hpA : Arg w B A n c p) (hqA : Arg w B' A' n' c' q)
    (hbp : Boxed w bp 24 (.slice A n c)) (hbq : Boxed w bq 24 (.slice A' n' c')) (hk : KeptO P B B' bp bq (w.heap.size + 2)) (m : Nat) (hN : (chR n n').length ≤ N) :
    TellsZ Fence.wide m Tryd.prog 60 #[.pointer (some ⟨bp, 0, none⟩), .pointer (some ⟨bq, 0, none⟩)] 6 (fun x : Value × List Int => #[x.1]) (KnO p q) (Keep P) (fun xs => xs.map (·.2) = occR p q) (AllIn p q) N w := by
  intro l J Jx W hW hsz hJ hJx hY h0
  change CallsIn Fence.wide m Tryd.prog 60 #[.func (.yield l) #[] #[], .pointer (some ⟨bp, 0, none⟩), .pointer (some ⟨bq, 0, none⟩)] W _
  have hn8 : n ≤ 8 := by have := isP_le hp; have := hpA.len; omega
  have hn8' : n' ≤ 8 := by have := isP_le hq; have := hqA.len; omega
  have hbpl := Boxed.lt hbp
  have hbql := Boxed.lt hbq
  have hBu := hpA.under
  have hBu' := hqA.under
  -- the world ahead of the loop
  obtain ⟨w1, hw1⟩ : ∃ w1, w1 = W.alloc (.cells #[.func (.yield l) #[] #[]] 45) := ⟨_, rfl⟩
  have hs1 : w1.heap.size = w.heap.size + 3 := by rw [hw1]; simp [hsz]
  have hb1 : Below W.heap.size W w1 := by rw [hw1]; exact (Below.refl _ W).alloc (Nat.le_refl _) _
  obtain ⟨w3, hw3⟩ : ∃ w3, w3 = (w1.alloc (.cells #[.int .i64 n] 3)).alloc (.cells #[.int .i64 n'] 3) := ⟨_, rfl⟩
  have hs3 : w3.heap.size = w.heap.size + 5 := by rw [hw3]; simp [hs1]
  have hb3 : Below w1.heap.size w1 w3 := by rw [hw3]; exact ((Below.refl _ w1).alloc (Nat.le_refl _) _).alloc (by simp) _
  have hbW3 : Below W.heap.size W w3 := below_after hb1 hb3
  have hbw1 : Below w.heap.size w w1 := below_after hW hb1
  have hbw3 : Below w.heap.size w w3 := below_after hW hbW3
  have hby1 : Boxed w1 (w.heap.size + 2) 45 (.func (.yield l) #[] #[]) := by rw [hw1, ← hsz]; exact Boxed.new W _ _
  have hAt : AtO A A' n c B n' c' B' p q bp bq (w.heap.size + 2) l w3 := ⟨hpA.below hbw3, hqA.below hbw3, boxed_later hbp hbw3, boxed_later hbq hbw3, boxed_later hby1 hb3⟩
  have hbn : Boxed w3 (w.heap.size + 3) 3 (.int .i64 n) := by rw [hw3, ← hs1]; exact Boxed.alloc (Boxed.new w1 _ _) _
  have hbk : Boxed w3 (w.heap.size + 4) 3 (.int .i64 n') := by
    have := Boxed.new (w1.alloc (.cells #[.int .i64 n] 3)) 3 (.int .i64 n')
    rw [World.size_alloc, hs1] at this
    rw [hw3]; exact this
  have hJ3 : J [] w3 := hJ _ _ _ h0 (But.of_below hbW3)
  have hseq := choices_tell n n' N (w.heap.size + 3) (w.heap.size + 4) hn8 hn8' hN 3 w3 hbn hbk
  have hcp1 := Boxed.cell (boxed_later hbp hbw1)
  have hcq1 := Boxed.cell (boxed_later hbq hbw1)
  have HC := hide (fun w' => icho_any n n' w')
  refine callsIn_wide.2 ((callsIn_wide (n := 4)).1 ?_)
  refine callsIn_of_wp_marks Tryd.func60 rfl trivial ?_ rfl
  simp only [Tryd.ntmps60, List.size_toArray, List.length_cons, List.length_nil, Nat.reduceAdd, Nat.reduceSub, Array.replicate_succ, Array.replicate_zero, List.push_toArray, List.append_toArray, List.nil_append, List.cons_append]
  rw [hw1] at hcp1 hcq1
  have HW1 := hide hw1
  have HW3 := hide hw3
  clear hw1 hw3
  gi_wp2_with fail
  refine ⟨trivial, ?_⟩
  refine (callsIn_wide.2 (unhide HC _)).mono ?_
  rintro e w2 ⟨rfl, hw2⟩
  rw [← unhide HW1, ← unhide HW3] at hw2
  subst hw2
  rw [← unhide HW1, hs1]
  clear HC HW1 HW3 hcp1 hcq1
  have HBD := hide (⟨hk, hJ, hJx⟩ : KeptO P B B' bp bq (w.heap.size + 2) ∧ (∀ pre U V, J pre U → But (w.heap.size + 2) (w.heap.size + 2 + 6) U V → J pre V) ∧ (∀ pre U V, Jx pre U → But (w.heap.size + 2) (w.heap.size + 2 + 6) U V → Jx pre V))
  have HFI := hide (occ_filter hp hq)
  have HIN := hide (show ∀ pl, patA p pl = q → pl.length = n' → PlOK n pl → pl ∈ occR p q from fun pl h1 h2 h3 => by
    have e1 := hpA.len
    have e2 := hqA.len
    exact mem_occ.2 (isOcc_iff.2 ⟨hp, hq, by omega, by rw [e1]; exact h3, h1⟩))
  have e1 := hpA.len
  have e2 := hqA.len
  have hwle := hbw3.size
  clear hW h0 hb1 hb3 hbW3 hbw1 hbw3 hby1 hbn hbk hpA hqA hbp hbq hJ hJx hk hs1
  gi_wp2
  refine range_zone rfl (by decide) (gf := 71) (lb := #[.pointer (some ⟨w.heap.size + 4, 0, none⟩), .pointer (some ⟨w.heap.size + 3, 0, none⟩)]) rfl trivial (enters_of Tryd.func71 (by kernel_rfl) rfl)
    hseq (fun h k => ⟨Nat.le_trans h.1 k.1, k.2.trans h.2⟩) (fun W r r' hd => ⟨by unfold World.putObj; simp, World.putObj_heap_other (by omega)⟩) (fun _ => rfl) (fun U V x r r' hdU hdV h => ⟨h.1.kept (World.putObj_heap_other (by omega)), h.2⟩)
    (fun pre V => ∃ xs, (J xs V ∧ xs.map (·.2) = pre.filter (fun pl => decide (patA p pl = q))) ∧ AtO A A' n c B n' c' B' p q bp bq (w.heap.size + 2) l V ∧ AllIn p q xs)
    (fun c _ V => c = .ret ∧ ∃ xs, Jx xs V ∧ AllIn p q xs)
    (fun pre U V h hb => by
      obtain ⟨xs, ⟨h1, h2⟩, h3, h4⟩ := h
      exact ⟨xs, ⟨(unhide HBD).2.1 _ _ _ h1 (hb.mono (by omega) (by omega)), h2⟩, ⟨arg_kept h3.p hb.size fun k hk => hb.block k (by have := h3.p.under; omega) (by omega), arg_kept h3.q hb.size fun k hk => hb.block k (by have := h3.q.under; omega) (by omega), Boxed.but h3.bp hb (by omega), Boxed.but h3.bq hb (by omega), Boxed.but h3.by_ hb (by omega)⟩, h4⟩)
    (fun c pre U V h hb => by
      obtain ⟨hc, xs, h1, h2⟩ := h
      exact ⟨hc, xs, (unhide HBD).2.2 _ _ _ h1 (hb.mono (by omega) (by omega)), h2⟩)
    ⟨[], ⟨hJ3, rfl⟩, hAt, fun x hx => by cases hx⟩
    (fun _ => { tmps := #[.func (.yield l) #[] #[], .pointer (some ⟨bp, 0, none⟩), .pointer (some ⟨bq, 0, none⟩), .pointer (some ⟨w.heap.size + 2, 0, none⟩), .slice (some ⟨w2.heap.size + 2, 0, none⟩) n' n', .slice A n c, .int .i64 n, .slice A' n' c', .int .i64 n',
      .func (.func 71) #[] #[.pointer (some ⟨w.heap.size + 4, 0, none⟩), .pointer (some ⟨w.heap.size + 3, 0, none⟩)], .slice (some ⟨w2.heap.size + 2, 0, none⟩) n' n', undef, undef, undef, undef, undef, undef, undef, undef, undef, undef, undef, undef], defers := [] }) ?assign ?body ?done ?stop
  case assign =>
    intro l x W K hK
    clear hs3
    gi_wp2
    exact hK
  case body =>
    rintro l2 pre pl U V ⟨xs, ⟨hJU, hxs⟩, hAtU, hall⟩ hzU hbU ⟨hbuf, hpl, hok⟩ hlen
    obtain ⟨g, hg⟩ : ∃ g, g = w2.heap.size + 2 := ⟨_, rfl⟩
    rw [← hg] at hbuf ⊢
    have hAtV0 := hAtU.below hbU
    have hAtV := hAtV0.drew
    have hJV := (unhide HBD).2.1 _ _ _ hJU (But.of_below hbU)
    have hsm : Small pl := fun z hz => by have := hok.1 z hz; omega
    have hApl := ((hpl ▸ hbuf.ints : Ints V g (.slice (some ⟨g, 0, none⟩) n' n') pl).arg (by omega) (Nat.le_refl _) hsm).drew
    have hcp := Boxed.cell hAtV.bp
    have hcq := Boxed.cell hAtV.bq
    have hcy := Boxed.cell hAtV.by_
    have H1 := hide (ipatat_any A (some ⟨g, 0, none⟩) n c B n' n' _ p pl hp (e1.symm ▸ hok) V.drew hAtV.p hApl)
    have hmx : Tryd.prog.follows .mixedOrders = true := by kernel_rfl
    by_cases hyes : patA p pl = q
    · have hdec : decide (patA p pl = q) = true := by simpa using hyes
      have H2 := hide (show ∀ (A4 : Option Addr) (c4 : Nat) (w4 : World), Ints w4 V.drew.heap.size (.slice A4 (patA p pl).length c4) (patA p pl) → Below V.drew.heap.size V.drew w4 → Calls Tryd.prog 62 #[.slice A4 (patA p pl).length c4, .slice A' n' c'] w4 fun e w' => e = .returned (.bool true) ∧ Drew w4 w' from fun A4 c4 w4 h1 h2 =>
        eqsl_any A4 A' _ c4 _ n' c' B' (patA p pl) q true hdec w4 (h1.arg (by unfold patA; rw [patL_length, nums_length]; omega) h1.cap (patA_small hp (e1.symm ▸ hok))) (hAtV.q.below h2))
      have HQ := hide (show ∀ w4, Below V.drew.heap.size V.drew w4 → w4.cell? ⟨bq, 0, none⟩ = some (.slice A' n' c') from fun w4 h => Boxed.cell (boxed_later hAtV.bq h))
      have HY := hide (show ∀ w4, Below V.drew.heap.size V.drew w4 → w4.cell? ⟨w.heap.size + 2, 0, none⟩ = some (.func (.yield l) #[] #[]) from fun w4 h => Boxed.cell (boxed_later hAtV.by_ h))
      have HCL := hide (show ∀ w5, Below V.drew.heap.size V.drew w5 → Calls Tryd.prog 43 #[.slice (some ⟨g, 0, none⟩) n' n'] w5 (GivesI w5 pl) from fun w5 h => clone_any (some ⟨g, 0, none⟩) n' n' _ pl w5 (hApl.below h))
      have HYL := hide (show ∀ (w5 w6 : World) (A6 : Option Addr) (c6 : Nat), Below V.heap.size V w5 → Below w5.heap.size w5 w6 → Ints w6 w5.heap.size (.slice A6 pl.length c6) pl → YieldAt Fence.wide 1 Tryd.prog l #[.slice A6 pl.length c6] w6 fun e V' => ∃ b : Bool, e = .returned (.bool b) ∧
          (b = true → (∀ r, Desk w2.heap.size r V → Desk w2.heap.size r V') ∧ (V.heap.size ≤ V'.heap.size ∧ V'.heap[g]? = V.heap[g]?) ∧ ∃ xs, (J xs V' ∧ xs.map (·.2) = (pre ++ [pl]).filter (fun pl => decide (patA p pl = q))) ∧ AtO A A' n c B n' c' B' p q bp bq (w.heap.size + 2) l V' ∧ AllIn p q xs) ∧
          (b = false → (∀ r, Desk w2.heap.size r V → Desk w2.heap.size r V') ∧ (V.heap.size ≤ V'.heap.size ∧ V'.heap[g]? = V.heap[g]?) ∧ ∃ xs, Jx xs V' ∧ AllIn p q xs) from fun w5 w6 A6 c6 h5 h6 hI => by
        have hin := unhide HIN pl hyes hpl hok
        have hk := (unhide HBD).1
        have hz5 := h5.size
        have hz6 := h6.size
        have hbs := hbU.size
        have hxl : xs.length < N := by
          have h1 := congrArg List.length hxs
          have h2 := List.length_filter_le (fun pl => decide (patA p pl = q)) pre
          rw [List.length_map] at h1
          omega
        have hV6 : Below V.heap.size V w6 := below_after h5 h6
        have hglt := hbuf.lt
        have hkeep : ∀ V', Keep P w6 V' → (∀ r, Desk w2.heap.size r V → Desk w2.heap.size r V') ∧ (V.heap.size ≤ V'.heap.size ∧ V'.heap[g]? = V.heap[g]?) := fun V' h =>
          ⟨fun r hd => h.desk (hd.later hV6) (hk.zone _ (by omega) (by omega)) (hk.zone _ (by omega) (by omega)), Nat.le_trans hV6.size h.size, (h.block g (by omega) (hk.zone _ (by omega) (by omega))).trans (hV6.block g hglt)⟩
        have hall2 : AllIn p q (xs ++ [(.slice A6 pl.length c6, pl)]) := fun x hx => by
          rcases List.mem_append.1 hx with h | h
          · exact hall x h
          · rw [List.mem_singleton.1 h]; exact hin
        refine (round_any rfl (hY xs (.slice A6 pl.length c6, pl) w5 w6 ((unhide HBD).2.1 _ _ _ hJV (But.of_below h5)) (by omega) h6 ⟨hI, hin⟩ hxl)).mono ?_
        rintro e V' (⟨rfl, h1, h2⟩ | ⟨rfl, h1, h2⟩)
        · refine ⟨true, rfl, fun _ => ⟨(hkeep V' h2).1, (hkeep V' h2).2, xs ++ [(.slice A6 pl.length c6, pl)], ⟨h1, by rw [List.map_append, hxs, List.filter_append]; simp [hyes]⟩, ?_, hall2⟩, fun h => (by cases h)⟩
          have h6 := hAtV0.below hV6
          exact ⟨arg_kept h6.p h2.size fun k hkk => h2.block k (by have := h6.p.under; omega) (hk.p k hkk), arg_kept h6.q h2.size fun k hkk => h2.block k (by have := h6.q.under; omega) (hk.q k hkk), h2.boxed h6.bp hk.bp, h2.boxed h6.bq hk.bq, h2.boxed h6.by_ (hk.zone _ (by omega) (by omega))⟩
        · exact ⟨false, rfl, fun h => (by cases h), fun _ => ⟨(hkeep V' h2).1, (hkeep V' h2).2, xs ++ [(.slice A6 pl.length c6, pl)], h1, hall2⟩⟩)
      have HG := hide (⟨hg, hs3⟩ : g = w2.heap.size + 2 ∧ w2.heap.size = w.heap.size + 5)
      clear hseq hAtU hAtV hAtV0 hApl hJU hJV hbuf hxs hall hyes hg hs3 hY hpl
      gi_wp2_with fail
      refine region_round l2 rfl (by kernel_rfl) hmx ?_
      change wpAnyIn _ _ _ _ _ _ _ _ _ (World.drew _)
--REGION-YES
      refine wpAnyIn_take (i := 1) (v := .slice (some ⟨g, 0, none⟩) n' n') rfl rfl (by kernel_rfl) (by kernel_rfl) (by kernel_rfl) (fun _ _ _ h => h) ⟨Or.inl ⟨by rfl, fun w => by go_simp⟩, fun _ => rfl⟩ ?_
      simp only [Act.put]
      refine wpAnyIn_ready (rs := [0, 3]) (by kernel_rfl) (by simp) ?_
      refine AllReadyIn.cons rfl (fun K hK => ?_) (AllReadyIn.cons rfl (fun K hK => ?_) (AllReadyIn.nil))
      · skip
        go_simp
        refine hK _ _ ?_
        clear hK K
        refine wpAnyIn_ready (rs := [2, 3]) (by kernel_rfl) (by simp) ?_
        refine AllReadyIn.cons rfl (fun K hK => ?_) (AllReadyIn.cons rfl (fun K hK => ?_) (AllReadyIn.nil))
        · skip
          go_simp
          refine ⟨trivial, ?_⟩
          refine (callsIn_wide.2 (unhide H1)).mono ?_
          rintro e w4 ⟨A4, c4, rfl, o4, d4⟩
          have hq4 := unhide HQ w4 d4
          have H3 := hide (unhide H2 A4 c4 w4 o4 d4)
          refine hK _ _ ?_
          clear hK K
          refine wpAnyIn_ready (rs := [3]) (by kernel_rfl) (by simp) ?_
          refine AllReadyIn.cons rfl (fun K hK => ?_) (AllReadyIn.nil)
          go_simp
          refine hK _ _ ?_
          clear hK K
          refine wpAnyIn_ready (rs := [4]) (by kernel_rfl) (by simp) ?_
          refine AllReadyIn.cons rfl (fun K hK => ?_) (AllReadyIn.nil)
          go_simp
          refine ⟨trivial, ?_⟩
          refine (callsIn_wide.2 (unhide H3)).mono ?_
          rintro e w5 ⟨rfl, d5⟩
          have hb5 := d4.trans (d5.below _)
          have hy5 := unhide HY w5 hb5
          have H4 := hide (unhide HCL w5 hb5)
          refine hK _ _ ?_
          clear hK K
          refine wpAnyIn_take (i := 5) (v := .bool true) rfl rfl (by kernel_rfl) (by kernel_rfl) (by kernel_rfl) (fun _ _ _ h => h) ⟨Or.inl ⟨by rfl, fun w => by go_simp⟩, fun _ => rfl⟩ ?_
          simp only [Act.put]
          refine wpAnyIn_take (i := 7) (v := .slice (some ⟨g, 0, none⟩) n' n') rfl rfl (by kernel_rfl) (by kernel_rfl) (by kernel_rfl) (fun _ _ _ h => h) ⟨Or.inl ⟨by rfl, fun w => by go_simp⟩, fun _ => rfl⟩ ?_
          simp only [Act.put]
          refine wpAnyIn_ready (rs := [6, 8]) (by kernel_rfl) (by simp) ?_
          refine AllReadyIn.cons rfl (fun K hK => ?_) (AllReadyIn.cons rfl (fun K hK => ?_) (AllReadyIn.nil))
          · skip
            go_simp
            refine hK _ _ ?_
            clear hK K
            refine wpAnyIn_ready (rs := [8]) (by kernel_rfl) (by simp) ?_
            refine AllReadyIn.cons rfl (fun K hK => ?_) (AllReadyIn.nil)
            go_simp
            refine ⟨trivial, ?_⟩
            refine (callsIn_wide.2 (unhide H4)).mono ?_
            rintro e w6 ⟨A6, c6, rfl, o6, d6⟩
            have hy6 := unhide HY w6 (below_after hb5 d6)
            obtain ⟨fn, tmps, assign, body, hy, hR⟩ := unhide HYL w5 w6 A6 c6 ((below_drew V.heap.size V).trans hb5) d6 o6
            refine hK _ _ ?_
            clear hK K
            refine wpAnyIn_ready (rs := [9]) (by kernel_rfl) (by simp) ?_
            refine AllReadyIn.cons rfl (fun K hK => ?_) (AllReadyIn.nil)
            go_simp
            refine hR.mono ?_
            rintro e w7 ⟨b, rfl, ht, hf⟩
            refine hK _ _ ?_
            clear hK K
            refine wpAnyIn_take (i := 10) (v := .bool (!b)) rfl rfl (by kernel_rfl) (by kernel_rfl) (by kernel_rfl) (fun _ _ _ h => h) ⟨Or.inl ⟨by rfl, fun w => by go_simp⟩, fun _ => rfl⟩ ?_
            simp only [Act.put]
            refine wpAnyIn_take (i := 11) (v := .bool (!b)) rfl rfl (by kernel_rfl) (by kernel_rfl) (by kernel_rfl) (fun _ _ _ h => h) ⟨Or.inl ⟨by rfl, fun w => by go_simp⟩, fun _ => rfl⟩ ?_
            simp only [Act.put]
            refine wpAnyIn_done (by kernel_rfl) ?_ _
            cases b with
            | true =>
              have hend := ht rfl
              clear ht hf hR hy
              gi_wp2
              exact hend
            | false =>
              have hend := hf rfl
              clear ht hf hR hy
              gi_wp2
              exact ⟨hend.1, hend.2.1, rfl, hend.2.2⟩
          · skip
            go_simp
            refine ⟨trivial, ?_⟩
            refine (callsIn_wide.2 (unhide H4)).mono ?_
            rintro e w6 ⟨A6, c6, rfl, o6, d6⟩
            have hy6 := unhide HY w6 (below_after hb5 d6)
            obtain ⟨fn, tmps, assign, body, hy, hR⟩ := unhide HYL w5 w6 A6 c6 ((below_drew V.heap.size V).trans hb5) d6 o6
            refine hK _ _ ?_
            clear hK K
            refine wpAnyIn_ready (rs := [6]) (by kernel_rfl) (by simp) ?_
            refine AllReadyIn.cons rfl (fun K hK => ?_) (AllReadyIn.nil)
            go_simp
            refine hK _ _ ?_
            clear hK K
            refine wpAnyIn_ready (rs := [9]) (by kernel_rfl) (by simp) ?_
            refine AllReadyIn.cons rfl (fun K hK => ?_) (AllReadyIn.nil)
            go_simp
            refine hR.mono ?_
            rintro e w7 ⟨b, rfl, ht, hf⟩
            refine hK _ _ ?_
            clear hK K
            refine wpAnyIn_take (i := 10) (v := .bool (!b)) rfl rfl (by kernel_rfl) (by kernel_rfl) (by kernel_rfl) (fun _ _ _ h => h) ⟨Or.inl ⟨by rfl, fun w => by go_simp⟩, fun _ => rfl⟩ ?_
            simp only [Act.put]
            refine wpAnyIn_take (i := 11) (v := .bool (!b)) rfl rfl (by kernel_rfl) (by kernel_rfl) (by kernel_rfl) (fun _ _ _ h => h) ⟨Or.inl ⟨by rfl, fun w => by go_simp⟩, fun _ => rfl⟩ ?_
            simp only [Act.put]
            refine wpAnyIn_done (by kernel_rfl) ?_ _
            cases b with
            | true =>
              have hend := ht rfl
              clear ht hf hR hy
              gi_wp2
              exact hend
            | false =>
              have hend := hf rfl
              clear ht hf hR hy
              gi_wp2
              exact ⟨hend.1, hend.2.1, rfl, hend.2.2⟩
        · skip
          go_simp
          refine hK _ _ ?_
          clear hK K
          refine wpAnyIn_ready (rs := [2]) (by kernel_rfl) (by simp) ?_
          refine AllReadyIn.cons rfl (fun K hK => ?_) (AllReadyIn.nil)
          go_simp
          refine ⟨trivial, ?_⟩
          refine (callsIn_wide.2 (unhide H1)).mono ?_
          rintro e w4 ⟨A4, c4, rfl, o4, d4⟩
          have hq4 := unhide HQ w4 d4
          have H3 := hide (unhide H2 A4 c4 w4 o4 d4)
          refine hK _ _ ?_
          clear hK K
          refine wpAnyIn_ready (rs := [4]) (by kernel_rfl) (by simp) ?_
          refine AllReadyIn.cons rfl (fun K hK => ?_) (AllReadyIn.nil)
          go_simp
          refine ⟨trivial, ?_⟩
          refine (callsIn_wide.2 (unhide H3)).mono ?_
          rintro e w5 ⟨rfl, d5⟩
          have hb5 := d4.trans (d5.below _)
          have hy5 := unhide HY w5 hb5
          have H4 := hide (unhide HCL w5 hb5)
          refine hK _ _ ?_
          clear hK K
          refine wpAnyIn_take (i := 5) (v := .bool true) rfl rfl (by kernel_rfl) (by kernel_rfl) (by kernel_rfl) (fun _ _ _ h => h) ⟨Or.inl ⟨by rfl, fun w => by go_simp⟩, fun _ => rfl⟩ ?_
          simp only [Act.put]
          refine wpAnyIn_take (i := 7) (v := .slice (some ⟨g, 0, none⟩) n' n') rfl rfl (by kernel_rfl) (by kernel_rfl) (by kernel_rfl) (fun _ _ _ h => h) ⟨Or.inl ⟨by rfl, fun w => by go_simp⟩, fun _ => rfl⟩ ?_
          simp only [Act.put]
          refine wpAnyIn_ready (rs := [6, 8]) (by kernel_rfl) (by simp) ?_
          refine AllReadyIn.cons rfl (fun K hK => ?_) (AllReadyIn.cons rfl (fun K hK => ?_) (AllReadyIn.nil))
          · skip
            go_simp
            refine hK _ _ ?_
            clear hK K
            refine wpAnyIn_ready (rs := [8]) (by kernel_rfl) (by simp) ?_
            refine AllReadyIn.cons rfl (fun K hK => ?_) (AllReadyIn.nil)
            go_simp
            refine ⟨trivial, ?_⟩
            refine (callsIn_wide.2 (unhide H4)).mono ?_
            rintro e w6 ⟨A6, c6, rfl, o6, d6⟩
            have hy6 := unhide HY w6 (below_after hb5 d6)
            obtain ⟨fn, tmps, assign, body, hy, hR⟩ := unhide HYL w5 w6 A6 c6 ((below_drew V.heap.size V).trans hb5) d6 o6
            refine hK _ _ ?_
            clear hK K
            refine wpAnyIn_ready (rs := [9]) (by kernel_rfl) (by simp) ?_
            refine AllReadyIn.cons rfl (fun K hK => ?_) (AllReadyIn.nil)
            go_simp
            refine hR.mono ?_
            rintro e w7 ⟨b, rfl, ht, hf⟩
            refine hK _ _ ?_
            clear hK K
            refine wpAnyIn_take (i := 10) (v := .bool (!b)) rfl rfl (by kernel_rfl) (by kernel_rfl) (by kernel_rfl) (fun _ _ _ h => h) ⟨Or.inl ⟨by rfl, fun w => by go_simp⟩, fun _ => rfl⟩ ?_
            simp only [Act.put]
            refine wpAnyIn_take (i := 11) (v := .bool (!b)) rfl rfl (by kernel_rfl) (by kernel_rfl) (by kernel_rfl) (fun _ _ _ h => h) ⟨Or.inl ⟨by rfl, fun w => by go_simp⟩, fun _ => rfl⟩ ?_
            simp only [Act.put]
            refine wpAnyIn_done (by kernel_rfl) ?_ _
            cases b with
            | true =>
              have hend := ht rfl
              clear ht hf hR hy
              gi_wp2
              exact hend
            | false =>
              have hend := hf rfl
              clear ht hf hR hy
              gi_wp2
              exact ⟨hend.1, hend.2.1, rfl, hend.2.2⟩
          · skip
            go_simp
            refine ⟨trivial, ?_⟩
            refine (callsIn_wide.2 (unhide H4)).mono ?_
            rintro e w6 ⟨A6, c6, rfl, o6, d6⟩
            have hy6 := unhide HY w6 (below_after hb5 d6)
            obtain ⟨fn, tmps, assign, body, hy, hR⟩ := unhide HYL w5 w6 A6 c6 ((below_drew V.heap.size V).trans hb5) d6 o6
            refine hK _ _ ?_
            clear hK K
            refine wpAnyIn_ready (rs := [6]) (by kernel_rfl) (by simp) ?_
            refine AllReadyIn.cons rfl (fun K hK => ?_) (AllReadyIn.nil)
            go_simp
            refine hK _ _ ?_
            clear hK K
            refine wpAnyIn_ready (rs := [9]) (by kernel_rfl) (by simp) ?_
            refine AllReadyIn.cons rfl (fun K hK => ?_) (AllReadyIn.nil)
            go_simp
            refine hR.mono ?_
            rintro e w7 ⟨b, rfl, ht, hf⟩
            refine hK _ _ ?_
            clear hK K
            refine wpAnyIn_take (i := 10) (v := .bool (!b)) rfl rfl (by kernel_rfl) (by kernel_rfl) (by kernel_rfl) (fun _ _ _ h => h) ⟨Or.inl ⟨by rfl, fun w => by go_simp⟩, fun _ => rfl⟩ ?_
            simp only [Act.put]
            refine wpAnyIn_take (i := 11) (v := .bool (!b)) rfl rfl (by kernel_rfl) (by kernel_rfl) (by kernel_rfl) (fun _ _ _ h => h) ⟨Or.inl ⟨by rfl, fun w => by go_simp⟩, fun _ => rfl⟩ ?_
            simp only [Act.put]
            refine wpAnyIn_done (by kernel_rfl) ?_ _
            cases b with
            | true =>
              have hend := ht rfl
              clear ht hf hR hy
              gi_wp2
              exact hend
            | false =>
              have hend := hf rfl
              clear ht hf hR hy
              gi_wp2
              exact ⟨hend.1, hend.2.1, rfl, hend.2.2⟩
      · skip
        go_simp
        refine hK _ _ ?_
        clear hK K
        refine wpAnyIn_ready (rs := [0]) (by kernel_rfl) (by simp) ?_
        refine AllReadyIn.cons rfl (fun K hK => ?_) (AllReadyIn.nil)
        go_simp
        refine hK _ _ ?_
        clear hK K
        refine wpAnyIn_ready (rs := [2]) (by kernel_rfl) (by simp) ?_
        refine AllReadyIn.cons rfl (fun K hK => ?_) (AllReadyIn.nil)
        go_simp
        refine ⟨trivial, ?_⟩
        refine (callsIn_wide.2 (unhide H1)).mono ?_
        rintro e w4 ⟨A4, c4, rfl, o4, d4⟩
        have hq4 := unhide HQ w4 d4
        have H3 := hide (unhide H2 A4 c4 w4 o4 d4)
        refine hK _ _ ?_
        clear hK K
        refine wpAnyIn_ready (rs := [4]) (by kernel_rfl) (by simp) ?_
        refine AllReadyIn.cons rfl (fun K hK => ?_) (AllReadyIn.nil)
        go_simp
        refine ⟨trivial, ?_⟩
        refine (callsIn_wide.2 (unhide H3)).mono ?_
        rintro e w5 ⟨rfl, d5⟩
        have hb5 := d4.trans (d5.below _)
        have hy5 := unhide HY w5 hb5
        have H4 := hide (unhide HCL w5 hb5)
        refine hK _ _ ?_
        clear hK K
        refine wpAnyIn_take (i := 5) (v := .bool true) rfl rfl (by kernel_rfl) (by kernel_rfl) (by kernel_rfl) (fun _ _ _ h => h) ⟨Or.inl ⟨by rfl, fun w => by go_simp⟩, fun _ => rfl⟩ ?_
        simp only [Act.put]
        refine wpAnyIn_take (i := 7) (v := .slice (some ⟨g, 0, none⟩) n' n') rfl rfl (by kernel_rfl) (by kernel_rfl) (by kernel_rfl) (fun _ _ _ h => h) ⟨Or.inl ⟨by rfl, fun w => by go_simp⟩, fun _ => rfl⟩ ?_
        simp only [Act.put]
        refine wpAnyIn_ready (rs := [6, 8]) (by kernel_rfl) (by simp) ?_
        refine AllReadyIn.cons rfl (fun K hK => ?_) (AllReadyIn.cons rfl (fun K hK => ?_) (AllReadyIn.nil))
        · skip
          go_simp
          refine hK _ _ ?_
          clear hK K
          refine wpAnyIn_ready (rs := [8]) (by kernel_rfl) (by simp) ?_
          refine AllReadyIn.cons rfl (fun K hK => ?_) (AllReadyIn.nil)
          go_simp
          refine ⟨trivial, ?_⟩
          refine (callsIn_wide.2 (unhide H4)).mono ?_
          rintro e w6 ⟨A6, c6, rfl, o6, d6⟩
          have hy6 := unhide HY w6 (below_after hb5 d6)
          obtain ⟨fn, tmps, assign, body, hy, hR⟩ := unhide HYL w5 w6 A6 c6 ((below_drew V.heap.size V).trans hb5) d6 o6
          refine hK _ _ ?_
          clear hK K
          refine wpAnyIn_ready (rs := [9]) (by kernel_rfl) (by simp) ?_
          refine AllReadyIn.cons rfl (fun K hK => ?_) (AllReadyIn.nil)
          go_simp
          refine hR.mono ?_
          rintro e w7 ⟨b, rfl, ht, hf⟩
          refine hK _ _ ?_
          clear hK K
          refine wpAnyIn_take (i := 10) (v := .bool (!b)) rfl rfl (by kernel_rfl) (by kernel_rfl) (by kernel_rfl) (fun _ _ _ h => h) ⟨Or.inl ⟨by rfl, fun w => by go_simp⟩, fun _ => rfl⟩ ?_
          simp only [Act.put]
          refine wpAnyIn_take (i := 11) (v := .bool (!b)) rfl rfl (by kernel_rfl) (by kernel_rfl) (by kernel_rfl) (fun _ _ _ h => h) ⟨Or.inl ⟨by rfl, fun w => by go_simp⟩, fun _ => rfl⟩ ?_
          simp only [Act.put]
          refine wpAnyIn_done (by kernel_rfl) ?_ _
          cases b with
          | true =>
            have hend := ht rfl
            clear ht hf hR hy
            gi_wp2
            exact hend
          | false =>
            have hend := hf rfl
            clear ht hf hR hy
            gi_wp2
            exact ⟨hend.1, hend.2.1, rfl, hend.2.2⟩
        · skip
          go_simp
          refine ⟨trivial, ?_⟩
          refine (callsIn_wide.2 (unhide H4)).mono ?_
          rintro e w6 ⟨A6, c6, rfl, o6, d6⟩
          have hy6 := unhide HY w6 (below_after hb5 d6)
          obtain ⟨fn, tmps, assign, body, hy, hR⟩ := unhide HYL w5 w6 A6 c6 ((below_drew V.heap.size V).trans hb5) d6 o6
          refine hK _ _ ?_
          clear hK K
          refine wpAnyIn_ready (rs := [6]) (by kernel_rfl) (by simp) ?_
          refine AllReadyIn.cons rfl (fun K hK => ?_) (AllReadyIn.nil)
          go_simp
          refine hK _ _ ?_
          clear hK K
          refine wpAnyIn_ready (rs := [9]) (by kernel_rfl) (by simp) ?_
          refine AllReadyIn.cons rfl (fun K hK => ?_) (AllReadyIn.nil)
          go_simp
          refine hR.mono ?_
          rintro e w7 ⟨b, rfl, ht, hf⟩
          refine hK _ _ ?_
          clear hK K
          refine wpAnyIn_take (i := 10) (v := .bool (!b)) rfl rfl (by kernel_rfl) (by kernel_rfl) (by kernel_rfl) (fun _ _ _ h => h) ⟨Or.inl ⟨by rfl, fun w => by go_simp⟩, fun _ => rfl⟩ ?_
          simp only [Act.put]
          refine wpAnyIn_take (i := 11) (v := .bool (!b)) rfl rfl (by kernel_rfl) (by kernel_rfl) (by kernel_rfl) (fun _ _ _ h => h) ⟨Or.inl ⟨by rfl, fun w => by go_simp⟩, fun _ => rfl⟩ ?_
          simp only [Act.put]
          refine wpAnyIn_done (by kernel_rfl) ?_ _
          cases b with
          | true =>
            have hend := ht rfl
            clear ht hf hR hy
            gi_wp2
            exact hend
          | false =>
            have hend := hf rfl
            clear ht hf hR hy
            gi_wp2
            exact ⟨hend.1, hend.2.1, rfl, hend.2.2⟩
--END-YES
    · have hdec : decide (patA p pl = q) = false := by simpa using hyes
      have H2 := hide (show ∀ (A4 : Option Addr) (c4 : Nat) (w4 : World), Ints w4 V.drew.heap.size (.slice A4 (patA p pl).length c4) (patA p pl) → Below V.drew.heap.size V.drew w4 → Calls Tryd.prog 62 #[.slice A4 (patA p pl).length c4, .slice A' n' c'] w4 fun e w' => e = .returned (.bool false) ∧ Drew w4 w' from fun A4 c4 w4 h1 h2 =>
        eqsl_any A4 A' _ c4 _ n' c' B' (patA p pl) q false hdec w4 (h1.arg (by unfold patA; rw [patL_length, nums_length]; omega) h1.cap (patA_small hp (e1.symm ▸ hok))) (hAtV.q.below h2))
      have HQ := hide (show ∀ w4, Below V.drew.heap.size V.drew w4 → w4.cell? ⟨bq, 0, none⟩ = some (.slice A' n' c') from fun w4 h => Boxed.cell (boxed_later hAtV.bq h))
      have HEND := hide (show ∀ w5, Below V.heap.size V w5 → (∀ r, Desk w2.heap.size r V → Desk w2.heap.size r w5) ∧ (V.heap.size ≤ w5.heap.size ∧ w5.heap[g]? = V.heap[g]?) ∧ ∃ xs, (J xs w5 ∧ xs.map (·.2) = (pre ++ [pl]).filter (fun pl => decide (patA p pl = q))) ∧ AtO A A' n c B n' c' B' p q bp bq (w.heap.size + 2) l w5 ∧ AllIn p q xs from fun w5 h =>
        ⟨fun r hd => hd.later h, ⟨h.size, h.block g hbuf.lt⟩, ⟨xs, ⟨(unhide HBD).2.1 _ _ _ hJV (But.of_below h), by rw [List.filter_append, hxs]; simp [hyes]⟩, hAtV0.below h, hall⟩⟩)
      have HG := hide (⟨hg, hs3⟩ : g = w2.heap.size + 2 ∧ w2.heap.size = w.heap.size + 5)
      clear hseq hAtU hAtV hAtV0 hApl hJU hJV hbuf hxs hall hyes hg hs3
      gi_wp2_with fail
      refine region_round l2 rfl (by kernel_rfl) hmx ?_
      change wpAnyIn _ _ _ _ _ _ _ _ _ (World.drew _)
--REGION-NO
      refine wpAnyIn_take (i := 1) (v := .slice (some ⟨g, 0, none⟩) n' n') rfl rfl (by kernel_rfl) (by kernel_rfl) (by kernel_rfl) (fun _ _ _ h => h) ⟨Or.inl ⟨by rfl, fun w => by go_simp⟩, fun _ => rfl⟩ ?_
      simp only [Act.put]
      refine wpAnyIn_ready (rs := [0, 3]) (by kernel_rfl) (by simp) ?_
      refine AllReadyIn.cons rfl (fun K hK => ?_) (AllReadyIn.cons rfl (fun K hK => ?_) (AllReadyIn.nil))
      · skip
        go_simp
        refine hK _ _ ?_
        clear hK K
        refine wpAnyIn_ready (rs := [2, 3]) (by kernel_rfl) (by simp) ?_
        refine AllReadyIn.cons rfl (fun K hK => ?_) (AllReadyIn.cons rfl (fun K hK => ?_) (AllReadyIn.nil))
        · skip
          go_simp
          refine ⟨trivial, ?_⟩
          refine (callsIn_wide.2 (unhide H1)).mono ?_
          rintro e w4 ⟨A4, c4, rfl, o4, d4⟩
          have hq4 := unhide HQ w4 d4
          have H3 := hide (unhide H2 A4 c4 w4 o4 d4)
          refine hK _ _ ?_
          clear hK K
          refine wpAnyIn_ready (rs := [3]) (by kernel_rfl) (by simp) ?_
          refine AllReadyIn.cons rfl (fun K hK => ?_) (AllReadyIn.nil)
          go_simp
          refine hK _ _ ?_
          clear hK K
          refine wpAnyIn_ready (rs := [4]) (by kernel_rfl) (by simp) ?_
          refine AllReadyIn.cons rfl (fun K hK => ?_) (AllReadyIn.nil)
          go_simp
          refine ⟨trivial, ?_⟩
          refine (callsIn_wide.2 (unhide H3)).mono ?_
          rintro e w5 ⟨rfl, d5⟩
          refine hK _ _ ?_
          clear hK K
          refine wpAnyIn_take (i := 5) (v := .bool false) rfl rfl (by kernel_rfl) (by kernel_rfl) (by kernel_rfl) (fun _ _ _ h => h) ⟨Or.inl ⟨by rfl, fun w => by go_simp⟩, fun _ => rfl⟩ ?_
          simp only [Act.put]
          refine wpAnyIn_take (i := 6) (v := undef) rfl rfl (by kernel_rfl) (by kernel_rfl) (by kernel_rfl) (fun _ _ _ h => h) ⟨Or.inr ⟨by rfl, rfl⟩, fun _ => rfl⟩ ?_
          simp only [Act.put]
          refine wpAnyIn_take (i := 7) (v := undef) rfl rfl (by kernel_rfl) (by kernel_rfl) (by kernel_rfl) (fun _ _ _ h => h) ⟨Or.inr ⟨by rfl, rfl⟩, fun _ => rfl⟩ ?_
          simp only [Act.put]
          refine wpAnyIn_ready (rs := [8]) (by kernel_rfl) (by simp) ?_
          refine AllReadyIn.cons rfl (fun K hK => ?_) (AllReadyIn.nil)
          go_simp
          refine ⟨trivial, hK _ _ ?_⟩
          clear hK K
          refine wpAnyIn_ready (rs := [9]) (by kernel_rfl) (by simp) ?_
          refine AllReadyIn.cons rfl (fun K hK => ?_) (AllReadyIn.nil)
          go_simp
          first | refine hK _ _ ?_ | refine ⟨fun _ h => (by cases h), hK _ _ ?_⟩
          clear hK K
          refine wpAnyIn_ready (rs := [10]) (by kernel_rfl) (by simp) ?_
          refine AllReadyIn.cons rfl (fun K hK => ?_) (AllReadyIn.nil)
          go_simp
          refine hK _ _ ?_
          clear hK K
          refine wpAnyIn_take (i := 11) (v := .bool false) rfl rfl (by kernel_rfl) (by kernel_rfl) (by kernel_rfl) (fun _ _ _ h => h) ⟨Or.inl ⟨by rfl, fun w => by go_simp⟩, fun _ => rfl⟩ ?_
          simp only [Act.put]
          refine wpAnyIn_done (by kernel_rfl) ?_ _
          have hend := unhide HEND w5 (((below_drew V.heap.size V).trans d4).trans (d5.below _))
          gi_wp2
          exact hend
        · skip
          go_simp
          refine hK _ _ ?_
          clear hK K
          refine wpAnyIn_ready (rs := [2]) (by kernel_rfl) (by simp) ?_
          refine AllReadyIn.cons rfl (fun K hK => ?_) (AllReadyIn.nil)
          go_simp
          refine ⟨trivial, ?_⟩
          refine (callsIn_wide.2 (unhide H1)).mono ?_
          rintro e w4 ⟨A4, c4, rfl, o4, d4⟩
          have hq4 := unhide HQ w4 d4
          have H3 := hide (unhide H2 A4 c4 w4 o4 d4)
          refine hK _ _ ?_
          clear hK K
          refine wpAnyIn_ready (rs := [4]) (by kernel_rfl) (by simp) ?_
          refine AllReadyIn.cons rfl (fun K hK => ?_) (AllReadyIn.nil)
          go_simp
          refine ⟨trivial, ?_⟩
          refine (callsIn_wide.2 (unhide H3)).mono ?_
          rintro e w5 ⟨rfl, d5⟩
          refine hK _ _ ?_
          clear hK K
          refine wpAnyIn_take (i := 5) (v := .bool false) rfl rfl (by kernel_rfl) (by kernel_rfl) (by kernel_rfl) (fun _ _ _ h => h) ⟨Or.inl ⟨by rfl, fun w => by go_simp⟩, fun _ => rfl⟩ ?_
          simp only [Act.put]
          refine wpAnyIn_take (i := 6) (v := undef) rfl rfl (by kernel_rfl) (by kernel_rfl) (by kernel_rfl) (fun _ _ _ h => h) ⟨Or.inr ⟨by rfl, rfl⟩, fun _ => rfl⟩ ?_
          simp only [Act.put]
          refine wpAnyIn_take (i := 7) (v := undef) rfl rfl (by kernel_rfl) (by kernel_rfl) (by kernel_rfl) (fun _ _ _ h => h) ⟨Or.inr ⟨by rfl, rfl⟩, fun _ => rfl⟩ ?_
          simp only [Act.put]
          refine wpAnyIn_ready (rs := [8]) (by kernel_rfl) (by simp) ?_
          refine AllReadyIn.cons rfl (fun K hK => ?_) (AllReadyIn.nil)
          go_simp
          refine ⟨trivial, hK _ _ ?_⟩
          clear hK K
          refine wpAnyIn_ready (rs := [9]) (by kernel_rfl) (by simp) ?_
          refine AllReadyIn.cons rfl (fun K hK => ?_) (AllReadyIn.nil)
          go_simp
          first | refine hK _ _ ?_ | refine ⟨fun _ h => (by cases h), hK _ _ ?_⟩
          clear hK K
          refine wpAnyIn_ready (rs := [10]) (by kernel_rfl) (by simp) ?_
          refine AllReadyIn.cons rfl (fun K hK => ?_) (AllReadyIn.nil)
          go_simp
          refine hK _ _ ?_
          clear hK K
          refine wpAnyIn_take (i := 11) (v := .bool false) rfl rfl (by kernel_rfl) (by kernel_rfl) (by kernel_rfl) (fun _ _ _ h => h) ⟨Or.inl ⟨by rfl, fun w => by go_simp⟩, fun _ => rfl⟩ ?_
          simp only [Act.put]
          refine wpAnyIn_done (by kernel_rfl) ?_ _
          have hend := unhide HEND w5 (((below_drew V.heap.size V).trans d4).trans (d5.below _))
          gi_wp2
          exact hend
      · skip
        go_simp
        refine hK _ _ ?_
        clear hK K
        refine wpAnyIn_ready (rs := [0]) (by kernel_rfl) (by simp) ?_
        refine AllReadyIn.cons rfl (fun K hK => ?_) (AllReadyIn.nil)
        go_simp
        refine hK _ _ ?_
        clear hK K
        refine wpAnyIn_ready (rs := [2]) (by kernel_rfl) (by simp) ?_
        refine AllReadyIn.cons rfl (fun K hK => ?_) (AllReadyIn.nil)
        go_simp
        refine ⟨trivial, ?_⟩
        refine (callsIn_wide.2 (unhide H1)).mono ?_
        rintro e w4 ⟨A4, c4, rfl, o4, d4⟩
        have hq4 := unhide HQ w4 d4
        have H3 := hide (unhide H2 A4 c4 w4 o4 d4)
        refine hK _ _ ?_
        clear hK K
        refine wpAnyIn_ready (rs := [4]) (by kernel_rfl) (by simp) ?_
        refine AllReadyIn.cons rfl (fun K hK => ?_) (AllReadyIn.nil)
        go_simp
        refine ⟨trivial, ?_⟩
        refine (callsIn_wide.2 (unhide H3)).mono ?_
        rintro e w5 ⟨rfl, d5⟩
        refine hK _ _ ?_
        clear hK K
        refine wpAnyIn_take (i := 5) (v := .bool false) rfl rfl (by kernel_rfl) (by kernel_rfl) (by kernel_rfl) (fun _ _ _ h => h) ⟨Or.inl ⟨by rfl, fun w => by go_simp⟩, fun _ => rfl⟩ ?_
        simp only [Act.put]
        refine wpAnyIn_take (i := 6) (v := undef) rfl rfl (by kernel_rfl) (by kernel_rfl) (by kernel_rfl) (fun _ _ _ h => h) ⟨Or.inr ⟨by rfl, rfl⟩, fun _ => rfl⟩ ?_
        simp only [Act.put]
        refine wpAnyIn_take (i := 7) (v := undef) rfl rfl (by kernel_rfl) (by kernel_rfl) (by kernel_rfl) (fun _ _ _ h => h) ⟨Or.inr ⟨by rfl, rfl⟩, fun _ => rfl⟩ ?_
        simp only [Act.put]
        refine wpAnyIn_ready (rs := [8]) (by kernel_rfl) (by simp) ?_
        refine AllReadyIn.cons rfl (fun K hK => ?_) (AllReadyIn.nil)
        go_simp
        refine ⟨trivial, hK _ _ ?_⟩
        clear hK K
        refine wpAnyIn_ready (rs := [9]) (by kernel_rfl) (by simp) ?_
        refine AllReadyIn.cons rfl (fun K hK => ?_) (AllReadyIn.nil)
        go_simp
        first | refine hK _ _ ?_ | refine ⟨fun _ h => (by cases h), hK _ _ ?_⟩
        clear hK K
        refine wpAnyIn_ready (rs := [10]) (by kernel_rfl) (by simp) ?_
        refine AllReadyIn.cons rfl (fun K hK => ?_) (AllReadyIn.nil)
        go_simp
        refine hK _ _ ?_
        clear hK K
        refine wpAnyIn_take (i := 11) (v := .bool false) rfl rfl (by kernel_rfl) (by kernel_rfl) (by kernel_rfl) (fun _ _ _ h => h) ⟨Or.inl ⟨by rfl, fun w => by go_simp⟩, fun _ => rfl⟩ ?_
        simp only [Act.put]
        refine wpAnyIn_done (by kernel_rfl) ?_ _
        have hend := unhide HEND w5 (((below_drew V.heap.size V).trans d4).trans (d5.below _))
        gi_wp2
        exact hend
--END-NO
  case done =>
    rintro pls V rfl ⟨xs, ⟨hJV, hxs⟩, hAtV, hall⟩ hK
    rw [← e1, ← e2, unhide HFI] at hxs
    have hJD := (unhide HBD).2.1 _ _ _ hJV (But.putObj V (k := w2.heap.size) (by omega) (by omega) (.deferred none))
    gi_wp2
    refine ⟨by simp, .inl ⟨_, _, rfl, run_takeDeferred hK, ?_⟩⟩
    refine ⟨_, results_none rfl _ _ _, ?_⟩
    exact ⟨⟨_, rfl⟩, .inl ⟨xs, hxs, hJD⟩⟩
  case stop =>
    rintro c pre V _ ⟨rfl, xs, hJV, hall⟩ hK
    have hJD := (unhide HBD).2.2 _ _ _ hJV (But.putObj V (k := w2.heap.size) (by omega) (by omega) (.deferred none))
    gi_wp2
    refine ⟨by simp, .inl ⟨_, _, rfl, run_takeDeferred hK, ?_⟩⟩
    refine ⟨_, results_none rfl _ _ _, ?_⟩
    exact ⟨⟨_, rfl⟩, .inr ⟨xs, hall, hJD⟩⟩
end Go.Proofs.YtichenjbkclljaaDoor


/-
  impl.CountNear: a loop over the occurrences that counts those whose joined places are side by side.
-/

namespace Go.Proofs.YtichenjbkclljaaDoor
set_option maxRecDepth 100000
open Go.RowKit Go.Shelf
attribute [local go_sem] Oper.semAt_some

theorem chR_room_all8 : ∀ n, n < 9 → ∀ k, k < 9 → (chR n k).length ≤ 256 := by decide +kernel
theorem chR_room8 {n k : Nat} (hn : n ≤ 8) (hk : k ≤ 8) : (chR n k).length ≤ 256 := chR_room_all8 n (by omega) k (by omega)
/-- How many of these fit. -/
def fitN (J : List Int) (xs : List (Value × List Int)) : Nat := (xs.filter fun x => fitJ J x.2).length
theorem fitN_snoc_yes {J : List Int} {xs : List (Value × List Int)} {x : Value × List Int} (h : fitJ J x.2 = true) : fitN J (xs ++ [x]) = fitN J xs + 1 := by unfold fitN; simp [h]
theorem fitN_snoc_no {J : List Int} {xs : List (Value × List Int)} {x : Value × List Int} (h : fitJ J x.2 = false) : fitN J (xs ++ [x]) = fitN J xs := by unfold fitN; simp [h]
theorem fitN_le (J : List Int) (xs : List (Value × List Int)) : fitN J xs ≤ xs.length := List.length_filter_le _ _
theorem fitN_all {J p q : List Int} {xs : List (Value × List Int)} (h : xs.map (·.2) = occR p q) : fitN J xs = (nearR p q J).length := by
  unfold fitN nearR
  rw [← h, List.filter_map, List.length_map]
  rfl
theorem occ_small {p q pl : List Int} (h : pl ∈ occR p q) : pl.length = q.length ∧ ∀ x ∈ pl, 1 ≤ x ∧ x ≤ 8 := by
  obtain ⟨hp, _, h1, h2, _⟩ := isOcc_iff.1 (mem_occ.1 h)
  have := isP_le hp
  exact ⟨h1, fun x hx => by have := h2.1 x hx; omega⟩
set_option maxRecDepth 100000 in
set_option maxHeartbeats 4000000 in
theorem cntn_yes (A A' P : Option Addr) (n c B n' c' B' m d B2 : Nat) (p q J : List Int) (w : World) (h : Arg w B A n c p) (h' : Arg w B' A' n' c' q) (h2 : Arg w B2 P m d J) (hp : isP p = true) (hok : nearOK q J = true) :
    Calls Tryd.prog 6 #[.slice A n c, .agg #[.slice A' n' c', .slice P m d]] w (GivesN w ((nearR p q J).length : Nat)) := by
  obtain ⟨hq, hJ⟩ := nearOK_iff.1 hok
  have hl' := h'.len
  have hn8 : n ≤ 8 := by have := isP_le hp; have := h.len; omega
  have hn8' : n' ≤ 8 := by have := isP_le hq; omega
  have hBu := h.under
  have hBu' := h'.under
  have hJ8 : ∀ x ∈ J, 0 ≤ x ∧ x ≤ 8 := fun x hx => by have := hJ.1 x hx; omega
  obtain ⟨w0, hw0⟩ : ∃ w0, w0 = w.alloc (.cells #[.slice A' n' c', .slice P m d] 26) := ⟨_, rfl⟩
  have b0 : Below w.heap.size w w0 := by rw [hw0]; exact (Below.refl _ w).alloc (Nat.le_refl _) _
  have g0 : Whole w0 w.heap.size 26 #[.slice A' n' c', .slice P m d] := by rw [hw0]; exact Whole.new _ _ _
  have H1 := hide (iisperm_any A n c B p true hp w0 (h.below b0).reads (h.below b0).under h.le h.small)
  have H2 := hide (show ∀ w1, Below w.heap.size w w1 → _ from fun w1 d1 => inear_any A' P n' c' B' m d B2 q J w1 (h'.below d1) (h2.below d1))
  have H3 := hide (show ∀ w2, Below w.heap.size w w2 → _ from fun w2 d2 => jots_any P m d B2 J w2 (h2.below d2) hJ8)
  have H4 := hide (fun w2 => iocs_made A A' n c n' c' w2)
  rw [hok] at H2
  have HT := hide (show ∀ w5, Below w.heap.size w w5 → ∀ bc, bc + 1 = w5.heap.size → w.heap.size < bc → TellsZ Fence.wide 3 Tryd.prog 60 #[.pointer (some ⟨w5.heap.size, 0, none⟩), .pointer (some ⟨w5.heap.size + 1, 0, none⟩)] 6 (fun x : Value × List Int => #[x.1]) (KnO p q)
      (Keep (fun k => k < bc + 11 ∧ k ≠ bc ∧ k ≠ bc + 3 ∧ k ≠ bc + 4)) (fun xs => xs.map (·.2) = occR p q) (AllIn p q) 256 ((w5.alloc (.cells #[.slice A n c] 24)).alloc (.cells #[.slice A' n' c'] 24)) from fun w2 d2 bc hbc hlt => by
    have d3 : Below w2.heap.size w2 ((w2.alloc (.cells #[.slice A n c] 24)).alloc (.cells #[.slice A' n' c'] 24)) := ((Below.refl _ w2).alloc (Nat.le_refl _) _).alloc (by simp) _
    have b2 := Boxed.new (w2.alloc (.cells #[.slice A n c] 24)) 24 (.slice A' n' c')
    rw [World.size_alloc] at b2
    exact occ_tell A A' n c B n' c' B' p q hp hq _ w2.heap.size (w2.heap.size + 1) 256 _ (h.below (below_after d2 d3)) (h'.below (below_after d2 d3)) (Boxed.alloc (Boxed.new w2 _ _) _) b2
      ⟨fun k hk => by omega, fun k hk => by omega, by omega, by omega, fun k h1 h2 => by simp at h1 h2; omega⟩ 3 (chR_room8 hn8 hn8'))
  have HF := hide (show ∀ (V : World) (u : Value) (zs : List Int) (B9 : Nat), Ints V B9 u zs → zs ∈ occR p q → ∃ A9 c9, u = .slice A9 n' c9 ∧ Calls Tryd.prog 30 #[.int .u64 (jB J : Nat), .slice A9 n' c9] V fun e w' => e = .returned (.bool (fitJ J zs)) ∧ Drew V w' from fun V u zs B9 hI hin => by
    obtain ⟨A9, c9, rfl⟩ := hI.slice
    obtain ⟨e1, e2⟩ := occ_small hin
    have e3 : zs.length = n' := e1.trans hl'
    have ha := hI.arg (by omega) hI.cap fun z hz => by have := e2 z hz; omega
    rw [e3] at ha
    exact ⟨A9, c9, by rw [e3], jfit_any A9 n' c9 _ zs J V ha (by rw [← hl']; exact hJ) e2 hn8'⟩)
  refine (callsIn_wide (n := 4)).1 ?_
  refine callsIn_of_wp_marks Tryd.func6 rfl trivial ?_ rfl
  simp only [Tryd.ntmps6, List.size_toArray, List.length_cons, List.length_nil, Nat.reduceAdd, Nat.reduceSub, Array.replicate_succ, Array.replicate_zero, List.push_toArray, List.append_toArray, List.nil_append, List.cons_append]
  have HW0 := hide hw0
  clear h h' h2 hp hq hok hJ hJ8 hBu hBu' hl' hw0
  gi_wp2_with fail
  rw [← unhide HW0]
  refine ⟨trivial, ?_⟩
  refine (callsIn_wide.2 (unhide H1)).mono ?_
  rintro e w1 ⟨rfl, d1⟩
  have d1' := below_after b0 d1
  have g1 := g0.below d1 g0.lt
  have x0 := g1.cell 0
  have x1 := g1.cell 1
  simp only [List.getElem?_toArray, List.getElem?_cons_zero, List.getElem?_cons_succ] at x0 x1
  have HX := hide (unhide H2 w1 d1')
  clear H1 H2 g0 b0 d1 HW0
  gi_wp2_with fail
  refine ⟨trivial, ?_⟩
  refine (callsIn_wide.2 (unhide HX)).mono ?_
  rintro e w2 ⟨rfl, d2⟩
  have d2' := below_after d1' d2
  have g2 := g1.below d2 g1.lt
  have y0 := g2.cell 0
  have y1 := g2.cell 1
  simp only [List.getElem?_toArray, List.getElem?_cons_zero, List.getElem?_cons_succ] at y0 y1
  have HY := hide (unhide H3 w2 d2')
  clear HX H3 d1' d2 g1 x0 x1
  gi_wp2_with fail
  refine ⟨trivial, ?_⟩
  refine (callsIn_wide.2 (unhide HY)).mono ?_
  rintro e w3 ⟨rfl, d3⟩
  have d3' := d2'.trans (d3.below _)
  have g3 : Whole w3 w.heap.size 26 #[.slice A' n' c', .slice P m d] := g2.below (d3.below (w.heap.size + 1)) (Nat.lt_succ_self _)
  obtain ⟨bj, hbj⟩ : ∃ b, b = w3.heap.size := ⟨_, rfl⟩
  have hbjw : w.heap.size < bj := by have := g3.lt; omega
  obtain ⟨s, hs⟩ : ∃ s, s = jB J := ⟨_, rfl⟩
  obtain ⟨w5, hw5⟩ : ∃ w5, w5 = (w3.alloc (.cells #[.int .u64 (s : Nat)] 47)).alloc (.cells #[.int .i64 0] 3) := ⟨_, rfl⟩
  have hs5 : w5.heap.size = bj + 2 := by rw [hw5]; simp [hbj]
  have b35 : Below w3.heap.size w3 w5 := by rw [hw5]; exact ((Below.refl _ w3).alloc (Nat.le_refl _) _).alloc (by simp) _
  have d5 := below_after d3' b35
  have g5 := g3.below b35 g3.lt
  have cj5 : Boxed w5 bj 47 (.int .u64 (s : Nat)) := by rw [hw5, hbj]; exact Boxed.alloc (Boxed.new w3 _ _) _
  have cc5 : Boxed w5 (bj + 1) 3 (.int .i64 0) := by
    have := Boxed.new (w3.alloc (.cells #[.int .u64 (s : Nat)] 47)) 3 (.int .i64 0)
    rw [World.size_alloc, ← hbj] at this
    rw [hw5]; exact this
  have z0 := g5.cell 0
  simp only [List.getElem?_toArray, List.getElem?_cons_zero] at z0
  rw [hw5] at z0
  have HS := hide hs
  have HW5 := hide hw5
  have HG5 := hide (⟨d5, cj5, cc5, hs5⟩ : Below w.heap.size w w5 ∧ Boxed w5 bj 47 (.int .u64 (s : Nat)) ∧ Boxed w5 (bj + 1) 3 (.int .i64 0) ∧ w5.heap.size = bj + 2)
  have HBJ := hide hbj
  rw [← hs]
  clear HY d2' g2 y0 y1 d3 d3' g3 b35 d5 g5 cj5 cc5 hs5 hw5 hs hbj
  gi_wp2_with fail
  refine ⟨trivial, ?_⟩
  refine (callsIn_wide.2 (unhide H4 _)).mono ?_
  rintro e w6 ⟨rfl, hw6⟩
  rw [← unhide HW5] at hw6
  obtain ⟨d5, cj5, cc5, hs5⟩ := unhide HG5
  have hseq := unhide HT w5 d5 (bj + 1) (by omega) (by omega)
  rw [← unhide HW5, ← unhide HBJ, hs5]
  rw [← hw6, hs5] at hseq
  have hs6 : w6.heap.size = bj + 4 := by rw [hw6]; simp [hs5]
  have cj6 : Boxed w6 bj 47 (.int .u64 (s : Nat)) := by rw [hw6]; exact Boxed.alloc (Boxed.alloc cj5 _) _
  have cc6 : Boxed w6 (bj + 1) 3 (.int .i64 0) := by rw [hw6]; exact Boxed.alloc (Boxed.alloc cc5 _) _
  have d6 : Below w.heap.size w w6 := below_after d5 (by rw [hw6]; exact ((Below.refl _ w5).alloc (Nat.le_refl _) _).alloc (by simp) _)
  rw [unhide HS] at cj6
  rw [unhide HS]
  clear H4 HT HW5 HBJ HG5 hw6 d5 cj5 cc5 hs5 z0 HS
  gi_wp2
  refine range_zone rfl (by decide) (gf := 60) (lb := #[.pointer (some ⟨bj + 2, 0, none⟩), .pointer (some ⟨bj + 2 + 1, 0, none⟩)]) rfl trivial (enters_of Tryd.func60 (by kernel_rfl) rfl)
    hseq (fun h k => h.trans k) (fun W r r' hd => Keep.putObj W (by omega) _) (fun _ => rfl) (fun U V x r r' hdU hdV h => ⟨kn_row _ U V x r r' hdU hdV h.1, h.2⟩)
    (fun pre V => Boxed V bj 47 (.int .u64 (jB J : Nat)) ∧ Boxed V (bj + 1) 3 (.int .i64 (fitN J pre : Nat)) ∧ Below w.heap.size w V ∧ bj + 4 ≤ V.heap.size)
    (fun _ _ _ => False)
    (fun pre U V h hb' => ⟨Boxed.but h.1 hb' (by omega), Boxed.but h.2.1 hb' (by omega), h.2.2.1.trans (hb'.below (by omega) (by have := h.2.2.2; omega)), Nat.le_trans h.2.2.2 hb'.size⟩)
    (fun _ _ _ _ h _ => h)
    ⟨cj6, cc6, d6, by omega⟩
    (fun x => { tmps := #[.slice A n c, .agg #[.slice A' n' c', .slice P m d], undef, .pointer (some ⟨w.heap.size, 0, none⟩), .int .i64 0, .pointer (some ⟨bj, 0, none⟩), .pointer (some ⟨bj + 1, 0, none⟩), x.1, .slice A n c, .bool true, .bool false, .bool false,
      .agg #[.slice A' n' c', .slice P m d], .bool true, .bool false, .bool false, .pointer (some ⟨w.heap.size, 1, none⟩), .slice P m d, .int .u64 (jB J : Nat), .slice A n c, .pointer (some ⟨w.heap.size, 0, none⟩), .slice A' n' c',
      .func (.func 60) #[] #[.pointer (some ⟨bj + 2, 0, none⟩), .pointer (some ⟨bj + 2 + 1, 0, none⟩)], x.1, undef, undef, undef, undef, undef, undef], defers := [] }) ?assign ?body ?done ?stop
  case assign =>
    intro l x W K hK
    gi_wp2
    exact hK
  case body =>
    rintro l pre ⟨u, zs⟩ U W ⟨hjU, hcU, hBU, hsU⟩ hzU hbU ⟨hkn, hin⟩ hlen
    dsimp only at hkn hin ⊢
    obtain ⟨A9, c9, rfl, HF9⟩ := unhide HF W u zs _ hkn hin
    have HC := hide HF9
    have hj := boxed_later hjU hbU
    have hc := boxed_later hcU hbU
    have hBW := below_after hBU hbU
    have hsW := Nat.le_trans hsU hbU.size
    obtain ⟨bf, hbf⟩ : ∃ b, fitJ J zs = b := ⟨_, rfl⟩
    rw [hbf] at HC
    have hcj := hj.cell
    have hle := fitN_le J pre
    have HI := hide (⟨hj, hc, hBW, hsW⟩ : Boxed W bj 47 (.int .u64 (jB J : Nat)) ∧ Boxed W (bj + 1) 3 (.int .i64 (fitN J pre : Nat)) ∧ Below w.heap.size w W ∧ bj + 4 ≤ W.heap.size)
    have HFY := hide (show bf = true → fitN J (pre ++ [((.slice A9 n' c9 : Value), zs)]) = fitN J pre + 1 from fun h => fitN_snoc_yes (by rw [← h]; exact hbf))
    have HFN := hide (show bf = false → fitN J (pre ++ [((.slice A9 n' c9 : Value), zs)]) = fitN J pre from fun h => fitN_snoc_no (by rw [← h]; exact hbf))
    have HS6 := hide hs6
    clear hj hc hBW hsW hjU hcU hBU hsU hkn hin HF9 hbf hseq d6 cj6 cc6 hs6
    gi_wp2_with fail
    refine ⟨trivial, ?_⟩
    refine ((callsIn_wide.2 (unhide HC)).inRound l).mono ?_
    rintro e W2 ⟨rfl, dW⟩
    obtain ⟨hj, hc, hBW, hsW⟩ := unhide HI
    have dW' := dW.below W.heap.size
    have hj2 := boxed_later hj dW'
    have hc2 := boxed_later hc dW'
    have hB2 := hBW.trans (dW.below w.heap.size)
    have hs2 : bj + 4 ≤ W2.heap.size := by rw [dW.size]; exact hsW
    cases bf with
    | false =>
      have hend : (∀ r, Desk w6.heap.size r W → Desk w6.heap.size r W2) ∧ Keep (fun k => k < bj + 1 + 11 ∧ k ≠ bj + 1 ∧ k ≠ bj + 1 + 3 ∧ k ≠ bj + 1 + 4) W W2 ∧ Boxed W2 bj 47 (.int .u64 (jB J : Nat)) ∧ Boxed W2 (bj + 1) 3 (.int .i64 (fitN J (pre ++ [((.slice A9 n' c9 : Value), zs)]) : Nat)) ∧ Below w.heap.size w W2 ∧ bj + 4 ≤ W2.heap.size :=
        ⟨fun r hd => hd.later dW', Keep.of_below dW', hj2, by rw [unhide HFN rfl]; exact hc2, hB2, hs2⟩
      have HEND := hide hend
      clear hend hj hc hBW hsW dW dW' hj2 hc2 hB2 hs2 HI HFY HFN HC
      gi_wp2
      exact unhide HEND
    | true =>
      have hcell := hc2.cell
      have hfz := hc2.frozen
      have hg := grownBy_setCell' W2 (bj + 1) (.int .i64 ((fitN J pre : Nat) + 1))
      have hg1 := hg.size
      have h6 := unhide HS6
      have hend : (∀ r, Desk w6.heap.size r W → Desk w6.heap.size r (W2.setCell ⟨bj + 1, 0, none⟩ (.int .i64 ((fitN J pre : Nat) + 1)))) ∧ Keep (fun k => k < bj + 1 + 11 ∧ k ≠ bj + 1 ∧ k ≠ bj + 1 + 3 ∧ k ≠ bj + 1 + 4) W (W2.setCell ⟨bj + 1, 0, none⟩ (.int .i64 ((fitN J pre : Nat) + 1))) ∧ Boxed (W2.setCell ⟨bj + 1, 0, none⟩ (.int .i64 ((fitN J pre : Nat) + 1))) bj 47 (.int .u64 (jB J : Nat)) ∧
          Boxed (W2.setCell ⟨bj + 1, 0, none⟩ (.int .i64 ((fitN J pre : Nat) + 1))) (bj + 1) 3 (.int .i64 (fitN J (pre ++ [((.slice A9 n' c9 : Value), zs)]) : Nat)) ∧ Below w.heap.size w (W2.setCell ⟨bj + 1, 0, none⟩ (.int .i64 ((fitN J pre : Nat) + 1))) ∧ bj + 4 ≤ (W2.setCell ⟨bj + 1, 0, none⟩ (.int .i64 ((fitN J pre : Nat) + 1))).heap.size :=
        ⟨fun r hd => by
          have hd2 := hd.later dW'
          exact ⟨(hg.block _ hd2.lt (by simp; omega)).trans hd2.rec_, (hg.block _ (by have := hd2.lt; omega) (by simp; omega)).trans hd2.marks⟩,
         (Keep.of_below dW').trans (Keep.setCell W2 (by omega) _), (hg.block _ hj2.lt (by simp)).trans hj2, by rw [unhide HFY rfl]; exact Boxed.set _ hc2, hB2.setCell (p := ⟨bj + 1, 0, none⟩) (by show w.heap.size ≤ bj + 1; omega) _, by omega⟩
      have hwr : IntKind.i64.wrap ((fitN J pre : Nat) + 1) = ((fitN J pre : Nat) : Int) + 1 := by rw [IntKind.wrap_i64]; omega
      have HEND := hide hend
      clear hend hj hc hBW hsW dW dW' hj2 hc2 hB2 hs2 HI HFY HFN HC hg hg1 h6
      gi_wp2
      exact unhide HEND
  case done =>
    rintro ys W hS ⟨hj, hc, hB, hs⟩ hK
    have hcell := hc.cell
    rw [fitN_all hS] at hcell
    have hBP : Below w.heap.size w (W.putObj w6.heap.size (.deferred none)) := hB.trans ((Below.refl _ W).grown (grownBy_putObj' W _ _) (by omega) (fun k e => by cases e; omega))
    have HS6 := hide hs6
    clear hj hc hs6 hseq d6 cj6 cc6 hB
    gi_wp2
    refine ⟨by simp, .inl ⟨_, _, rfl, run_takeDeferred hK, ?_⟩⟩
    refine ⟨_, results_tmp rfl _ _ _, ?_⟩
    exact ⟨rfl, hBP⟩
  case stop =>
    rintro c pre W _ h _
    exact h.elim
set_option maxHeartbeats 800000 in
theorem icntn_any (A A' P : Option Addr) (n c B n' c' B' m d B2 : Nat) (p q J : List Int) (w : World) (h : Arg w B A n c p) (h' : Arg w B' A' n' c' q) (h2 : Arg w B2 P m d J) :
    Calls Tryd.prog 6 #[.slice A n c, .agg #[.slice A' n' c', .slice P m d]] w (GivesN w (numNear p q J)) := by
  obtain ⟨bp, hp⟩ : ∃ b, isP p = b := ⟨_, rfl⟩
  obtain ⟨bn, hok⟩ : ∃ b, nearOK q J = b := ⟨_, rfl⟩
  cases bp with
  | false =>
    obtain ⟨w0, hw0⟩ : ∃ w0, w0 = w.alloc (.cells #[.slice A' n' c', .slice P m d] 26) := ⟨_, rfl⟩
    have b0 : Below w.heap.size w w0 := by rw [hw0]; exact (Below.refl _ w).alloc (Nat.le_refl _) _
    have H1 := hide (iisperm_any A n c B p false hp w0 (h.below b0).reads (h.below b0).under h.le h.small)
    rw [numNear_no (.inl hp)]
    have HW0 := hide hw0
    clear h h' h2 hp hok hw0
    go_enter Tryd.func6, Tryd.ntmps6
    go_wp2_with fail
    rw [← unhide HW0]
    refine (unhide H1).mono ?_
    rintro e w1 ⟨rfl, d1⟩
    have d := below_after b0 d1
    clear H1 HW0 b0 d1
    go_wp2
    go_ret
    exact ⟨rfl, d⟩
  | true =>
    cases bn with
    | true =>
      rw [numNear_yes hp hok]
      exact cntn_yes A A' P n c B n' c' B' m d B2 p q J w h h' h2 hp hok
    | false =>
      obtain ⟨w0, hw0⟩ : ∃ w0, w0 = w.alloc (.cells #[.slice A' n' c', .slice P m d] 26) := ⟨_, rfl⟩
      have b0 : Below w.heap.size w w0 := by rw [hw0]; exact (Below.refl _ w).alloc (Nat.le_refl _) _
      have g0 : Whole w0 w.heap.size 26 #[.slice A' n' c', .slice P m d] := by rw [hw0]; exact Whole.new _ _ _
      have H1 := hide (iisperm_any A n c B p true hp w0 (h.below b0).reads (h.below b0).under h.le h.small)
      have H2 := hide (show ∀ w1, Below w.heap.size w w1 → _ from fun w1 d1 => inear_any A' P n' c' B' m d B2 q J w1 (h'.below d1) (h2.below d1))
      rw [hok] at H2
      rw [numNear_no (.inr hok)]
      have HW0 := hide hw0
      clear h h' h2 hp hok hw0
      go_enter Tryd.func6, Tryd.ntmps6
      go_wp2_with fail
      rw [← unhide HW0]
      refine (unhide H1).mono ?_
      rintro e w1 ⟨rfl, d1⟩
      have d1' := below_after b0 d1
      have g1 := g0.below d1 g0.lt
      have x0 := g1.cell 0
      have x1 := g1.cell 1
      simp only [List.getElem?_toArray, List.getElem?_cons_zero, List.getElem?_cons_succ] at x0 x1
      have HX := hide (unhide H2 w1 d1')
      clear H1 H2 HW0 b0 d1 g0 g1
      go_wp2_with fail
      refine (unhide HX).mono ?_
      rintro e w2 ⟨rfl, d2⟩
      have d := below_after d1' d2
      clear HX d1' d2
      go_wp2
      go_ret
      exact ⟨rfl, d⟩
end Go.Proofs.YtichenjbkclljaaDoor


/-
  spec.IdentityPerm and impl.IdentityPerm, by their contracts.
-/

namespace Go.Proofs.YtichenjbkclljaaDoor
set_option maxRecDepth 100000
open Go.RowKit

theorem Ints.of_whole {w : World} {g B n c : Nat} {t : TypeId} (ht : t ≠ 24) {l : List Int} (hg : Whole w g t (arr l)) (hB : B ≤ g) (hn : n ≤ l.length) (hnc : n ≤ c) : Ints w B (.slice (some ⟨g, 0, none⟩) n c) (l.take n) := by
  have hl : (l.take n).length = n := by rw [List.length_take]; omega
  unfold Ints
  rw [hl]
  refine ⟨by rw [i64_length, hl], .inr ⟨g, c, arr l, t, rfl, hB, hg, ⟨hnc, by rw [arr_size]; exact hn⟩, ?_, ht⟩⟩
  unfold arr i64s
  rw [List.map_take]

set_option maxRecDepth 100000 in
theorem iid_any (m : Int) (hm : -9223372036854775808 ≤ m ∧ m ≤ 9223372036854775807) (w : World) :
    Calls Tryd.prog 44 #[.int .i64 m] w (GivesI w (idR m)) := by
  obtain ⟨hm1, hm2⟩ := hm
  by_cases h1 : 1 ≤ m
  · by_cases h8 : m ≤ 8
    · rw [idR_yes h1 h8]
      obtain ⟨n, rfl⟩ : ∃ n : Nat, m = (n : Int) := ⟨m.toNat, by omega⟩
      have hn8 : n ≤ 8 := by omega
      have hn1 : 1 ≤ n := by omega
      clear hm1 hm2 h1 h8
      rw [Int.toNat_natCast]
      have H1 := hide (asc_any n hn8 w)
      go_enter Tryd.func44, Tryd.ntmps44
      go_wp2_with fail
      refine (unhide H1).mono ?_
      rintro e w1 ⟨rfl, hb⟩
      clear H1
      have hs1 := hb.size
      obtain ⟨wa, hwa⟩ : ∃ wa, wa = w1.alloc (.cells (arr (ascL 0)) 79) := ⟨_, rfl⟩
      have hg0 : Whole wa w1.heap.size 79 (arr (ascL 0)) := by rw [hwa]; exact Whole.new w1 _ _
      have hba : Below w.heap.size w wa := by rw [hwa]; exact hb.alloc hs1 _
      have hg1 : Whole (wa.setRow w1.heap.size (arr (ascL n))) w1.heap.size 79 (arr (ascL n)) := setRow_heap _ _ _ _ _ _ hg0
      rw [hwa] at hg0
      have hb2 := below_set_row hba w1.heap.size (arr (ascL n)) hs1
      have HW := hide hwa
      clear hwa hba
      go_wp2_with (first
        | (refine wpList_store_row rfl 79 (.tmp 3) (.tmp 11) rfl w1.heap.size (arr (ascL n)) rfl rfl 79 (arr (ascL 0)) hg0 (by rw [arr_size, ascL_length]; exact permInfo) (by rw [arr_size, arr_size, ascL_length, ascL_length]) (arr_one _) ?_))
      go_ret
      have hI := Ints.of_whole (B := w.heap.size) (c := n) (by decide) hg1 hs1 (n := n) (by rw [ascL_length]; exact hn8) (Nat.le_refl _)
      rw [upTo_asc hn8, unhide HW, ← zeros_asc] at hI
      rw [unhide HW, ← zeros_asc] at hb2
      have h := GivesI.mk hI hb2
      exact h
    · have h8' : 8 < m := by omega
      rw [idR_no (by omega)]
      go_enter Tryd.func44, Tryd.ntmps44
      go_wp2
      go_ret
      exact GivesI.mk (v := .slice none 0 0) (Ints.nil _ _) (Below.refl _ _)
  · have h1' : m < 1 := by omega
    rw [idR_no (by omega)]
    go_enter Tryd.func44, Tryd.ntmps44
    go_wp2
    go_ret
    exact GivesI.mk (v := .slice none 0 0) (Ints.nil _ _) (Below.refl _ _)
end Go.Proofs.YtichenjbkclljaaDoor
