/-
  Words and contracts that the laws lean on, bundled: Draw9, MeshX, DrawM, DrawN, MeshF, Boxs, PatA, FitI, Tell.
-/
import Derived.Test.YtnnpefgbneldiaaB6
import Derived.Test.YtnnpefgbneldiaaB10
import Derived.Test.YtnnpefgbneldiaaB8
import Derived.Test.YtnnpefgbneldiaaB9
import Derived.Test.YtnnpefgbneldiaaB3
import Derived.Deep.RegionLaw
import Derived.Deep.RegionHeld3
import Derived.Test.YtnnpefgbneldiaaB7
import Derived.Maps.OwnSet
import Derived.Maps.Views
import Derived.DeepKeys4
import Derived.Shelf.SlMaps.Clone
import Derived.Test.YtnnpefgbneldiaaB2
import Derived.Maps.OwnOps
import Derived.RangeFuncNested
import Derived.RangeFuncBound
import Derived.RangeFuncCalls
import Derived.RangeFuncLeaves

/-
  THE DRAWS OF CHAPTER 9: spec.DrawCanShade, by its contract.
-/

namespace Go.Proofs.Ytnnpefgbneldiaa
set_option maxRecDepth 100000
open Go.RowKit

theorem Fresh.drawn {w w' : World} {B cb : Nat} {v u : Value} {zss : List (List Int)} (h : Fresh w B v zss u) (hg : w.grownBy w' (some cb)) (hc : cb < B) : Fresh w' B v zss u := by
  obtain ⟨vs, h1, h2, h3⟩ := h
  exact ⟨vs, own_drawn h1 hg hc, h2.drawn hg hc, h3⟩
/-- A struct of a row and a list of rows stands in a block while it is drawn. -/
structure At9 (w w1 : World) (B cb g : Nat) (A : Option Addr) (c : Nat) (q : List Int) (P : Option Addr) (d : Nat) (S : List (List Int)) (wr : World) : Prop where
  x : Whole wr g 47 #[.slice A q.length c, .slice P S.length d]
  f : Fresh wr (g + 1) (.slice P S.length d) S (.slice A q.length c)
  r : Whole wr w.heap.size 47 #[.slice none 0 0, .slice none 0 0]
  p : Ints wr w1.heap.size (.slice A q.length c) q
  u : Until g (.slice A q.length c)
  s : Side B cb w1 wr
  g : w1.heap.size ≤ g
  k : w.heap.size < cb
section
variable {w w1 wr w' : World} {B cb g c d : Nat} {A P : Option Addr} {q : List Int} {S : List (List Int)}
theorem At9.drawn (h : At9 w w1 B cb g A c q P d S wr) (hc : Cur w' B cb) (hg : wr.grownBy w' (some cb)) : At9 w w1 B cb g A c q P d S w' := by
  have h1 := h.s.lt
  have h2 := h.g
  have h3 := h.k
  exact ⟨h.x.grown hg (fun e => by injection e with e; omega), h.f.drawn hg (by omega), h.r.grown hg (fun e => by injection e with e; omega), h.p.drawn hg h1, h.u, h.s.drawn hc hg, h.g, h.k⟩
theorem At9.push {P' : Option Addr} {d' : Nat} {S' : List (List Int)} (h : At9 w w1 B cb g A c q P d S wr) (hb : Below (g + 1) wr w') (hf : Fresh w' (g + 1) (.slice P' S'.length d') S' (.slice A q.length c)) :
    At9 w w1 B cb g A c q P' d' S' (w'.setCell ⟨g, 1, none⟩ (.slice P' S'.length d')) := by
  have h1 := h.s.lt
  have h2 := h.g
  have h3 := h.k
  refine ⟨(h.x.below hb (Nat.lt_succ_self g)).put 1 _, hf.aside (p := ⟨g, 1, none⟩) (Nat.lt_succ_self g) _, (h.r.below hb (by omega)).far (p := ⟨g, 1, none⟩) (by simp; omega) _, ?_, h.u, ?_, h.g, h.k⟩
  · exact (ints_under h.p h.u hb).kept (grownBy_setCellA w' ⟨g, 1, none⟩ (.slice P' S'.length d')) (away_block h.u)
  · exact h.s.low ((hb.mono (by omega)).setCell (p := ⟨g, 1, none⟩) (by show w1.heap.size ≤ g; omega) _)
theorem At9.stored (h : At9 w w1 B cb g A c q P d S wr) : Whole ((wr.setCell ⟨w.heap.size, 0, none⟩ (.slice A q.length c)).setCell ⟨w.heap.size, 1, none⟩ (.slice P S.length d)) g 47 #[.slice A q.length c, .slice P S.length d] := by
  have h1 := h.s.lt
  have h2 := h.g
  have h3 := h.k
  exact (h.x.far (p := ⟨w.heap.size, 0, none⟩) (by simp; omega) _).far (p := ⟨w.heap.size, 1, none⟩) (by simp; omega) _
/-- A struct that CanShade takes, with two numbers. -/
def DrewM2 (w : World) (e : Ending) (w' : World) : Prop :=
  ∃ A c P d q S, ∃ x y : Int, e = .returned (.tuple #[.agg #[.slice A q.length c, .slice P S.length d], .int .i64 x, .int .i64 y]) ∧ Lite 9 q ∧ (S = [] ∨ ∃ a b : Int, S = [[a, b]] ∧ (0 ≤ a ∧ a ≤ 1) ∧ 0 ≤ b ∧ b ≤ 1) ∧ (-1 ≤ x ∧ x ≤ 3) ∧ (0 ≤ y ∧ y ≤ 2) ∧ InfAt w' w.heap.size (.slice A q.length c) (.slice P S.length d) q S ∧ Below w.heap.size w w'
theorem At9.done {x y : Int} (h : At9 w w1 B cb g A c q P d S wr) (hb : Below w.heap.size w w1) (hq : Lite 9 q) (hS : S = [] ∨ ∃ a b : Int, S = [[a, b]] ∧ (0 ≤ a ∧ a ≤ 1) ∧ 0 ≤ b ∧ b ≤ 1) (hx : -1 ≤ x ∧ x ≤ 3) (hy : 0 ≤ y ∧ y ≤ 2) :
    DrewM2 w (.returned (.tuple #[.agg #[.slice A q.length c, .slice P S.length d], .int .i64 x, .int .i64 y])) ((wr.setCell ⟨w.heap.size, 0, none⟩ (.slice A q.length c)).setCell ⟨w.heap.size, 1, none⟩ (.slice P S.length d)) := by
  have h1 := h.s.lt
  have h2 := h.g
  have h3 := h.k
  have hI : InfAt wr w1.heap.size (.slice A q.length c) (.slice P S.length d) q S := ⟨h.p, h.f.low (by omega)⟩
  have hl : w.heap.size < w1.heap.size := by omega
  exact ⟨A, c, P, d, q, S, x, y, rfl, hq, hS, hx, hy, ((hI.aside (p := ⟨w.heap.size, 0, none⟩) hl _).aside (p := ⟨w.heap.size, 1, none⟩) hl _).low (by omega),
    ((h.s.under hb (by omega)).setCell (p := ⟨w.heap.size, 0, none⟩) (Nat.le_refl _) _).setCell (p := ⟨w.heap.size, 1, none⟩) (Nat.le_refl _) _⟩
end
theorem results_cell_tmp2 {P : Program} {fn : Func} {p u v : Tmp} {ty : TypeId} (h : fn.results = #[.cell p ty, .tmp u, .tmp v]) (tmps : Array Value) (w : World) (g : Nat) (t : TypeId) (cs : Array Value) (fr : Nat × Nat) (d : TypeDesc)
    (hp : tmps.getD p undef = .pointer (some ⟨g, 0, none⟩)) (hg : w.heap[g]? = some (.cells cs t fr))
    (hu : P.underlying ty = some d) (hd : (match d with | .struct _ | .array _ _ => true | _ => false) = true) (hi : (P.info? ty).map (·.size) = some cs.size) :
    (results fn tmps).run P w = .ok (.tuple #[.agg cs, tmps.getD u undef, tmps.getD v undef]) w := by
  have e : (results fn tmps).run P w = ((asAddr (tmps.getD p undef)).run P w).andThen fun a w₁ => ((loadVar ty a).run P w₁).andThen fun x w₂ => .ok (.tuple #[x, tmps.getD u undef, tmps.getD v undef]) w₂ := by
    simp only [results, h]
    simp [Sem.run_bind, Result.andThen]
  rw [e, hp]
  simp [asAddr, Result.andThen, run_loadVar_row w g t ty cs fr d hg hu hd hi]
theorem bitI_two (b : Bool) : 0 ≤ bitI b ∧ bitI b ≤ 1 := by cases b <;> decide
end Go.Proofs.Ytnnpefgbneldiaa


/-
  PLAIN: the boxes turned, in order. Nothing here speaks of the program.
-/

namespace Go.Proofs.Ytnnpefgbneldiaa
set_option maxRecDepth 100000
theorem swapB_two (x y : Int) : swapB [x, y] = [y, x] := rfl
/-- The boxes turned, in order. -/
def turnS (S : List (List Int)) : List (List Int) := ordL (S.map swapB) S.length
def miQ (q : List Int) (S : List (List Int)) : List Int := if meshOK q S then invL q else []
def miS (q : List Int) (S : List (List Int)) : List (List Int) := if meshOK q S then turnS S else []
theorem mi_no {q : List Int} {S : List (List Int)} (h : meshOK q S = false) : miQ q S = [] ∧ miS q S = [] := ⟨by unfold miQ; rw [h]; rfl, by unfold miS; rw [h]; rfl⟩
theorem mi_yes {q : List Int} {S : List (List Int)} (h : meshOK q S = true) : miQ q S = invL q ∧ miS q S = turnS S := ⟨by unfold miQ; rw [h]; rfl, by unfold miS; rw [h]; rfl⟩
theorem turnS_mem {S : List (List Int)} {x : List Int} : x ∈ turnS S ↔ ∃ s ∈ S, swapB s = x := by
  unfold turnS
  rw [ordL_mem, List.take_of_length_le (by simp), List.mem_map]
theorem turnS_asc (S : List (List Int)) : Asc (turnS S) := ordL_asc _ _
/-- What a mesh's boxes are. -/
structure BoxL (n : Nat) (S : List (List Int)) : Prop where
  two : ∀ s ∈ S, ∃ x y, s = [x, y] ∧ (0 ≤ x ∧ x ≤ (n : Int)) ∧ (0 ≤ y ∧ y ≤ (n : Int))
  asc : Asc S
theorem asc_of_steps : ∀ {S : List (List Int)}, (∀ i, i + 1 < S.length → befL (S.getD i []) (S.getD (i + 1) []) = true) → Asc S
  | [], _ => List.Pairwise.nil
  | [a], _ => List.pairwise_singleton _ _
  | a :: b :: r, h => by
    have h1 : Asc (b :: r) := asc_of_steps fun i hi => by
      have := h (i + 1) (by simpa using hi)
      simpa using this
    have h0 := h 0 (by simp)
    simp at h0
    refine List.pairwise_cons.2 ⟨fun x hx => ?_, h1⟩
    rcases List.mem_cons.1 hx with rfl | hx
    · exact h0
    · exact befL_trans h0 ((List.pairwise_cons.1 h1).1 x hx)
theorem boxL_of {n : Nat} {S : List (List Int)} (h : boxesK n S S.length = true) : BoxL n S := by
  refine ⟨fun s hs => ?_, asc_of_steps fun i hi => boxesK_bef h hi⟩
  obtain ⟨k, hk⟩ := List.getElem?_of_mem hs
  have := boxesK_box h (List.getElem?_eq_some_iff.1 hk).1
  rw [getD_of hk] at this
  unfold boxOK at this
  simp only [Bool.and_eq_true, decide_eq_true_eq] at this
  obtain ⟨⟨h2, hx⟩, hy⟩ := this
  match s, h2 with
  | [x, y], _ => exact ⟨x, y, rfl, hx, hy⟩
theorem boxL_mesh {q : List Int} {S : List (List Int)} (h : meshOK q S = true) : BoxL q.length S := boxL_of (meshOK_iff.1 h).2.2
theorem asc_nodup' {S : List (List Int)} (h : Asc S) : S.Nodup := h.imp fun hab e => by rw [e, befL_irrefl] at hab; cases hab
theorem swap_inj {n : Nat} {S : List (List Int)} (h : BoxL n S) {a b : List Int} (ha : a ∈ S) (hb : b ∈ S) (e : swapB a = swapB b) : a = b := by
  obtain ⟨x, y, rfl, _⟩ := h.two a ha
  obtain ⟨u, v, rfl, _⟩ := h.two b hb
  rw [swapB_two, swapB_two] at e
  simp only [List.cons.injEq, and_true] at e
  rw [e.1, e.2]
/-- A list of the boxes turned in which none stands behind a later one is that in order. -/
theorem turnS_sorted {n : Nat} {S ys : List (List Int)} (h : BoxL n S) (hp : ys.Perm (S.map swapB)) (hs : ∀ (i j : Nat) (x y : List Int), i < j → ys[i]? = some x → ys[j]? = some y → befL y x = false) : ys = turnS S := by
  have hnd : ys.Nodup := by
    rw [hp.nodup_iff, List.nodup_iff_pairwise_ne, List.pairwise_map]
    exact (List.Pairwise.imp_of_mem (fun ha hb hne e => hne (swap_inj h ha hb e)) (List.nodup_iff_pairwise_ne.1 (asc_nodup' h.asc)))
  have ha : Asc ys := by
    unfold Asc
    rw [List.pairwise_iff_getElem]
    intro i j hi hj hij
    refine befL_of_ne (hs i j _ _ hij (List.getElem?_eq_getElem hi) (List.getElem?_eq_getElem hj)) fun e => ?_
    exact (List.pairwise_iff_getElem.1 (List.nodup_iff_pairwise_ne.1 hnd)) i j hi hj hij e
  refine asc_unique ha (turnS_asc S) fun x => ?_
  rw [hp.mem_iff, turnS_mem, List.mem_map]
theorem turnS_len (S : List (List Int)) : (turnS S).length ≤ S.length := by
  have := ordL_len (S.map swapB) S.length
  rwa [List.length_map] at this
theorem turnS_two {n : Nat} {S : List (List Int)} (h : BoxL n S) : ∀ z ∈ turnS S, ∃ x y, z = [x, y] ∧ (0 ≤ x ∧ x ≤ (n : Int)) ∧ (0 ≤ y ∧ y ≤ (n : Int)) := fun z hz => by
  obtain ⟨s, hs, rfl⟩ := turnS_mem.1 hz
  obtain ⟨x, y, rfl, hx, hy⟩ := h.two s hs
  exact ⟨y, x, rfl, hy, hx⟩
/-- All boxes over n numbers. -/
def gridB (n : Nat) : List (List Int) := (List.range (n + 1)).flatMap fun (x : Nat) => (List.range (n + 1)).map fun (y : Nat) => [(x : Int), (y : Int)]
theorem gridB_len : ∀ n, n ≤ 4 → (gridB n).length ≤ 25 := by decide +kernel
theorem boxL_few {n : Nat} {S : List (List Int)} (h : BoxL n S) (hn : n ≤ 4) : S.length ≤ 25 := by
  refine Nat.le_trans (inject_le (fun x => x) (asc_nodup' h.asc) (m := gridB n) (fun s hs => ?_) fun x _ y _ e => e) (gridB_len n hn)
  obtain ⟨x, y, rfl, hx, hy⟩ := h.two s hs
  unfold gridB
  refine List.mem_flatMap.2 ⟨x.toNat, List.mem_range.2 (by omega), List.mem_map.2 ⟨y.toNat, List.mem_range.2 (by omega), ?_⟩⟩
  rw [show ((x.toNat : Nat) : Int) = x by omega, show ((y.toNat : Nat) : Int) = y by omega]
theorem mi_sizes (q : List Int) (S : List (List Int)) (_h : S.length ≤ 1048576) : (miQ q S).length ≤ 1048576 ∧ (miS q S).length ≤ 1048576 ∧ tot (miS q S) ≤ 1048576 := by
  by_cases h : meshOK q S = true
  · obtain ⟨e1, e2⟩ := mi_yes h
    have hb := boxL_mesh h
    have h4 := (meshOK_iff.1 h).2.1
    have h25 := boxL_few hb h4
    have hlen := turnS_len S
    have ht := tot_pairs (zss := turnS S) fun z hz => by obtain ⟨x, y, rfl, _⟩ := turnS_two hb z hz; rfl
    rw [e1, e2, invL_length, ht]
    omega
  · obtain ⟨e1, e2⟩ := mi_no (q := q) (S := S) (by simpa using h)
    rw [e1, e2]
    simp [tot]
end Go.Proofs.Ytnnpefgbneldiaa


/-
  THE DRAWS OF CHAPTER 9: spec.l9Draw, spec.DrawCountMesh, by their contracts.
-/

namespace Go.Proofs.Ytnnpefgbneldiaa
set_option maxRecDepth 100000
open Go.RowKit

/-- Few short rows. -/
def LiteS (S : List (List Int)) : Prop := S.length ≤ 20 ∧ ∀ z ∈ S, z.length ≤ 2 ∧ Small z
theorem liteS_nil : LiteS [] := ⟨by simp, fun z hz => by cases hz⟩
theorem pair_small {a b : Int} (ha : -1000 ≤ a ∧ a ≤ 1000) (hb : -1000 ≤ b ∧ b ≤ 1000) : Small [a, b] := fun z hz => by
  simp at hz
  rcases hz with rfl | rfl <;> omega
def Rows2 (S : List (List Int)) : Prop := ∀ z ∈ S, z.length ≤ 2 ∧ Small z
theorem Rows2.snoc {S : List (List Int)} {z : List Int} (h : Rows2 S) (hz : z.length ≤ 2 ∧ Small z) : Rows2 (S ++ [z]) := fun y hy => by
  rcases List.mem_append.1 hy with hy | hy
  · exact h y hy
  · rw [List.mem_singleton] at hy; rw [hy]; exact hz
/-- A drawn struct of a row and a list of rows. -/
def DrawnM (B cb : Nat) (w : World) (e : Ending) (w' : World) : Prop :=
  ∃ A c q P d S, e = .returned (.agg #[.slice A q.length c, .slice P S.length d]) ∧ Lite 9 q ∧ LiteS S ∧ InfAt w' w.heap.size (.slice A q.length c) (.slice P S.length d) q S ∧ Cur w' B cb ∧ w.grownBy w' (some cb)
/-- What stands while it is drawn. -/
structure MAt (w : World) (B cb g : Nat) (A : Option Addr) (c : Nat) (q : List Int) (P : Option Addr) (d : Nat) (S : List (List Int)) (wr : World) : Prop where
  x : Whole wr g 47 #[.slice A q.length c, .slice P S.length d]
  f : Fresh wr (g + 1) (.slice P S.length d) S (.slice A q.length c)
  r : Whole wr w.heap.size 47 #[.slice none 0 0, .slice none 0 0]
  p : Ints wr (w.heap.size + 1) (.slice A q.length c) q
  u : Until g (.slice A q.length c)
  s : Side B cb w wr
  g : w.heap.size < g
section
variable {w wr w' : World} {B cb g c d : Nat} {A P : Option Addr} {q : List Int} {S : List (List Int)}
theorem MAt.drawn (h : MAt w B cb g A c q P d S wr) (hc : Cur w' B cb) (hg : wr.grownBy w' (some cb)) : MAt w B cb g A c q P d S w' := by
  have h1 := h.s.lt
  have h2 := h.g
  exact ⟨h.x.grown hg (fun e => by injection e with e; omega), h.f.drawn hg (by omega), h.r.grown hg (fun e => by injection e with e; omega), h.p.drawn hg (by omega), h.u, h.s.drawn hc hg, h.g⟩
theorem MAt.push {P' : Option Addr} {d' : Nat} {S' : List (List Int)} (h : MAt w B cb g A c q P d S wr) (hb : Below (g + 1) wr w') (hf : IntsS w' (g + 1) (.slice P' S'.length d') S') :
    MAt w B cb g A c q P' d' S' (w'.setCell ⟨g, 1, none⟩ (.slice P' S'.length d')) := by
  have h1 := h.s.lt
  have h2 := h.g
  refine ⟨(h.x.below hb (Nat.lt_succ_self g)).put 1 _, (Fresh.of_under hf h.u).aside (p := ⟨g, 1, none⟩) (Nat.lt_succ_self g) _, (h.r.below hb (by omega)).far (p := ⟨g, 1, none⟩) (by simp; omega) _, ?_, h.u, ?_, h.g⟩
  · exact (ints_under h.p h.u hb).kept (grownBy_setCellA w' ⟨g, 1, none⟩ (.slice P' S'.length d')) (away_block h.u)
  · exact h.s.low ((hb.mono (by omega)).setCell (p := ⟨g, 1, none⟩) (by show w.heap.size ≤ g; omega) _)
theorem MAt.inf (h : MAt w B cb g A c q P d S wr) : InfAt wr (w.heap.size + 1) (.slice A q.length c) (.slice P S.length d) q S := ⟨h.p, h.f.low (by have := h.g; omega)⟩
theorem mesh_done (hI : InfAt wr (w.heap.size + 1) (.slice A q.length c) (.slice P S.length d) q S) (hs : Side B cb w wr) (hq : Lite 9 q) (hS : LiteS S) :
    DrawnM B cb w (.returned (.agg #[.slice A q.length c, .slice P S.length d])) ((wr.setCell ⟨w.heap.size, 0, none⟩ (.slice A q.length c)).setCell ⟨w.heap.size, 1, none⟩ (.slice P S.length d)) := by
  have hl : w.heap.size < w.heap.size + 1 := Nat.lt_succ_self _
  have hS2 := hs.low (((Below.refl w.heap.size wr).setCell (p := ⟨w.heap.size, 0, none⟩) (Nat.le_refl _) (.slice A q.length c)).setCell (p := ⟨w.heap.size, 1, none⟩) (Nat.le_refl _) (.slice P S.length d))
  exact ⟨A, c, q, P, d, S, rfl, hq, hS, ((hI.aside (p := ⟨w.heap.size, 0, none⟩) hl _).aside (p := ⟨w.heap.size, 1, none⟩) hl _).low (Nat.le_succ _), hS2.cur, hS2.gr⟩
end
set_option maxHeartbeats 1600000 in
theorem l9draw_any (B cb : Nat) (w : World) (hc : Cur w B cb) : Calls Try.prog 73 #[.pointer (some ⟨cb, 0, none⟩)] w (DrawnM B cb w) := by
  obtain ⟨w0, hw0⟩ : ∃ w0, w0 = w.alloc (.cells #[.slice none 0 0, .slice none 0 0] 47) := ⟨_, rfl⟩
  have hR0 : Whole w0 w.heap.size 47 #[.slice none 0 0, .slice none 0 0] := by rw [hw0]; exact Whole.new _ _ _
  have hs0 : w0.heap.size = w.heap.size + 1 := by rw [hw0]; simp
  have b0 : Below w.heap.size w w0 := by rw [hw0]; exact (Below.refl _ w).alloc (Nat.le_refl _) _
  have hal := (Below.refl w0.heap.size w0).alloc (Nat.le_refl _) (.cells ([0, 1, 2, 2, 3, 3].map (Value.int .i64)).toArray 3)
  have hS := ((Side.start hc).below b0).below hal
  have hcl := hc.lt
  have hne : w.heap.size + 1 ≠ cb := by omega
  have hblk : Blk (w0.alloc (.cells ([0, 1, 2, 2, 3, 3].map (Value.int .i64)).toArray 3)) (w.heap.size + 1) 3 ([0, 1, 2, 2, 3, 3].map (Value.int .i64)).toArray := by
    have := Blk.new w0 3 ([0, 1, 2, 2, 3, 3].map (Value.int .i64)).toArray
    rwa [hs0] at this
  have H1 := hide (pickInt_any B cb (w.heap.size + 1) 6 6 [0, 1, 2, 2, 3, 3] _ hS.cur hblk hne rfl (by omega) (by omega))
  have hR1 := hR0.below hal (by omega)
  simp only [List.map_cons, List.map_nil] at hS H1 hR1
  rw [hw0] at H1
  have HW0 := hide hw0
  clear hal hc hR0 b0 hw0 hblk
  go_enter Try.func73, Try.ntmps73
  go_wp2_with fail
  refine (unhide H1).mono ?_
  rintro e w1 ⟨v, rfl, ⟨x, hx, rfl⟩, hc1, hg1⟩
  rw [← unhide HW0] at hg1
  have hx4 : 0 ≤ x ∧ x ≤ 3 := by
    simp only [List.mem_cons, List.not_mem_nil, or_false] at hx
    omega
  obtain ⟨m, rfl⟩ : ∃ m : Nat, x = m := ⟨x.toNat, by omega⟩
  have hm : m ≤ 3 := by omega
  have hS1 := hS.drawn hc1 hg1
  have hR1' := hR1.grown hg1 (fun e => by injection e with e; omega)
  have H2 := hide (l2draw_any B cb m (by omega) w1 hc1)
  have hs2 := hg1.size
  clear H1 hx hx4 hS hc1 hg1 hR1
  go_wp2_with fail
  refine (unhide H2).mono ?_
  rintro e w2 ⟨A2, c2, q, rfl, hl, hown, hc2, hg2⟩
  have hS2 := hS1.drawn hc2 hg2
  have hR2 := hR1'.grown hg2 (fun e => by injection e with e; omega)
  have hI2 : Ints w2 w1.heap.size (.slice A2 q.length c2) q := Ints.of_own hown
  have hs3 := hg2.size
  have hw1s : w.heap.size + 1 ≤ w1.heap.size := by simp at hs2; omega
  obtain ⟨g, hg⟩ : ∃ g, g = w2.heap.size := ⟨_, rfl⟩
  obtain ⟨w3, hw3⟩ : ∃ w3, w3 = w2.alloc (.cells #[.slice A2 q.length c2, .slice none 0 0] 47) := ⟨_, rfl⟩
  have b23 : Below w2.heap.size w2 w3 := by rw [hw3]; exact (Below.refl _ w2).alloc (Nat.le_refl _) _
  have hAt : MAt w B cb g A2 c2 q none 0 [] w3 := by
    have hxw : Whole w3 w2.heap.size 47 #[.slice A2 q.length c2, .slice none 0 0] := by rw [hw3]; exact Whole.new _ _ _
    exact ⟨by rw [hg]; exact hxw, Fresh.nil_ _ _ _, hR2.below b23 hR2.lt, (hI2.below b23).low hw1s, by rw [hg]; exact hI2.until_, hS2.below b23, by omega⟩
  have hql : q.length ≤ 3 := by have := hl.1; omega
  have HQ := hide hl.2
  have HW3 := hide hw3
  have HG := hide hg
  obtain ⟨N, hN⟩ : ∃ N, N = q.length := ⟨_, rfl⟩
  have HN := hide hN
  rw [← hN] at hql
  clear H2 hl hc2 hg2 hS1 hS2 hR1' hR2 hI2 hown b23 hw3 hg HW0 hs0 hs2 hs3 hw1s hN
  go_wp2
  rw [← unhide HW3, ← unhide HG]
  clear HW3 HG
  go_loopw [4, 5] (fun i _ wr => ∃ (k : Nat) (P : Option Addr) (d : Nat) (S : List (List Int)), k ≤ N + 1 ∧ i = .int .i64 k ∧ S.length ≤ k * 4 ∧ Hid (Rows2 S) ∧ MAt w B cb g A2 c2 q P d S wr) (fun i _ _ => N + 1 - (intOf i).toNat)
  case atStart => exact ⟨0, none, 0, [], Nat.zero_le _, rfl, Nat.zero_le _, hide (fun z hz => by cases hz), hAt⟩
  case round =>
    obtain ⟨k, P, d, S, hk, rfl, hSk, hS2, hA⟩ := hrel
    clear hAt
    have x0 := hA.x.cell 0
    have x1 := hA.x.cell 1
    have xl := hA.x.lt
    simp only [List.getElem?_toArray, List.getElem?_cons_zero, List.getElem?_cons_succ] at x0 x1
    rw [← unhide HN] at x0
    by_cases hlt : k ≤ N
    · have hlt' : (k : Int) ≤ (N : Int) := by omega
      have HA := hide hA
      clear hA
      obtain ⟨wo, rfl⟩ : ∃ wo : World, wo = wr := ⟨_, rfl⟩
      go_wp2
      clear x0 x1 xl
      go_loopw [5] (fun i wr => ∃ (y : Nat) (P : Option Addr) (d : Nat) (S : List (List Int)), y ≤ N + 1 ∧ i = .int .i64 y ∧ S.length ≤ k * 4 + y ∧ Hid (Rows2 S) ∧ MAt w B cb g A2 c2 q P d S wr) (fun i _ => N + 1 - (intOf i).toNat)
      case atStart => exact ⟨0, P, d, S, Nat.zero_le _, rfl, hSk, hS2, unhide HA⟩
      case round =>
        clear HA hS2 hSk P d S
        obtain ⟨y, P, d, S, hy, rfl, hSk, hS2, hA⟩ := hrel
        have x0 := hA.x.cell 0
        have x1 := hA.x.cell 1
        have xl := hA.x.lt
        simp only [List.getElem?_toArray, List.getElem?_cons_zero, List.getElem?_cons_succ] at x0 x1
        rw [← unhide HN] at x0
        by_cases hlty : y ≤ N
        · have hlty' : (y : Int) ≤ (N : Int) := by omega
          have H3 := hide (once_any B cb 5 (by omega) wr hA.s.cur)
          have HA := hide hA
          clear hA
          go_wp2_with fail
          refine (unhide H3).mono ?_
          rintro e w4 ⟨v, rfl, ⟨b, rfl⟩, hc4, hg4⟩
          have hA4 := (unhide HA).drawn hc4 hg4
          clear H3 hc4 hg4 x0 x1 xl HA
          cases b with
          | false =>
            go_wp2
            go_roundw
            case rel => exact ⟨y + 1, P, d, S, by omega, by go_num, by omega, hS2, hA4⟩
            case measure => simp [intOf]; omega
          | true =>
            have x1 := hA4.x.cell 1
            have xl := hA4.x.lt
            simp only [List.getElem?_toArray, List.getElem?_cons_zero, List.getElem?_cons_succ] at x1
            obtain ⟨w5, hw5⟩ : ∃ w5, w5 = w4.alloc (.cells #[.int .i64 (k : Int), .int .i64 (y : Int)] 3) := ⟨_, rfl⟩
            have al : Below w4.heap.size w4 w5 := by rw [hw5]; exact (Below.refl w4.heap.size w4).alloc (Nat.le_refl _) _
            have hz5 := al.size
            have hu4 : Ints w5 w4.heap.size (.slice (some ⟨w4.heap.size, 0, none⟩) 2 2) [(k : Int), (y : Int)] := by rw [hw5]; exact Ints.two2 w4 w4.heap.size (k : Int) (y : Int) (Nat.le_refl _)
            have hF5 : Fresh w5 (g + 1) (.slice P S.length d) S (.slice (some ⟨w4.heap.size, 0, none⟩) 2 2) := Fresh.of_new hA4.f.intsS al hu4
            have hu5 : Ints w5 (g + 1) (.slice (some ⟨w4.heap.size, 0, none⟩) 2 2) [(k : Int), (y : Int)] := hu4.low (by omega)
            have hz4 : g + 1 ≤ w5.heap.size := by omega
            have hzl : S.length ≤ 1048576 := by omega
            have HA := hide hA4
            have HAL := hide (al.mono xl : Below (g + 1) w4 w5)
            have q1a := (al.cell (p := ⟨g, 1, none⟩) xl).trans x1
            have HW5 := hide hw5
            rw [hw5] at q1a
            clear hA4 al hz5 hu4 hw5
            go_wp2_with (at_builtin; refine wpList_push_fresh_keep rfl (.tmp 29) (.tmp 33) rfl (g + 1) w5 (.slice P S.length d) (.slice (some ⟨w4.heap.size, 0, none⟩) 2 2) S [(k : Int), (y : Int)] rfl (by rw [unhide HW5, World.size_alloc]; rfl) (by rw [unhide HW5]) hF5 hu5 hzl hz4 ?_)
            intro v' w' hI' hb' hk'
            obtain ⟨P', d', rfl⟩ := hI'.slice
            have hb4 := (unhide HAL).trans hb'
            have hX1 := (unhide HA).x.below hb4 (Nat.lt_succ_self g)
            have r1' := hX1.cell 1
            have f1' := hX1.frozen 1
            have l1' := hX1.lt
            simp only [List.getElem?_toArray, List.getElem?_cons_zero, List.getElem?_cons_succ] at r1'
            have hA6 := hide ((unhide HA).push hb4 hI')
            have hS6 := hide ((unhide hS2).snoc (z := [(k : Int), (y : Int)]) ⟨by simp, pair_small (by omega) (by omega)⟩)
            have hSl : (S ++ [[(k : Int), (y : Int)]]).length ≤ k * 4 + (y + 1) := by rw [List.length_append, List.length_singleton]; omega
            obtain ⟨S', hS'⟩ : ∃ S', S' = S ++ [[(k : Int), (y : Int)]] := ⟨_, rfl⟩
            rw [← hS'] at hA6 hS6 hSl ⊢
            clear x1 xl hF5 hu5 hz4 hzl HA HAL q1a HW5 hI' hb' hk' hb4 hX1 hS2 hS'
            go_wp2
            go_roundw
            case rel => exact ⟨y + 1, P', d', S', by omega, by go_num, hSl, hS6, unhide hA6⟩
            case measure => simp [intOf]; omega
        · have hgt : ¬ ((y : Int) ≤ (N : Int)) := by omega
          have HA := hide hA
          clear hA
          go_wp2
          go_roundw
          case rel => exact ⟨k + 1, P, d, S, by omega, by go_num, by omega, hS2, unhide HA⟩
          case measure => simp [intOf]; omega
    · have hgt : ¬ ((k : Int) ≤ (N : Int)) := by omega
      have hS16 : S.length ≤ 16 := by omega
      have H3 := hide (below_any B cb 20 (by omega) wr hA.s.cur)
      have hLq : Hid (Lite 9 q) := hide ⟨by rw [← unhide HN]; omega, unhide HQ⟩
      have HA := hide hA
      clear hA HQ
      go_wp2_with fail
      refine (unhide H3).mono ?_
      rintro e w4 ⟨v, rfl, ⟨t, rfl, ht0, ht1⟩, hc4, hg4⟩
      rw [if_pos (by omega)] at ht1
      have hA4 := (unhide HA).drawn hc4 hg4
      clear H3 hc4 hg4 x0 x1 xl HA hgt hlt hk hSk
      by_cases h0 : t = 0
      · subst h0
        have x1 := hA4.x.cell 1
        have f1 := hA4.x.frozen 1
        have xl := hA4.x.lt
        simp only [List.getElem?_toArray, List.getElem?_cons_zero, List.getElem?_cons_succ] at x1
        have bd : Below w4.heap.size w4 w4.drew := (Below.refl _ w4).drew
        have hcd : Cur w4.drew B cb := hA4.s.cur.below bd
        have HAd := hide (hA4.drawn hcd ⟨rfl, rfl, rfl, Nat.le_refl _, fun _ _ _ => rfl⟩ : MAt w B cb g A2 c2 q P d S w4.drew)
        have x1d : w4.drew.cell? ⟨g, 1, none⟩ = some (.slice P S.length d) := x1
        have H4 := hide (below_any B cb 6 (by omega) w4.drew hcd)
        clear hA4 bd hcd
        go_wp2_with fail
        go_region_law
          (first
            | (go_simp; go_at_call 57; refine (unhide H4).mono ?_; rintro e w7 ⟨v, rfl, ⟨xb, rfl, hxb0, hxb1⟩, hc7, hg7⟩; rw [if_pos (by omega)] at hxb1; clear H4; have HA7 := hide ((unhide HAd).drawn hc7 hg7); have r7 := (unhide HA7).x.cell 1; have l7 := (unhide HA7).x.lt; simp only [List.getElem?_toArray, List.getElem?_cons_zero, List.getElem?_cons_succ] at r7; have r7d := fun o => ((Below.refl w7.heap.size w7).alloc (Nat.le_refl _) o |>.cell (p := ⟨g, 1, none⟩) l7).trans r7; have r7e := fun o o' => (((Below.refl w7.heap.size w7).alloc (Nat.le_refl _) o).alloc (by simp) o' |>.cell (p := ⟨g, 1, none⟩) l7).trans r7; have hb7 : Below w7.heap.size w7 (w7.alloc (.cells #[.int .i64 0, .int .i64 xb] 3)) := (Below.refl w7.heap.size w7).alloc (Nat.le_refl _) _; have hu7 : Ints (w7.alloc (.cells #[.int .i64 0, .int .i64 xb] 3)) w7.heap.size (.slice (some ⟨w7.heap.size, 0, none⟩) 2 2) [0, xb] := Ints.two2 w7 w7.heap.size 0 xb (Nat.le_refl _); have hUn : Until w7.heap.size (.slice A2 q.length c2) := (unhide HA7).u.mono (Nat.le_of_lt l7); clear hc7 hg7)
            | (refine step_push_beside (by rfl) (.tmp 41) (.tmp 45) (by rfl) (g + 1) w7 (w7.alloc (.cells #[.int .i64 0, .int .i64 xb] 3)) _ _ (.slice A2 q.length c2) S [0, xb] (by rfl) (by rw [World.size_alloc]; rfl) (by first | exact .inl rfl | exact .inr rfl) (unhide HA7).f hb7 hu7 hUn (by omega) l7 ?_; intro v' w' hF' hb' hk'; obtain ⟨A', c', rfl⟩ := hF'.shape; have r1' := ((unhide HA7).x.below hb' (Nat.lt_succ_self g)).cell 1; have f1' := ((unhide HA7).x.below hb' (Nat.lt_succ_self g)).frozen 1; have l1' := ((unhide HA7).x.below hb' (Nat.lt_succ_self g)).lt; simp only [List.getElem?_toArray, List.getElem?_cons_zero, List.getElem?_cons_succ] at r1'; have HF' := hide hF'; clear hF'))
        all_goals
          have HA8 := hide ((unhide HA7).push hb' (unhide HF').intsS)
          have hSn : LiteS (S ++ [[0, xb]]) := ⟨by rw [List.length_append, List.length_singleton]; omega, (unhide hS2).snoc ⟨by simp, pair_small (by omega) (by omega)⟩⟩
          have HSN := hide hSn
          obtain ⟨S', hS'⟩ : ∃ S', S' = S ++ [[0, xb]] := ⟨_, rfl⟩
          have hSl' : S.length + 1 = S'.length := by rw [hS']; simp
          rw [← hS'] at HA8 HSN
          rw [hSl']
          clear HA7 HF' r1' f1' l1' hb' hk' r7 l7 r7d r7e hb7 hu7 hUn HAd x1d hSn hS2 x1 f1 xl hS' hSl'
          generalize w'.setCell ⟨g, 1, none⟩ (.slice A' S'.length c') = w8 at HA8 ⊢
          have hA7 := unhide HA8
          have q0 := hA7.r.cell 0
          have q1 := hA7.r.cell 1
          have e0 := hA7.r.frozen 0
          have e1 := hA7.r.frozen 1
          have hltr := hA7.r.lt
          have u0 := hA7.x.cell 0
          have u1 := hA7.x.cell 1
          simp only [List.getElem?_toArray, List.getElem?_cons_zero, List.getElem?_cons_succ] at q0 q1 u0 u1
          have HE := hide (mesh_done hA7.inf hA7.s (unhide hLq) (unhide HSN))
          have HWE := hide ((hA7.r.put 0 (.slice A2 q.length c2)).put 1 (.slice A' S'.length c'))
          clear hA7
          go_wp2_with fail
          have hWe := unhide HWE
          refine bodyPost_ret (v := .agg #[.slice A2 q.length c2, .slice A' S'.length c']) (results_cell_row Try.results73 _ _ w.heap.size 47 _ (0, 0) _ rfl hWe Try.underlying47 rfl meshInfo') rfl ?_
          exact unhide HE
      by_cases h1 : t = 1
      · subst h1
        have x1 := hA4.x.cell 1
        have xl := hA4.x.lt
        simp only [List.getElem?_toArray, List.getElem?_cons_zero, List.getElem?_cons_succ] at x1
        obtain ⟨w5, hw5⟩ : ∃ w5, w5 = w4.alloc (.cells #[.int .i64 9] 3) := ⟨_, rfl⟩
        have al : Below w4.heap.size w4 w5 := by rw [hw5]; exact (Below.refl w4.heap.size w4).alloc (Nat.le_refl _) _
        have hz5 := al.size
        have hu4 : Ints w5 w4.heap.size (.slice (some ⟨w4.heap.size, 0, none⟩) 1 1) [9] := by rw [hw5]; exact Ints.of_own (zs := [9]) ⟨rfl, .inr ⟨w4.heap.size, 1, #[.int .i64 9], rfl, Nat.le_refl _, heap_alloc_new w4 _, Nat.le_refl _, by unfold maxLen; omega, rfl, rfl⟩⟩
        have hF5 : Fresh w5 (g + 1) (.slice P S.length d) S (.slice (some ⟨w4.heap.size, 0, none⟩) 1 1) := Fresh.of_new hA4.f.intsS al hu4
        have hu5 : Ints w5 (g + 1) (.slice (some ⟨w4.heap.size, 0, none⟩) 1 1) [9] := hu4.low (by omega)
        have hz4 : g + 1 ≤ w5.heap.size := by omega
        have hzl : S.length ≤ 1048576 := by omega
        have HA := hide hA4
        have HAL := hide (al.mono xl : Below (g + 1) w4 w5)
        have HW5 := hide hw5
        clear hA4 al hz5 hu4 hw5
        go_wp2_with (at_builtin; refine wpList_push_fresh_keep rfl (.tmp 51) (.tmp 53) rfl (g + 1) w5 (.slice P S.length d) (.slice (some ⟨w4.heap.size, 0, none⟩) 1 1) S [9] rfl (by rw [unhide HW5, World.size_alloc]; rfl) (by rw [unhide HW5]) hF5 hu5 hzl hz4 ?_)
        intro v' w' hI' hb' hk'
        obtain ⟨P', d', rfl⟩ := hI'.slice
        have hb4 := (unhide HAL).trans hb'
        have hX1 := (unhide HA).x.below hb4 (Nat.lt_succ_self g)
        have r1' := hX1.cell 1
        have f1' := hX1.frozen 1
        have l1' := hX1.lt
        simp only [List.getElem?_toArray, List.getElem?_cons_zero, List.getElem?_cons_succ] at r1'
        have HA8 := hide ((unhide HA).push hb4 hI')
        have HSN := hide (show LiteS (S ++ [[9]]) from ⟨by rw [List.length_append, List.length_singleton]; omega, (unhide hS2).snoc ⟨by simp, fun z hz => by simp at hz; omega⟩⟩)
        obtain ⟨S', hS'⟩ : ∃ S', S' = S ++ [[9]] := ⟨_, rfl⟩
        rw [← hS'] at HA8 HSN ⊢
        clear x1 xl hF5 hu5 hz4 hzl HA HAL HW5 hI' hb' hk' hb4 hX1 hS2 hS'
        have hA7 := unhide HA8
        have q0 := hA7.r.cell 0
        have q1 := hA7.r.cell 1
        have e0 := hA7.r.frozen 0
        have e1 := hA7.r.frozen 1
        have hltr := hA7.r.lt
        have u0 := hA7.x.cell 0
        have u1 := hA7.x.cell 1
        simp only [List.getElem?_toArray, List.getElem?_cons_zero, List.getElem?_cons_succ] at q0 q1 u0 u1
        have HE := hide (mesh_done hA7.inf hA7.s (unhide hLq) (unhide HSN))
        have HWE := hide ((hA7.r.put 0 (.slice A2 q.length c2)).put 1 (.slice P' S'.length d'))
        clear hA7
        go_wp2_with fail
        have hWe := unhide HWE
        refine bodyPost_ret (v := .agg #[.slice A2 q.length c2, .slice P' S'.length d']) (results_cell_row Try.results73 _ _ w.heap.size 47 _ (0, 0) _ rfl hWe Try.underlying47 rfl meshInfo') rfl ?_
        exact unhide HE
      by_cases h2 : t = 2
      · subst h2
        have H4 := hide (l2draw_any B cb 5 (by omega) w4 hA4.s.cur)
        have HA := hide hA4
        clear hA4
        go_wp2_with fail
        refine (unhide H4).mono ?_
        rintro e w5 ⟨A5, c5, r, rfl, hl, hown, hc5, hg5⟩
        have hA5 := (unhide HA).drawn hc5 hg5
        have hs5 := hg5.size
        have hI5 : Ints w5 w4.heap.size (.slice A5 r.length c5) r := Ints.of_own hown
        have hF5 : Fresh w5 (g + 1) (.slice P S.length d) S (.slice A5 r.length c5) := by
          obtain ⟨vs, h1, h2, _⟩ := (unhide HA).f
          have h3 := (unhide HA).s.lt
          have h4 := (unhide HA).g
          refine ⟨vs, own_drawn h1 hg5 (by omega), h2.drawn hg5 (by omega), fun x hx => ?_⟩
          obtain ⟨zs, hz⟩ := h2.mem hx
          exact apart hz.until_ hI5.since (Nat.le_refl _)
        have hgl := (unhide HA).x.lt
        have hgg := hA5.g
        have f0 := hA5.x.frozen 0
        have u0 := hA5.x.cell 0
        have ul := hA5.x.lt
        simp only [List.getElem?_toArray, List.getElem?_cons_zero] at u0
        have hx6 := hA5.x.put 0 (.slice A5 r.length c5)
        have hr6 := hA5.r.far (p := ⟨g, 0, none⟩) (by simp; omega) (.slice A5 r.length c5)
        have hI6 : InfAt (w5.setCell ⟨g, 0, none⟩ (.slice A5 r.length c5)) (w.heap.size + 1) (.slice A5 r.length c5) (.slice P S.length d) r S := (InfAt.mk ((hI5.aside (p := ⟨g, 0, none⟩) hgl _).low (by omega)) ((hF5.aside (p := ⟨g, 0, none⟩) (Nat.lt_succ_self g) _).low (by omega)))
        have hS6 := hA5.s.low ((Below.refl w.heap.size w5).setCell (p := ⟨g, 0, none⟩) (by show w.heap.size ≤ g; omega) (.slice A5 r.length c5))
        have hLr : Lite 9 r := hl.more (by omega)
        have HE := hide (mesh_done hI6 hS6 hLr ⟨by omega, unhide hS2⟩)
        have HWE := hide ((hr6.put 0 (.slice A5 r.length c5)).put 1 (.slice P S.length d))
        have q0 := hr6.cell 0
        have q1 := hr6.cell 1
        have e0 := hr6.frozen 0
        have e1 := hr6.frozen 1
        have hltr := hr6.lt
        have v0 := hx6.cell 0
        have v1 := hx6.cell 1
        simp only [Array.setIfInBounds, List.size_toArray, List.length_cons, List.length_nil, List.set_toArray, List.set_cons_zero] at v0 v1
        simp only [List.getElem?_toArray, List.getElem?_cons_zero, List.getElem?_cons_succ] at q0 q1
        clear H4 HA hl hown hc5 hg5 hA5 hs5 hI5 hF5 hgl hx6 hr6 hI6 hS6 hLr hS2
        go_wp2_with fail
        have hWe := unhide HWE
        refine bodyPost_ret (v := .agg #[.slice A5 r.length c5, .slice P S.length d]) (results_cell_row Try.results73 _ _ w.heap.size 47 _ (0, 0) _ rfl hWe Try.underlying47 rfl meshInfo') rfl ?_
        exact unhide HE
      have c0 : (t == 0) = false := by simp; omega
      have c1 : (t == 1) = false := by simp; omega
      have c2' : (t == 2) = false := by simp; omega
      have HA4 := hide hA4
      clear hA4
      have hA7 := unhide HA4
      have q0 := hA7.r.cell 0
      have q1 := hA7.r.cell 1
      have e0 := hA7.r.frozen 0
      have e1 := hA7.r.frozen 1
      have hltr := hA7.r.lt
      have u0 := hA7.x.cell 0
      have u1 := hA7.x.cell 1
      simp only [List.getElem?_toArray, List.getElem?_cons_zero, List.getElem?_cons_succ] at q0 q1 u0 u1
      have HE := hide (mesh_done hA7.inf hA7.s (unhide hLq) ⟨by omega, unhide hS2⟩)
      have HWE := hide ((hA7.r.put 0 (.slice A2 q.length c2)).put 1 (.slice P S.length d))
      clear hA7
      go_wp2_with fail
      have hWe := unhide HWE
      refine bodyPost_ret (v := .agg #[.slice A2 q.length c2, .slice P S.length d]) (results_cell_row Try.results73 _ _ w.heap.size 47 _ (0, 0) _ rfl hWe Try.underlying47 rfl meshInfo') rfl ?_
      exact unhide HE
end Go.Proofs.Ytnnpefgbneldiaa


/-
  spec.DrawCountMesh, spec.DrawMeshOf, laws.sameMesh, by their contracts.
-/

namespace Go.Proofs.Ytnnpefgbneldiaa
set_option maxRecDepth 100000
open Go.RowKit

/-- A row with a struct of a row and a list of rows. -/
def DrewIM (w : World) (e : Ending) (w' : World) : Prop :=
  ∃ A0 c0 p A c q P d S, e = .returned (.tuple #[.slice A0 p.length c0, .agg #[.slice A q.length c, .slice P S.length d]]) ∧ Lite 9 p ∧ Lite 9 q ∧ LiteS S ∧ Ints w' w.heap.size (.slice A0 p.length c0) p ∧ InfAt w' w.heap.size (.slice A q.length c) (.slice P S.length d) q S ∧ Below w.heap.size w w'
/-- A struct of two rows. -/
def DrewN1 (w : World) (e : Ending) (w' : World) : Prop :=
  ∃ A c P d q J, e = .returned (.agg #[.slice A q.length c, .slice P J.length d]) ∧ Lite 9 q ∧ Lite 9 J ∧ NearAt w' w.heap.size (.slice A q.length c) (.slice P J.length d) q J ∧ Below w.heap.size w w'
set_option maxHeartbeats 800000 in
theorem dcntm_any (A : Option Addr) (n c B : Nat) (bs : List UInt8) (w : World) (hr : Reads w B A n (u8s bs)) (hn : n ≤ 1048576) (hB : B ≤ w.heap.size) :
    Calls Try.prog 40 #[.slice A n c] w (DrewIM w) := by
  obtain ⟨w0, hw0⟩ : ∃ w0, w0 = w.alloc (.cells #[.slice none 0 0, .slice none 0 0] 47) := ⟨_, rfl⟩
  have hR0 : Whole w0 w.heap.size 47 #[.slice none 0 0, .slice none 0 0] := by rw [hw0]; exact Whole.new _ _ _
  have hs0 : w0.heap.size = w.heap.size + 1 := by rw [hw0]; simp
  have b0 : Below w.heap.size w w0 := by rw [hw0]; exact (Below.refl _ w).alloc (Nat.le_refl _) _
  have H1 := hide (new_any A n c B bs w0 (hr.below (b0.mono hB)) hn (by omega))
  have HW0 := hide hw0
  clear hr hw0
  go_enter Try.func40, Try.ntmps40
  go_wp2_with fail
  rw [← unhide HW0]
  refine (unhide H1).mono ?_
  rintro e w1 ⟨cb, rfl, hcb, hc1, hb1⟩
  have hB1 := below_after b0 hb1
  have hR1 := hR0.below hb1 hR0.lt
  have hS1 := Side.start hc1
  have H2 := hide (l2bent_any B cb w1 hc1)
  have hs1 := hb1.size
  clear H1 HW0 hb1 hc1 b0 hR0
  go_wp2_with fail
  refine (unhide H2).mono ?_
  rintro e w2 ⟨A2, c2, p, rfl, hlp, o2, hc2, hg2⟩
  have hS2 := hS1.drawn hc2 hg2
  have hR2 := hR1.grown hg2 (fun e => by injection e with e; omega)
  have hs2 := hg2.size
  have hlt1 := hS1.lt
  have H3 := hide (l9draw_any B cb w2 hc2)
  have HLP := hide hlp
  clear H2 hS1 hR1 hc2 hg2 hlp
  go_wp2_with fail
  refine (unhide H3).mono ?_
  rintro e w3 ⟨A3, c3, q, P3, d3, S, rfl, hlq, hlS, hN, hc3, hg3⟩
  have hS3 := hS2.drawn hc3 hg3
  have hR3 := hR2.grown hg3 (fun e => by injection e with e; omega)
  have o3 := o2.drawn hg3 hlt1
  have hB3 := hS3.under hB1 (by omega)
  have q0 := hR3.cell 0
  have q1 := hR3.cell 1
  have e0 := hR3.frozen 0
  have e1 := hR3.frozen 1
  have hltr := hR3.lt
  simp only [List.getElem?_toArray, List.getElem?_cons_zero, List.getElem?_cons_succ] at q0 q1
  have hWe := (hR3.put 0 (.slice A3 q.length c3)).put 1 (.slice P3 S.length d3)
  have hI3 := ((hN.aside (p := ⟨w.heap.size, 0, none⟩) (by show w.heap.size < _; omega) (.slice A3 q.length c3)).aside (p := ⟨w.heap.size, 1, none⟩) (by show w.heap.size < _; omega) (.slice P3 S.length d3)).low (show w.heap.size ≤ w2.heap.size by omega)
  have hP3 := ((o3.aside (p := ⟨w.heap.size, 0, none⟩) (by show w.heap.size < _; omega) (.slice A3 q.length c3)).aside (p := ⟨w.heap.size, 1, none⟩) (by show w.heap.size < _; omega) (.slice P3 S.length d3)).low (show w.heap.size ≤ w1.heap.size by omega)
  have HF := hide (⟨hlq, hlS, hP3, hI3, (hB3.setCell (p := ⟨w.heap.size, 0, none⟩) (Nat.le_refl _) (.slice A3 q.length c3)).setCell (p := ⟨w.heap.size, 1, none⟩) (Nat.le_refl _) (.slice P3 S.length d3)⟩ : Lite 9 q ∧ LiteS S ∧ _ ∧ InfAt _ _ _ _ _ _ ∧ Below _ _ _)
  have HWE := hide hWe
  clear hI3 hP3 hWe hB3 o3 hR3 hS3 hg3 hc3 hN hlq hlS hR2 hS2 o2 hB1 H3
  go_wp2_with fail
  have hWe := unhide HWE
  obtain ⟨h1, h2, h3, h4, h5⟩ := unhide HF
  exact bodyPost_ret (v := .tuple #[.slice A2 p.length c2, .agg #[.slice A3 q.length c3, .slice P3 S.length d3]]) (results_tmp_cell Try.results40 _ _ w.heap.size 47 _ (0, 0) _ rfl hWe Try.underlying47 rfl meshInfo') rfl ⟨A2, c2, p, A3, c3, q, P3, d3, S, rfl, unhide HLP, h1, h2, h3, h4, h5⟩
set_option maxHeartbeats 800000 in
theorem dmof_any (A : Option Addr) (n c B : Nat) (bs : List UInt8) (w : World) (hr : Reads w B A n (u8s bs)) (hn : n ≤ 1048576) (hB : B ≤ w.heap.size) :
    Calls Try.prog 42 #[.slice A n c] w (DrewN1 w) := by
  obtain ⟨w0, hw0⟩ : ∃ w0, w0 = w.alloc (.cells #[.slice none 0 0, .slice none 0 0] 52) := ⟨_, rfl⟩
  have hR0 : Whole w0 w.heap.size 52 #[.slice none 0 0, .slice none 0 0] := by rw [hw0]; exact Whole.new _ _ _
  have hs0 : w0.heap.size = w.heap.size + 1 := by rw [hw0]; simp
  have b0 : Below w.heap.size w w0 := by rw [hw0]; exact (Below.refl _ w).alloc (Nat.le_refl _) _
  have H1 := hide (new_any A n c B bs w0 (hr.below (b0.mono hB)) hn (by omega))
  have HW0 := hide hw0
  clear hr hw0
  go_enter Try.func42, Try.ntmps42
  go_wp2_with fail
  rw [← unhide HW0]
  refine (unhide H1).mono ?_
  rintro e w1 ⟨cb, rfl, hcb, hc1, hb1⟩
  have hB1 := below_after b0 hb1
  have hR1 := hR0.below hb1 hR0.lt
  have hS1 := Side.start hc1
  have hs1 := hb1.size
  have H3 := hide (l8draw_any B cb w1 hc1)
  clear H1 HW0 hb1 hc1 b0 hR0
  go_wp2_with fail
  refine (unhide H3).mono ?_
  rintro e w3 ⟨A3, c3, P3, d3, q, J, rfl, hlq, hlJ, hN, hc3, hg3⟩
  have hS3 := hS1.drawn hc3 hg3
  have hR3 := hR1.grown hg3 (fun e => by injection e with e; omega)
  have hB3 := hS3.under hB1 (by omega)
  have q0 := hR3.cell 0
  have q1 := hR3.cell 1
  have e0 := hR3.frozen 0
  have e1 := hR3.frozen 1
  have hltr := hR3.lt
  simp only [List.getElem?_toArray, List.getElem?_cons_zero, List.getElem?_cons_succ] at q0 q1
  have hWe := (hR3.put 0 (.slice A3 q.length c3)).put 1 (.slice P3 J.length d3)
  have hI3 := ((hN.past (p := ⟨w.heap.size, 0, none⟩) (by show w.heap.size < _; omega) (.slice A3 q.length c3)).past (p := ⟨w.heap.size, 1, none⟩) (by show w.heap.size < _; omega) (.slice P3 J.length d3)).low (show w.heap.size ≤ w1.heap.size by omega)
  have HF := hide (⟨hlq, hlJ, hI3, (hB3.setCell (p := ⟨w.heap.size, 0, none⟩) (Nat.le_refl _) (.slice A3 q.length c3)).setCell (p := ⟨w.heap.size, 1, none⟩) (Nat.le_refl _) (.slice P3 J.length d3)⟩ : Lite 9 q ∧ Lite 9 J ∧ NearAt _ _ _ _ _ _ ∧ Below _ _ _)
  have HWE := hide hWe
  clear hI3 hWe hB3 hR3 hS3 hg3 hc3 hN hlq hlJ hR1 hS1 hB1 H3
  go_wp2_with fail
  have hWe := unhide HWE
  obtain ⟨h1, h2, h4, h5⟩ := unhide HF
  exact bodyPost_ret (v := .agg #[.slice A3 q.length c3, .slice P3 J.length d3]) (results_cell_row Try.results42 _ _ w.heap.size 52 _ (0, 0) _ rfl hWe Try.underlying52 rfl nearInfo) rfl ⟨A3, c3, P3, d3, q, J, rfl, h1, h2, h4, h5⟩
set_option maxHeartbeats 800000 in
/-- laws.sameMesh: equal structs. -/
theorem samem_any (A P A' P' : Option Addr) (n c m d n' c' m' d' B B' : Nat) (q : List Int) (S : List (List Int)) (w : World) (h : InfAt w B (.slice A n c) (.slice P m d) q S) (h' : InfAt w B' (.slice A' n' c') (.slice P' m' d') q S) (hq : q.length ≤ 1048576) (hS : S.length ≤ 1048576) (ht : tot S ≤ 1099511627776) :
    Calls Try.prog 48 #[.agg #[.slice A n c, .slice P m d], .agg #[.slice A' n' c', .slice P' m' d']] w fun e w' => e = .returned (.bool true) ∧ Below w.heap.size w w' := by
  have b2' : Below w.heap.size w ((w.alloc (.cells #[.slice A n c, .slice P m d] 47)).alloc (.cells #[.slice A' n' c', .slice P' m' d'] 47)) := ((Below.refl _ _).alloc (Nat.le_refl _) _).alloc (by simp) _
  have g1 := (Whole.new w 47 #[.slice A n c, .slice P m d]).alloc (.cells #[.slice A' n' c', .slice P' m' d'] 47)
  have g2 := Whole.new (w.alloc (.cells #[.slice A n c, .slice P m d] 47)) 47 #[.slice A' n' c', .slice P' m' d']
  simp only [World.size_alloc] at g2
  have i1 := h.below b2'
  have i2 := h'.below b2'
  have l1 := i1.row.len
  have l2 := i1.pcs.intsS.len
  have H1 := hide (samei_any A A' n c n' c' _ _ q _ i1.row.reads i2.row.reads (by omega))
  have HI := hide (And.intro i1 i2)
  clear i1 i2 h h'
  go_enter Try.func48, Try.ntmps48
  go_wp2_with fail
  refine (unhide H1).mono ?_
  rintro e w3 ⟨rfl, hd⟩
  have hb3 := b2'.trans (hd.below _)
  have k1 := (Whole.below g1 (hd.below (w.heap.size + 2)) (by omega)).cell 1
  have k2 := (Whole.below g2 (hd.below (w.heap.size + 2)) (by omega)).cell 1
  simp only [List.getElem?_toArray, List.getElem?_cons_zero, List.getElem?_cons_succ] at k1 k2
  have H2 := hide (samess_any P P' m d m' d' _ _ S w3 ((unhide HI).1.below (hd.below _)).pcs.intsS ((unhide HI).2.below (hd.below _)).pcs.intsS (by omega) ht)
  clear H1 hd b2' g1 g2 HI
  go_wp2_with fail
  refine (unhide H2).mono ?_
  rintro e w4 ⟨rfl, hd4⟩
  have hb5 := hb3.trans (hd4.below _)
  clear H2 hd4 hb3
  go_wp2
  go_ret
  exact ⟨rfl, hb5⟩
end Go.Proofs.Ytnnpefgbneldiaa


/-
  PLAIN: what the law FnMeshes says of meshes: joined places are shaded columns, the inverse has as many. Nothing here speaks of the program.
-/

namespace Go.Proofs.Ytnnpefgbneldiaa
set_option maxRecDepth 100000

theorem box_pair9 {n : Nat} {x y : Int} (hx : 0 ≤ x ∧ x ≤ (n : Int)) (hy : 0 ≤ y ∧ y ≤ (n : Int)) : boxOK n [x, y] = true := by
  unfold boxOK at0
  simp only [List.length_cons, List.length_nil, List.getD_cons_zero, List.getD_cons_succ]
  rw [decide_eq_true hx, decide_eq_true hy]
  rfl
theorem boxes_of {n : Nat} {S : List (List Int)} (h : BoxL n S) : ∀ k, k ≤ S.length → boxesK n S k = true
  | 0, _ => rfl
  | k + 1, hk => by
    have h1 := boxes_of h k (by omega)
    have ha : ∀ i, i < S.length → S[i]? = some (S.getD i []) := fun i hi => by rw [List.getD_eq_getElem?_getD, List.getElem?_eq_getElem hi]; rfl
    obtain ⟨x, y, e, hx, hy⟩ := h.two (S.getD k []) (List.mem_of_getElem? (ha k (by omega)))
    rw [boxesK, h1, e, box_pair9 hx hy, Bool.true_and, Bool.true_and, Bool.or_eq_true, decide_eq_true_eq, ← e]
    by_cases h0 : k = 0
    · exact .inl h0
    · right
      have h2 := List.pairwise_iff_getElem.1 h.asc (k - 1) k (by omega) (by omega) (by omega)
      have e1 := ha (k - 1) (by omega)
      have e2 := ha k (by omega)
      rw [List.getElem?_eq_getElem (by omega)] at e1 e2
      rw [← Option.some.inj e1, ← Option.some.inj e2]
      exact h2
theorem mesh_of {q : List Int} {S : List (List Int)} (hq : isP q = true) (h4 : q.length ≤ 4) (h : BoxL q.length S) : meshOK q S = true := meshOK_iff.2 ⟨hq, h4, boxes_of h _ (Nat.le_refl _)⟩
theorem bef_pair9 {x y a b : Int} (h : x < a ∨ (x = a ∧ y < b)) : befL [x, y] [a, b] = true := by
  rw [befL_eq (p := [x, y]) (q := [a, b]) rfl]
  simp only [lexL]
  rcases h with h | ⟨h, h2⟩
  · rw [if_neg (by omega)]; simpa using h
  · rw [if_pos h, if_neg (by omega)]; simpa using h2
/-- The shaded columns are boxes in order. -/
theorem colS_boxL {n : Nat} {J : List Int} (h : PlOK (n - 1) J) : BoxL n (colS n J) := by
  constructor
  · intro s hs
    unfold colS at hs
    rw [List.mem_flatMap] at hs
    obtain ⟨j, hj, hs⟩ := hs
    rw [List.mem_map] at hs
    obtain ⟨y, hy, rfl⟩ := hs
    rw [List.mem_range] at hy
    have := h.1 j hj
    exact ⟨j, y, rfl, by omega, by omega⟩
  · unfold colS Asc
    rw [List.pairwise_flatMap]
    refine ⟨fun j _ => ?_, h.2.imp fun {a b} hab x hx y hy => ?_⟩
    · rw [List.pairwise_map]
      exact List.pairwise_lt_range.imp fun {a b} hab => bef_pair9 (.inr ⟨rfl, by omega⟩)
    · rw [List.mem_map] at hx hy
      obtain ⟨u, _, rfl⟩ := hx
      obtain ⟨v, _, rfl⟩ := hy
      exact bef_pair9 (.inl hab)
theorem mof_num {p q J : List Int} (hp : isP p = true) (h : mofOK q J = true) : numMesh p (mofQ q J) (mofS q J) = numNear p q J := by
  unfold mofOK at h
  rw [Bool.and_eq_true, decide_eq_true_eq] at h
  obtain ⟨h1, h2, h3⟩ := mof_yes h.1 h.2
  obtain ⟨hq, hJ⟩ := nearOK_iff.1 h.1
  rw [h2, h3, numMesh_yes hp (mesh_of hq h.2 (colS_boxL hJ)), numNear_yes hp h.1, mesh_near_num hJ]
/-- The mesh of the inverse. -/
theorem turned_boxL {n : Nat} {S : List (List Int)} (h : BoxL n S) : BoxL n (turnS S) := ⟨turnS_two h, turnS_asc S⟩
theorem inv_num {p q : List Int} {S : List (List Int)} (hp : isP p = true) (h : meshOK q S = true) : numMesh (invR p) (miQ q S) (miS q S) = (((meshR p q S).length : Nat) : Int) := by
  obtain ⟨hq, h4, _⟩ := meshOK_iff.1 h
  have hB := boxL_mesh h
  obtain ⟨e1, e2⟩ := mi_yes h
  have hok : meshOK (invL q) (turnS S) = true := mesh_of (invL_isP hq) (by rw [invL_length]; exact h4) (by rw [invL_length]; exact turned_boxL hB)
  rw [invR_yes hp, e1, e2]
  have hpi : isP (invL p) = true := invL_isP hp
  rw [show invFill p p.length = invL p from rfl, numMesh_yes hpi hok, mesh_inv hp hq]
  intro x y
  rw [turnS_mem]
  constructor
  · rintro ⟨s, hs, e⟩
    obtain ⟨u, v, rfl, _, _⟩ := hB.two s hs
    rw [swapB_two] at e
    simp only [List.cons.injEq, and_true] at e
    obtain ⟨rfl, rfl⟩ := e
    exact hs
  · intro hs
    exact ⟨[y, x], hs, swapB_two y x⟩
theorem mesh_le_num {p q : List Int} {S : List (List Int)} (hp : isP p = true) (h : meshOK q S = true) : numOcc p q = (((occR p q).length : Nat) : Int) ∧ (((meshR p q S).length : Nat) : Int) ≤ (((occR p q).length : Nat) : Int) :=
  ⟨by unfold numOcc; rw [hp, (meshOK_iff.1 h).1]; rfl, by have := mesh_le p q S; omega⟩
/-- Rows that a mesh holds are short. -/
theorem boxL_rows {n : Nat} {S : List (List Int)} (hn : n ≤ 9) (h : BoxL n S) : ∀ z ∈ S, z.length ≤ 1048576 ∧ Small z := fun z hz => by
  obtain ⟨x, y, rfl, hx, hy⟩ := h.two z hz
  refine ⟨by simp, fun v hv => ?_⟩
  simp at hv
  rcases hv with rfl | rfl <;> omega
theorem mof_rows {q J : List Int} : ∀ z ∈ mofS q J, z.length ≤ 1048576 ∧ Small z := fun z hz => by
  cases h : mofOK q J with
  | false =>
    unfold mofS at hz
    rw [h] at hz
    cases hz
  | true =>
    unfold mofOK at h
    rw [Bool.and_eq_true, decide_eq_true_eq] at h
    obtain ⟨_, _, h3⟩ := mof_yes h.1 h.2
    rw [h3] at hz
    exact boxL_rows (by omega) (colS_boxL (nearOK_iff.1 h.1).2) z hz
theorem mi_rows {q : List Int} {S : List (List Int)} : ∀ z ∈ miS q S, z.length ≤ 1048576 ∧ Small z := fun z hz => by
  cases h : meshOK q S with
  | false => rw [(mi_no h).2] at hz; cases hz
  | true =>
    rw [(mi_yes h).2] at hz
    exact boxL_rows (by have := (meshOK_iff.1 h).2.1; omega) (turned_boxL (boxL_mesh h)) z hz
theorem mof_small (q J : List Int) (h : Small q) : Small (mofQ q J) := fun z hz => by
  unfold mofQ at hz
  split at hz
  · exact h z hz
  · cases hz
theorem mi_small (q : List Int) (S : List (List Int)) : (miQ q S).length ≤ 8 ∧ Small (miQ q S) := by
  cases h : meshOK q S with
  | false => rw [(mi_no h).1]; exact ⟨by simp, fun z hz => by cases hz⟩
  | true =>
    have hp := invL_isP (meshOK_iff.1 h).1
    rw [(mi_yes h).1]
    exact ⟨isP_le hp, isP_small hp⟩
theorem invR_small (p : List Int) : (invR p).length ≤ 8 ∧ Small (invR p) := by
  cases h : isP p with
  | false => unfold invR; rw [if_neg (by simp [h])]; exact ⟨by simp, fun z hz => by cases hz⟩
  | true => rw [invR_yes h]; exact ⟨isP_le (isP_inv h), isP_small (isP_inv h)⟩
end Go.Proofs.Ytnnpefgbneldiaa


/-
  Maps whose keys are boxes: what such a map holds, a look-up, a store, a clone.
-/

namespace Go.Proofs.Ytnnpefgbneldiaa
set_option maxRecDepth 100000
open Go.RowKit Go.Maps

theorem laidOutP : laidOutB Try.prog = true := by kernel_rfl
theorem boxRow : (99 : TypeId) < Try.prog.types.size := of_decide_eq_true (by kernel_rfl)
theorem boxWide : (match Try.prog.underlying 99 with | some (.array _ _) | some (.struct _) => true | _ => false) = true := by rw [Try.underlying99]
theorem boxLaw : Keyed Try.prog 99 := Keyed.of_law (deep_law_laid laidOutP (m := 2) (by omega) boxRow (by kernel_rfl) boxWide)
theorem boxTypes : ∃ m, Try.prog.types.size = m + 1 := ⟨Try.prog.types.size - 1, by have : 0 < Try.prog.types.size := of_decide_eq_true (by kernel_rfl); omega⟩
theorem boxTop : Try.prog.keyType 99 = true := by kernel_rfl
theorem boxCells : Try.prog.cellsOf 99 = 2 := by kernel_rfl
theorem intCells : Try.prog.cellsOf 3 = 1 := by kernel_rfl
theorem boxZero (w : World) : (zeroValue 4).run Try.prog w = .ok (.bool false) w := by kernel_rfl
theorem boxKey {x y : Int} (hx : (Lit.int .i64 x).wf = true) (hy : (Lit.int .i64 y).wf = true) : ∃ kl, keyOf Try.prog 99 (.agg #[.int .i64 x, .int .i64 y]) = some kl := by
  obtain ⟨m, hm⟩ := boxTypes
  unfold keyOf
  rw [Try.underlying99]
  simp only [boxTop, Bool.true_and]
  rw [if_pos (by simp [Value.formed, Try.underlying99, boxCells])]
  rw [hm]
  simp [Program.keyLits, Try.underlying99, Try.underlying3, boxCells, intCells, Value.cells, hx, hy]
/-- Block b is a map of at most m entries that has just the boxes of S. -/
def Boxes (w : World) (b m : Nat) (S : List (List Int)) : Prop :=
  ∃ D : DataW Unit, w.ownsMap Try.prog 99 (plainElem Try.prog 4) b m D ∧
    ∀ x y kl, keyOf Try.prog 99 (.agg #[.int .i64 x, .int .i64 y]) = some kl → D.atKey kl (.lit (.bool false)) = .lit (.bool (decide ([x, y] ∈ S)))
theorem Boxes.lt {w : World} {b m : Nat} {S : List (List Int)} (h : Boxes w b m S) : b < w.heap.size := by
  obtain ⟨D, h, _⟩ := h
  exact h.lt
theorem Boxes.same {w w' : World} {b m : Nat} {S : List (List Int)} (h : Boxes w b m S) (hb : w'.heap[b]? = w.heap[b]?) : Boxes w' b m S := by
  obtain ⟨D, ⟨es, clock, h1, h2⟩, h3⟩ := h
  exact ⟨D, ⟨es, clock, hb.trans h1, h2⟩, h3⟩
theorem Boxes.below {w w' : World} {b m B : Nat} {S : List (List Int)} (h : Boxes w b m S) (hb : Below B w w') (hB : b < B) : Boxes w' b m S := h.same (hb.block b hB)
theorem Boxes.later {w w' : World} {b m : Nat} {S : List (List Int)} (h : Boxes w b m S) (hb : Below w.heap.size w w') : Boxes w' b m S := h.same (hb.block b h.lt)
theorem Boxes.kept {w w' : World} {row : Option Nat} {b m : Nat} {S : List (List Int)} (h : Boxes w b m S) (hg : w.grownBy w' row) (hne : some b ≠ row) : Boxes w' b m S := by
  obtain ⟨D, h1, h2⟩ := h
  exact ⟨D, h1.kept hg hne, h2⟩
theorem Boxes.alloc {w : World} {b m : Nat} {S : List (List Int)} (h : Boxes w b m S) (o : Obj) : Boxes (w.alloc o) b m S := h.kept (World.grownBy_alloc w o none) (by simp)
theorem Boxes.mem {w : World} {b m : Nat} {S R : List (List Int)} (h : Boxes w b m S) (hS : ∀ s, s ∈ S ↔ s ∈ R) : Boxes w b m R := by
  obtain ⟨D, h1, h2⟩ := h
  refine ⟨D, h1, fun x y kl hk => ?_⟩
  rw [h2 x y kl hk]
  have : decide ([x, y] ∈ S) = decide ([x, y] ∈ R) := by rw [decide_eq_decide]; exact hS _
  rw [this]
theorem Boxes.new (w : World) : Boxes (w.alloc (.map #[] 0)) w.heap.size 0 [] := by
  refine ⟨.map [], World.ownsMap_made w _ _ _, fun x y kl hk => ?_⟩
  rw [atKey_of_not_has (by rfl)]
  simp
theorem bool_inv {v : Value} {c : Bool} {ps : List MemPlace} (h : plainElem (H := Unit) Try.prog 4 v = some (.lit (.bool c), ps)) : v = .bool c := by
  unfold plainElem at h
  rw [Try.underlying4] at h
  cases v <;> simp at h
  rw [h.1]
theorem Boxes.lookup {w : World} {b m : Nat} {S : List (List Int)} (h : Boxes w b m S) {x y : Int} (hx : (Lit.int .i64 x).wf = true) (hy : (Lit.int .i64 y).wf = true) :
    (Instr.lookup 78 (.map (some b)) (.agg #[.int .i64 x, .int .i64 y]) false).run Try.prog w = .ok (.bool (decide ([x, y] ∈ S))) w := by
  obtain ⟨D, h1, h2⟩ := h
  obtain ⟨kl, hk⟩ := boxKey hx hy
  obtain ⟨v, ps, hrun, hv⟩ := h1.lookup boxLaw Try.underlying78 (boxZero w) (plainElem_bool Try.underlying4 false) hk
  rw [h2 x y kl hk] at hv
  rw [hrun, bool_inv hv]
theorem Boxes.store {w : World} {b m : Nat} {S : List (List Int)} (h : Boxes w b m S) (hm : m < maxLen) {x y : Int} (hx : (Lit.int .i64 x).wf = true) (hy : (Lit.int .i64 y).wf = true) :
    ∃ w', (Instr.mapUpdate 78 (.map (some b)) (.agg #[.int .i64 x, .int .i64 y]) (.bool true)).run Try.prog w = .ok () w' ∧ Boxes w' b (m + 1) (S ++ [[x, y]]) ∧ w.grownBy w' (some b) := by
  obtain ⟨D, h1, h2⟩ := h
  obtain ⟨kl, hk⟩ := boxKey hx hy
  obtain ⟨w', hrun, ho, hg⟩ := h1.update boxLaw Try.underlying78 hm hk (plainElem_bool Try.underlying4 true)
  refine ⟨w', hrun, ⟨_, ho, fun x' y' kl' hk' => ?_⟩, hg⟩
  by_cases e : kl' = kl
  · subst e
    rw [atKey_put_same h1.isMap (boxLaw.key hk)]
    have e2 := boxLaw.inj hk hk'
    simp only [Value.agg.injEq, Array.mk.injEq, List.cons.injEq, Value.int.injEq, true_and, and_true] at e2
    obtain ⟨rfl, rfl⟩ := e2
    simp
  · rw [atKey_put_other e, h2 x' y' kl' hk']
    have : decide ([x', y'] ∈ S) = decide ([x', y'] ∈ S ++ [[x, y]]) := by
      rw [decide_eq_decide, List.mem_append, List.mem_singleton]
      constructor
      · exact .inl
      · rintro (h | h)
        · exact h
        · simp only [List.cons.injEq, and_true] at h
          obtain ⟨rfl, rfl⟩ := h
          rw [hk] at hk'
          cases hk'
          exact absurd rfl e
    rw [this]
/-- A look-up at the operation. -/
theorem wpList_lookup_boxes (w : World) {ops : Array Oper} {rest : List Oper} {o : Oper} {a : Act} {Q : Exit → Act → World → Prop} (hg : o.guard = none) (m x : Operand) (hop : o.op = Op.lookup 78 m x false)
    (b k : Nat) (S : List (List Int)) (hm : a.eval m = .map (some b)) (hown : Boxes w b k S) (u v : Int) (hx : a.eval x = .agg #[.int .i64 u, .int .i64 v]) (hu : (Lit.int .i64 u).wf = true) (hv : (Lit.int .i64 v).wf = true)
    (hK : wpList Try.prog ops Q rest (a.put o.dst (.bool (decide ([u, v] ∈ S)))) w) : wpList Try.prog ops Q (o :: rest) a w := by
  refine wpList_plain hg fun K' hK' => ?_
  have hrun := hown.lookup hu hv
  unfold Oper.wp
  simp [execOp, hop, hm, hx, hrun, Result.andThen]
  exact hK' _ _ hK
theorem wpList_store_boxes (w : World) {ops : Array Oper} {rest : List Oper} {o : Oper} {a : Act} {Q : Exit → Act → World → Prop} (hg : o.guard = none) (m x v : Operand) (hop : o.op = Op.mapUpdate 78 m x v)
    (b k : Nat) (S : List (List Int)) (hm : a.eval m = .map (some b)) (hown : Boxes w b k S) (hk : k < maxLen) (y z : Int) (hx : a.eval x = .agg #[.int .i64 y, .int .i64 z]) (hv : a.eval v = .bool true) (hy : (Lit.int .i64 y).wf = true) (hz : (Lit.int .i64 z).wf = true)
    (hK : ∀ w', Boxes w' b (k + 1) (S ++ [[y, z]]) → w.grownBy w' (some b) → wpList Try.prog ops Q rest (a.put o.dst undef) w') : wpList Try.prog ops Q (o :: rest) a w := by
  refine wpList_plain hg fun K' hK' => ?_
  obtain ⟨w', hrun, r1, r2⟩ := hown.store hk hy hz
  unfold Oper.wp
  simp [execOp, hop, hm, hx, hv, hrun, Result.andThen]
  exact hK' _ _ (hK w' r1 r2)
theorem step_store_boxes {ops : Array Oper} {o : Oper} {a : Act} {W : World} {K : Act → World → Prop} {Q : Exit → Act → World → Prop} {E : Prop} (hgd : o.guard = none) (m x v : Operand) (hop : o.op = Op.mapUpdate 78 m x v)
    (b k : Nat) (S : List (List Int)) (hm : a.eval m = .map (some b)) (hown : Boxes W b k S) (hk : k < maxLen) (y z : Int) (hx : a.eval x = .agg #[.int .i64 y, .int .i64 z]) (hv : a.eval v = .bool true) (hy : (Lit.int .i64 y).wf = true) (hz : (Lit.int .i64 z).wf = true)
    (hK : ∀ w', Boxes w' b (k + 1) (S ++ [[y, z]]) → W.grownBy w' (some b) → K (a.put o.dst undef) w') :
    if Region.wanted o (yielded ops a.tmps) = true then Oper.wp Try.prog o a W K Q else E := by
  obtain ⟨w', hrun, r1, r2⟩ := hown.store hk hy hz
  rw [if_pos (by simp [Region.wanted, hgd])]
  unfold Oper.wp
  simp [execOp, hop, hm, hx, hv, hrun, Result.andThen]
  exact hK w' r1 r2
end Go.Proofs.Ytnnpefgbneldiaa


/-
  impl.numbersAt: the numbers at places; impl.patternAt: their pattern.
-/

namespace Go.Proofs.Ytnnpefgbneldiaa
set_option maxRecDepth 100000
open Go.RowKit

theorem nums_patOK {p pl : List Int} (hp : isP p = true) (h : PlOK p.length pl) : patOK (nums p pl) = true :=
  patOK_yes (Nat.le_trans (nums_sub' h).length_le (isP_le hp)) ((isP_true.1 hp).2.2.sublist (nums_sub' h))
theorem plOK_le {n : Nat} {pl : List Int} (h : PlOK n pl) : pl.length ≤ n := by
  have h1 := nums_sub' (p := List.replicate n 0) (pl := pl) (by rw [List.length_replicate]; exact h)
  have := h1.length_le
  rwa [nums_length, List.length_replicate] at this
set_option maxHeartbeats 800000 in
theorem inums_any (A A' : Option Addr) (n c B n' c' B' : Nat) (p pl : List Int) (hp : isP p = true) (hpl : PlOK p.length pl) (w : World) (h : Arg w B A n c p) (h' : Arg w B' A' n' c' pl) :
    Calls Try.prog 112 #[.slice A n c, .slice A' n' c'] w (GivesI w (nums p pl)) := by
  obtain ⟨i0, hi, hz0, hz1, hz2⟩ := info_parts intInfo
  have hl := h'.len
  have hlp := h.len
  have hr := h.reads
  have hr' := h'.reads
  have hB := h.under
  have hB' := h'.under
  have hn8 : n ≤ 8 := by have := isP_le hp; omega
  have hn8' : n' ≤ 8 := by have := plOK_le hpl; omega
  have HP := hide (fun k (hk : k < n') => show 1 ≤ at0 pl k ∧ at0 pl k ≤ (n : Int) from by have := hpl.rng (i := k) (by omega); omega)
  have HL := hide (show pl.length = n' from hl)
  have HLP := hide (show p.length = n from hlp)
  obtain ⟨zs, hzs⟩ : ∃ zs, zs = nums p pl := ⟨_, rfl⟩
  have hlz : zs.length = n' := by rw [hzs, nums_length]; exact hl
  have HAT := hide (show ∀ (k : Nat) (z y : Int), k < n' → pl[k]? = some z → p[z.toNat - 1]? = some y → zs[k]? = some y from fun k z y hk hz hy => by
    have h1 := at0_some (l := nums p pl) (k := k) (by rw [nums_length]; omega)
    rw [nums_at0 (by omega), at0_of hz, at0_of hy] at h1
    rw [hzs]; exact h1)
  rw [← hzs]
  have HLZ := hide hlz
  clear hl hlp hp hpl h h' hzs hlz
  have hst := Below.refl w.heap.size w
  have hs0 := hst.size
  go_enter Try.func112, Try.ntmps112
  go_wp2_with (first
    | (at_make; refine wpList_make_full _ rfl (.tmp 9) (.tmp 9) 24 rfl w.heap.size 3 i0 (.int .i64 0) 1 Try.underlying24 hi hz0 hz1 _ _ _ _ n' rfl rfl (by first | rfl | omega) (by first | rfl | omega) (by rw [hz2]; omega) (by unfold maxLen; omega) hs0 ?_; intro w3 hown hg))
  have hb1 := hst.grown hg hs0 (by simp)
  clear hg hst
  obtain ⟨g, hg⟩ : ∃ g, g = w.heap.size := ⟨_, rfl⟩
  obtain ⟨xs0, hown2⟩ : ∃ xs0, w3.ownsRow w.heap.size 3 1 (.slice (some ⟨g, 0, none⟩) n' n') n' xs0 := by rw [hg]; exact ⟨_, hown⟩
  rw [← hg]
  clear hg hown
  go_loopw [6, 7, 13] (fun _ _ i wr => ∃ (k : Nat) (xs : List Value), k ≤ n' ∧ i = .int .i64 k ∧ Below w.heap.size w wr ∧ wr.ownsRow w.heap.size 3 1 (.slice (some ⟨g, 0, none⟩) n' n') n' xs ∧ Hid (xs.take k = (i64s zs).take k)) (fun _ _ i _ => n' - (intOf i).toNat)
  case atStart => exact ⟨0, _, Nat.zero_le _, rfl, hb1, hown2, by exact rfl⟩
  case round =>
    obtain ⟨k, xs, hk, rfl, hb, hown', hx⟩ := hrel
    clear hown2 hb1 hs0
    have hlx : xs.length = n' := by simpa using hown'.1
    by_cases hlt : k < n'
    · obtain ⟨ad, u, rfl, had, hu, hc⟩ := ((hr'.more hB').below hb).at_ hlt
      obtain ⟨z, hz, rfl⟩ := i64_at hu
      have hz9 : at0 pl k = z := at0_of hz
      obtain ⟨hz1', hz2'⟩ := unhide HP k hlt
      rw [hz9] at hz1' hz2'
      have hzn : z.toNat - 1 < n := by omega
      obtain ⟨ad2, u2, rfl, had2, hu2, hc2⟩ := ((hr.more hB).below hb).at_ hzn
      obtain ⟨y, hy, rfl⟩ := i64_at hu2
      obtain ⟨old, hold⟩ : ∃ old, wr.cell? ⟨g, k, none⟩ = some old := ⟨_, by rw [hown'.cellAt k (by omega)]; exact List.getElem?_eq_getElem (by omega)⟩
      have hfz := hown'.frozenAt k
      have hst := hide (take_set_i (unhide hx) (i64_get (unhide HAT k z y hlt hz hy)) (by omega))
      have ho2 := (hown'.stored k (.int .i64 y)).1
      have hb2 := below_set_i hb hown' k (.int .i64 y)
      clear hx hlx hu hu2 hz hy hown' hb
      go_wp2
      go_roundw
      case rel => exact ⟨k + 1, _, by omega, by go_num, hb2, ho2, hst⟩
      case measure => simp [intOf]; omega
    · obtain rfl : n' = k := by omega
      have hl3 : zs.length = n' := unhide HLZ
      have : xs = i64s zs := by
        have h := unhide hx
        rwa [List.take_of_length_le (by omega), List.take_of_length_le (by rw [i64_length]; omega)] at h
      subst this
      have hI : Ints wr w.heap.size (.slice (some ⟨g, 0, none⟩) n' n') zs := Ints.of_own hown'
      have hI4 := hI.low (Nat.le_refl _)
      clear hx hlx hown' hI
      go_wp2
      go_ret
      exact GivesI.mk hI4 hb
set_option maxHeartbeats 800000 in
theorem ipatat_any (A A' : Option Addr) (n c B n' c' B' : Nat) (p pl : List Int) (hp : isP p = true) (hpl : PlOK p.length pl) (w : World) (h : Arg w B A n c p) (h' : Arg w B' A' n' c' pl) :
    Calls Try.prog 111 #[.slice A n c, .slice A' n' c'] w (GivesI w (patA p pl)) := by
  have HSM := hide (show Small (nums p pl) from fun z hz => by
    obtain ⟨x, hx, rfl⟩ := List.mem_map.1 hz
    have hx2 := hpl.1 x hx
    have := isP_le hp
    have := isP_range hp (at0_some (show x.toNat - 1 < p.length by omega))
    omega)
  have hn8' : (nums p pl).length ≤ 8 := by have := plOK_le hpl; have := isP_le hp; rw [nums_length]; omega
  have HOK := hide (nums_patOK hp hpl)
  have H0 := hide (inums_any A A' n c B n' c' B' p pl hp hpl w h h')
  have hst := Below.refl w.heap.size w
  unfold patA
  obtain ⟨zs, hzs⟩ : ∃ zs, zs = nums p pl := ⟨_, rfl⟩
  rw [← hzs] at HSM HOK H0 hn8' ⊢
  clear h h' hp hpl hzs
  go_enter Try.func111, Try.ntmps111
  go_wp2_with fail
  refine (unhide H0).mono ?_
  rintro e w3 ⟨A3, c3, rfl, o3, hb3⟩
  have hA := o3.arg (by omega) o3.cap (unhide HSM)
  have H1 := hide (ipat_any A3 zs.length c3 _ zs true (unhide HOK) w3 hA)
  clear H0 o3 hA
  go_wp2_with fail
  refine (unhide H1).mono ?_
  rintro e w4 ⟨A4, c4, rfl, o4, hb4⟩
  rw [patR_yes (unhide HOK)] at o4 ⊢
  have hI4 := o4.low hb3.size
  have hb5 := below_after hb3 hb4
  clear H1 o4 hb4
  go_wp2
  go_ret
  exact GivesI.mk hI4 hb5
end Go.Proofs.Ytnnpefgbneldiaa


/-
  impl: slices.Index, slices.Contains over integers; shading.fit.
-/

namespace Go.Proofs.Ytnnpefgbneldiaa
set_option maxRecDepth 100000
open Go.RowKit Go.Maps

set_option maxHeartbeats 800000 in
theorem index_ints (A : Option Addr) (n c B : Nat) (zs : List Int) (v : Int) (w : World) (h : Arg w B A n c zs) :
    Calls Try.prog 129 #[.slice A n c, .int .i64 v] w fun e w' => (∃ z : Int, e = .returned (.int .i64 z) ∧ (z ≥ 0 ↔ v ∈ zs)) ∧ w = w' := by
  have hl := h.len
  have hn := h.le
  have hr := h.reads
  have HL := hide hl
  clear h hl
  go_enter Try.func129, Try.ntmps129
  go_wp2
  go_loop [8] (fun i => ∃ k : Nat, k ≤ n ∧ i = .int .i64 k ∧ Hid (v ∉ zs.take k)) (fun i => n - (intOf i).toNat)
  case atStart => exact ⟨0, Nat.zero_le _, rfl, hide (by simp)⟩
  case round =>
    obtain ⟨k, hk, rfl, hno⟩ := hrel
    by_cases hlt : k < n
    · obtain ⟨ad, u, rfl, _, hu, hc⟩ := hr.at_ hlt
      obtain ⟨x, hx, rfl⟩ := i64_at hu
      have HX := hide hx
      clear hu hx hr
      by_cases he : v = x
      · subst he
        have hin : Hid (v ∈ zs) := hide (List.mem_of_getElem? (unhide HX))
        go_wp2
        go_ret
        exact ⟨⟨_, rfl, ⟨fun _ => unhide hin, fun _ => by omega⟩⟩, rfl⟩
      · have hnext := hide (show v ∉ zs.take (k + 1) from fun hm => by
          rw [List.take_add_one, unhide HX] at hm
          rcases List.mem_append.1 hm with hm | hm
          · exact unhide hno hm
          · simp at hm
            exact he hm)
        clear hno HX
        go_wp2
        go_round
        case rel => exact ⟨k + 1, by omega, by go_num, hnext⟩
        case measure => simp [intOf]; omega
    · obtain rfl : n = k := by omega
      have hnin : Hid (v ∉ zs) := hide (by
        have h1 := unhide hno
        rwa [← unhide HL, List.take_length] at h1)
      clear hno HL hr
      go_wp2
      go_ret
      exact ⟨⟨_, rfl, ⟨fun h => absurd h (by omega), fun h => absurd h (unhide hnin)⟩⟩, rfl⟩
theorem contains_ints (A : Option Addr) (n c B : Nat) (zs : List Int) (v : Int) (b : Bool) (hb : decide (v ∈ zs) = b) (w : World) (h : Arg w B A n c zs) :
    Calls Try.prog 113 #[.slice A n c, .int .i64 v] w fun e w' => e = .returned (.bool b) ∧ w = w' := by
  have H1 := hide (index_ints A n c B zs v w h)
  have HB := hide hb
  clear h hb
  go_enter Try.func113, Try.ntmps113
  go_wp2_with fail
  refine (unhide H1).mono ?_
  rintro e w2 ⟨⟨z, rfl, hz⟩, rfl⟩
  have hzb : decide (z ≥ 0) = b := by rw [← unhide HB]; exact decide_eq_decide.2 hz
  clear H1 hz
  go_wp2
  go_ret
  exact ⟨rfl, rfl⟩
set_option maxHeartbeats 1600000 in
theorem ifit_any (mb m : Nat) (A A' : Option Addr) (n c B n' c' B' : Nat) (p pl : List Int) (S : List (List Int)) (hp : isP p = true) (hpl : PlOK p.length pl) (w : World) (hM : Boxes w mb m S) (h : Arg w B A n c p) (h' : Arg w B' A' n' c' pl) :
    Calls Try.prog 101 #[.map (some mb), .slice A n c, .slice A' n' c'] w (GivesB w (fitsM p pl S)) := by
  have H0 := hide (inums_any A A' n c B n' c' B' p pl hp hpl w h h')
  have hn8 : n ≤ 8 := by have := isP_le hp; have := h.len; omega
  have hn8' : n' ≤ 8 := by have := plOK_le hpl; have := isP_le hp; have := h'.len; omega
  have HSM := hide (show Small (nums p pl) from fun z hz => by
    obtain ⟨x, hx, rfl⟩ := List.mem_map.1 hz
    have hx2 := hpl.1 x hx
    have := isP_le hp
    have := isP_range hp (at0_some (show x.toNat - 1 < p.length by omega))
    omega)
  have hnl : (nums p pl).length = n' := by rw [nums_length]; exact h'.len
  have hst := Below.refl w.heap.size w
  have HLP := hide h.len
  clear hp hpl
  go_enter Try.func101, Try.ntmps101
  go_wp2_with fail
  refine (unhide H0).mono ?_
  rintro e w3 ⟨A3, c3, rfl, o3, hb3⟩
  rw [hnl] at o3 ⊢
  have hA := o3.arg (by omega) o3.cap (unhide HSM)
  have hM3 := hM.later hb3
  have hP := h.below hb3
  have hQ := h'.below hb3
  have hr := hP.reads
  have HC1 := hide (fun v => less_any A' n' c' B' pl v w3 hQ)
  have HC2 := hide (fun v => less_any A3 n' c3 _ (nums p pl) v w3 hA)
  have HC3 := hide (fun v b hb => contains_ints A' n' c' B' pl v b hb w3 hQ)
  have HCN := hide (show ∀ v, cnt pl v ≤ 8 ∧ cnt (nums p pl) v ≤ 8 from fun v => by
    have h1 := cnt_le pl v
    have h2 := cnt_le (nums p pl) v
    have := hQ.len
    omega)
  clear H0 hst o3 hA hM h h' hQ
  go_wp2
  go_loop [16] (fun i => ∃ k : Nat, k ≤ n ∧ i = .int .i64 k ∧ Hid (∀ j, j < k → ¬ (j : Int) + 1 ∈ pl → ¬ boxAt p pl j ∈ S)) (fun i => n - (intOf i).toNat)
  case atStart => exact ⟨0, Nat.zero_le _, rfl, hide (fun j hj => by omega)⟩
  case round =>
    obtain ⟨k, hk, rfl, hno⟩ := hrel
    by_cases hlt : k < n
    · obtain ⟨ad, u, rfl, _, hu, hc⟩ := hr.at_ hlt
      obtain ⟨x, hx, rfl⟩ := i64_at hu
      have hx9 : at0 p k = x := at0_of hx
      obtain ⟨bm, hbm⟩ : ∃ b, decide ((k : Int) + 1 ∈ pl) = b := ⟨_, rfl⟩
      have HI := hide (unhide HC3 ((k : Int) + 1) bm hbm)
      have H1 := hide (unhide HC1 ((k : Int) + 1))
      have H2 := hide (unhide HC2 x)
      obtain ⟨e1, _⟩ := unhide HCN ((k : Int) + 1)
      obtain ⟨_, e2⟩ := unhide HCN x
      obtain ⟨u1, hu1⟩ : ∃ u1, u1 = cnt pl ((k : Int) + 1) := ⟨_, rfl⟩
      obtain ⟨u2, hu2⟩ : ∃ u2, u2 = cnt (nums p pl) x := ⟨_, rfl⟩
      rw [← hu1] at H1 e1
      rw [← hu2] at H2 e2
      have HB := hide (show boxAt p pl k = [(u1 : Int), (u2 : Int)] from by unfold boxAt; rw [hx9, hu1, hu2])
      have HM := hide (show decide ((k : Int) + 1 ∈ pl) = bm from hbm)
      clear hu hx hbm hu1 hu2 hx9 hr
      cases bm with
      | true =>
        have hnext := hide (show ∀ j, j < k + 1 → ¬ (j : Int) + 1 ∈ pl → ¬ boxAt p pl j ∈ S from fun j hj hn => by
          by_cases e : j = k
          · subst e; exact absurd (of_decide_eq_true (unhide HM)) hn
          · exact unhide hno j (by omega) hn)
        clear hno HM HB H1 H2
        go_wp2_with fail
        refine (unhide HI).mono ?_
        rintro e w4 ⟨rfl, rfl⟩
        clear HI
        go_wp2
        go_round
        case rel => exact ⟨k + 1, by omega, by go_num, hnext⟩
        case measure => simp [intOf]; omega
      | false =>
        obtain ⟨bs, hbs⟩ : ∃ b, decide ([(u1 : Int), (u2 : Int)] ∈ S) = b := ⟨_, rfl⟩
        have HBS := hide hbs
        clear hbs
        go_wp2_with fail
        refine (unhide HI).mono ?_
        rintro e w4 ⟨rfl, rfl⟩
        clear HI
        go_wp2_with fail
        refine (unhide H1).mono ?_
        rintro e w5 ⟨rfl, rfl⟩
        clear H1
        go_wp2_with fail
        refine (unhide H2).mono ?_
        rintro e w6 ⟨rfl, rfl⟩
        clear H2
        have hrun := hM3.lookup (x := (u1 : Int)) (y := (u2 : Int)) (WalkArith.wf_i64 (by omega)) (WalkArith.wf_i64 (by omega))
        rw [unhide HBS] at hrun
        cases bs with
        | true =>
          have hnot := hide (show fitsM p pl S = false from by
            rw [Bool.eq_false_iff]
            intro hf
            refine (fitsM_iff.1 hf) k (by have := unhide HLP; omega) (of_decide_eq_false (unhide HM)) ?_
            rw [unhide HB]
            exact of_decide_eq_true (unhide HBS))
          clear hno
          go_wp2
          go_ret
          exact ⟨by rw [unhide hnot]; rfl, hb3⟩
        | false =>
          have hnext := hide (show ∀ j, j < k + 1 → ¬ (j : Int) + 1 ∈ pl → ¬ boxAt p pl j ∈ S from fun j hj hn => by
            by_cases e : j = k
            · subst e
              rw [unhide HB]
              exact of_decide_eq_false (unhide HBS)
            · exact unhide hno j (by omega) hn)
          clear hno
          go_wp2
          go_round
          case rel => exact ⟨k + 1, by omega, by go_num, hnext⟩
          case measure => simp [intOf]; omega
    · obtain rfl : n = k := by omega
      have hyes : fitsM p pl S = true := fitsM_iff.2 fun i hi hn => unhide hno i (by have := unhide HLP; omega) hn
      have HY := hide hyes
      clear hno hyes hr
      go_wp2
      go_ret
      exact ⟨by rw [unhide HY]; rfl, hb3⟩
end Go.Proofs.Ytnnpefgbneldiaa


/-
  A RANGE OVER A FUNCTION WHOSE ITERATOR TELLS THE ROUND WHAT THE HANDED VALUE POINTS TO.
-/

namespace Go.Proofs.Ytnnpefgbneldiaa
set_option maxRecDepth 100000
open Go.RowKit

variable {F : Fence} {n : Nat} {P : Program}
/-- The iterator hands x over in a world V that it has come to from U, where the last round ended: 'Kn U x V' holds; of a round that goes on it asks Kp. -/
def Tells {α : Type} (F : Fence) (n : Nat) (P : Program) (gf : Nat) (lb : Array Value) (en : α → Array Value) (Kn : World → α → World → Prop) (Kp : World → World → Prop) (S Sp : List α → Prop) (N : Nat) (w : World) : Prop :=
  ∀ (l : Nat) (J Jx : List α → World → Prop) (W : World), Below w.heap.size w W → AbidesFrom W.heap.size J → AbidesFrom W.heap.size Jx →
    (∀ pre x U V, J pre U → Below U.heap.size U V → Kn U x V → pre.length < N → YieldAt F (n - 1) P l (en x) V fun e V' => (e = .returned (.bool true) ∧ J (pre ++ [x]) V' ∧ Kp V V') ∨ (e = .returned (.bool false) ∧ Jx (pre ++ [x]) V')) →
    J [] W → CallsIn F n P gf (#[.func (.yield l) #[] #[]] ++ lb) W fun e V => (∃ v, e = .returned v) ∧ ((∃ xs, S xs ∧ J xs V) ∨ ∃ pre, Sp pre ∧ Jx pre V)

/-- The two blocks of the loop's own book-keeping, from block D on. -/
structure Desk (D : Nat) (r : Loop) (W : World) : Prop where
  rec_ : W.heap[D + 1]? = some (.loop r)
  marks : W.heap[D]? = some (.deferred (some []))
theorem Desk.lt {D : Nat} {r : Loop} {W : World} (h : Desk D r W) : D + 1 < W.heap.size := (Array.getElem?_eq_some_iff.1 h.rec_).1
theorem Desk.walked {D : Nat} {r : Loop} {W W' : World} {row : Option Nat} (h : Desk D r W) (hg : W.grownBy W' row) (hr : ∀ k, row = some k → ∃ o : Obj, W.heap[k]? = some o ∧ o.isWalk = true) : Desk D r W' :=
  ⟨(grownBy_keeps hg hr h.rec_ rfl).trans h.rec_, (grownBy_keeps hg hr h.marks rfl).trans h.marks⟩
theorem Desk.kept {D : Nat} {r : Loop} {W W' : World} (h : Desk D r W) (hk : KeepsFrom D W W') : Desk D r W' := ⟨hk.same _ _ (by omega) h.rec_ rfl, hk.same _ _ (Nat.le_refl _) h.marks rfl⟩
theorem Desk.later {D : Nat} {r : Loop} {W W' : World} (h : Desk D r W) (hb : Below W.heap.size W W') : Desk D r W' := ⟨(hb.block _ h.lt).trans h.rec_, (hb.block _ (by have := h.lt; omega)).trans h.marks⟩
/-- The same object put into both worlds. -/
theorem below_both {U V : World} {l : Nat} (h : Below U.heap.size U V) (hl : l < U.heap.size) (o : Obj) : Below (U.putObj l o).heap.size (U.putObj l o) (V.putObj l o) := by
  have hsU := (grownBy_putObj' U l o).size
  have hsz : (U.putObj l o).heap.size = U.heap.size := by unfold World.putObj; simp
  have hsz' : (V.putObj l o).heap.size = V.heap.size := by unfold World.putObj; simp
  refine ⟨h.os, h.tape, h.output, by rw [hsz, hsz']; exact h.size, fun i hi => ?_⟩
  rw [hsz] at hi
  by_cases e : i = l
  · subst e
    rw [World.putObj_heap_same hl, World.putObj_heap_same (Nat.lt_of_lt_of_le hl h.size)]
  · rw [World.putObj_heap_other e, World.putObj_heap_other e]
    exact h.block i hi
theorem Desk.turn {D : Nat} {r : Loop} {W : World} (h : Desk D r W) (r' : Loop) : Desk D r' (W.putObj (D + 1) (.loop r')) := ⟨World.putObj_heap_same h.lt, (World.putObj_heap_other (by omega)).trans h.marks⟩
theorem Desk.new (w : World) (r : Loop) : Desk w.heap.size r ((w.alloc (.deferred (some []))).alloc (.loop r)) := by
  refine ⟨?_, (Below.heap_alloc _ _ _ (by simp)).trans (World.alloc_heap_new w _)⟩
  have := World.alloc_heap_new (w.alloc (.deferred (some []))) (.loop r)
  rwa [World.size_alloc] at this
/-- What speaks of cells abides the turn of the record. -/
theorem own_turn {β : Type} {D : Nat} {I : β → World → Prop} (hI : OwnFrom D I) {s : β} {r r' : Loop} {W : World} (h : I s W) (hd : Desk D r W) : I s (W.putObj (D + 1) (.loop r')) := hI.putObj _ h (by omega) hd.rec_ rfl
theorem walks_own {β : Type} {D B : Nat} {I : β → World → Prop} (hI : OwnFrom D I) (hB : D ≤ B) {s : β} {W W' : World} {row : Option Nat} (h : I s W) (hg : W.grownBy W' row) (hr : ∀ k, row = some k → B ≤ k ∧ ∃ o : Obj, W.heap[k]? = some o ∧ o.isWalk = true) : I s W' :=
  hI s W W' row h hg fun k e => by
    obtain ⟨h1, o, h2, h3⟩ := hr k e
    exact ⟨by omega, o, h2, Obj.not_cells_of_walk h3⟩

set_option maxHeartbeats 1600000 in
theorem range_tells {α : Type} {g : Operand} {ps : Array Tmp} {assign body : Code} {Q : Exit → Act → World → Prop} {a : Act} {w : World}
    (hro : F.round = none) (h1 : 1 ≤ n) {gf : Nat} {lb : Array Value} (hg : a.eval g = .func (.func gf) #[] lb) (hFg : F.fn gf) (eg : ∀ args w, (callFunc gf args).run P w = .ok (.enter gf args) w)
    {en : α → Array Value} {Kn : World → α → World → Prop} {Kp : World → World → Prop} {S Sp : List α → Prop} {N : Nat} {w0 : World} (hseq : Tells F (n - 1) P gf lb en Kn Kp S Sp N w0) (hb0 : Below w0.heap.size w0 w)
    (hKt : ∀ {A B C : World}, Kp A B → Kp B C → Kp A C) (hKb : ∀ (W : World) (r r' : Loop), Desk w.heap.size r W → Kp W (W.putObj (w.heap.size + 1) (.loop r')))
    (hps : ∀ x, (en x).size = ps.size) (hKn : ∀ (U V : World) (x : α) (r r' : Loop), Desk w.heap.size r U → Desk w.heap.size r V → Kn U x V → Kn (U.putObj (w.heap.size + 1) (.loop r')) x (V.putObj (w.heap.size + 1) (.loop r')))
    (I : List α → World → Prop) (Ix : Code → List α → World → Prop) (hI : OwnFrom w.heap.size I) (hIx : ∀ c, OwnFrom w.heap.size (Ix c)) (h0 : I [] w) (a₁ : α → Act)
    (hassign : ∀ (l : Nat) (x : α) (W : World) (K : Act → World → Prop), K (a₁ x) W →
      assign.wpIn (F.inRound l) (n - 1 - 1) P (Exit.then K (fun _ _ _ => False)) { tmps := (ps.zip (en x)).foldl (fun t (p, v) => t.setIfInBounds p v) a.tmps, defers := [] } W)
    (hbody : ∀ (l : Nat) (pre : List α) (x : α) (U W : World), I pre U → Below U.heap.size U W → Kn U x W → pre.length < N → w.heap.size + 2 ≤ U.heap.size → body.wpIn (F.inRound l) (n - 1 - 1) P (ownPostG w.heap.size Kp I Ix (pre ++ [x]) W) (a₁ x) W)
    (hdone : ∀ (xs : List α) (W : World), S xs → I xs W → W.heap[w.heap.size]? = some (.deferred (some [])) → Q .normal { a with defers := { target := .collected w.heap.size, args := #[] } :: a.defers } W)
    (hstop : ∀ (c : Code) (pre : List α) (W : World), Sp pre → Ix c pre W → W.heap[w.heap.size]? = some (.deferred (some [])) → c.wpIn F n P Q { a with defers := { target := .collected w.heap.size, args := #[] } :: a.defers } W) :
    (Code.rangeFunc g ps assign body).wpIn F n P Q a w := by
  refine wpIn_rangeFunc fun fn hfn => ?_
  rw [hro]
  obtain ⟨R, hR⟩ : ∃ R : LoopState → Option Code → Loop, R = fun st pe => { state := st, pending := pe, fn, tmps := a.tmps, params := ps, assign, body, defers := w.heap.size } := ⟨_, rfl⟩
  have hd0 := Desk.new w (R .ready none)
  have hI0 : I [] ((w.alloc (.deferred (some []))).alloc (.loop (R .ready none))) := hI.alloc _ (hI.alloc _ h0)
  have hbel : Below w0.heap.size w0 ((w.alloc (.deferred (some []))).alloc (.loop (R .ready none))) := hb0.trans ((((Below.refl _ w).alloc (Nat.le_refl _) _).alloc (by simp) _).mono hb0.size)
  have hrun0 : (Instr.enterLoop fn a.tmps ps assign body none).run P w = .ok (w.heap.size + 1, [{ target := .collected w.heap.size, args := #[] }]) ((w.alloc (.deferred (some []))).alloc (.loop (R .ready none))) := by rw [hR]; exact run_enterLoop_outer _ _ _ _ _
  have hsz1 : w.heap.size ≤ ((w.alloc (.deferred (some []))).alloc (.loop (R .ready none))).heap.size := by simp; omega
  obtain ⟨W1, hW1⟩ : ∃ W1, W1 = (w.alloc (.deferred (some []))).alloc (.loop (R .ready none)) := ⟨_, rfl⟩
  rw [← hW1] at hd0 hI0 hbel hrun0 hsz1
  clear hW1
  refine ⟨w.heap.size + 1, [{ target := .collected w.heap.size, args := #[] }], W1, { target := .fn (.func gf) lb, args := #[.func (.yield (w.heap.size + 1)) #[] #[]] }, W1, gf,
    #[.func (.yield (w.heap.size + 1)) #[] #[]] ++ lb, W1, hrun0, ?_, ?_, ?_, fun _ => h1, ?_⟩
  · simp only [resolve, hg]
    simp [go_sem]
  · intro f' hf'
    simp [Target.leads] at hf'
    subst hf'
    exact hFg
  · simp [invoke, go_sem, eg]
  · refine (hseq (w.heap.size + 1) (fun pre W => I pre W ∧ Desk w.heap.size (R .ready none) W) (fun pre W => ∃ c, Ix c pre W ∧ Desk w.heap.size (R .done (some c)) W) W1 hbel
      (fun s X Y row hs hgr hr => ⟨walks_own hI hsz1 hs.1 hgr hr, hs.2.walked hgr fun k e => (hr k e).2⟩)
      (fun s X Y row hs hgr hr => by obtain ⟨c, hc, hd⟩ := hs; exact ⟨c, walks_own (hIx c) hsz1 hc hgr hr, hd.walked hgr fun k e => (hr k e).2⟩)
      ?_ ⟨hI0, hd0⟩).mono ?_
    · rintro pre x U V ⟨hi, hdU⟩ hbU hkn hlen
      have hd := hdU.later hbU
      have hy := run_yield (P := P) (args := en x) hd.rec_ (by rw [hR]; exact hps x)
      rw [hR] at hy
      refine ⟨fn, _, assign, body, hy, roundIn_of_wpIn hfn (hassign _ x V _ ⟨_, run_beginRound hd.rec_ (by rw [hR]), ?_⟩)⟩
      obtain ⟨r1, hr1⟩ : ∃ r1 : Loop, r1 = { R .ready none with state := .busy } := ⟨_, rfl⟩
      rw [← hr1]
      have hd1 := hd.turn r1
      have hk1 := hKb V _ r1 hd
      have hlt := (hdU.turn r1).lt
      refine wpIn_mono (hbody _ pre x _ _ (own_turn hI hi hdU) (below_both hbU hdU.lt _) (hKn _ _ _ _ r1 hdU hd hkn) hlen (by omega)) ?_
      -- the end of a round
      have fin : ∀ (c : Option Code) (V' : World), KeepsFrom w.heap.size (V.putObj (w.heap.size + 1) (.loop r1)) V' → Desk w.heap.size r1 V' ∧
          (Instr.endRound (w.heap.size + 1) c).run P V' = .ok (.bool c.isNone) (V'.putObj (w.heap.size + 1) (.loop (R (if c.isNone then .ready else .done) c))) := fun c V' hk => by
        have hd2 := hd1.kept hk
        refine ⟨hd2, ?_⟩
        have := run_endRound (P := P) c hd2.rec_
        rw [hr1] at this
        rw [this, hR]
      rintro e a3 V3 hp
      cases e with
      | normal =>
        obtain ⟨hd3, hrun⟩ := fin none V3 hp.1
        exact ⟨_, _, hrun, .inl ⟨rfl, ⟨own_turn hI hp.2.2 hd3, hd3.turn _⟩, hKt (hKt hk1 hp.2.1) (hKb _ _ _ hd3)⟩⟩
      | ret =>
        obtain ⟨hd3, hrun⟩ := fin (some .ret) V3 hp.1
        exact ⟨_, _, hrun, .inr ⟨rfl, .ret, own_turn (hIx _) hp.2 hd3, hd3.turn _⟩⟩
      | exit id =>
        obtain ⟨hd3, hrun⟩ := fin (some (.exit id)) V3 hp.1
        exact ⟨_, _, hrun, .inr ⟨rfl, .exit id, own_turn (hIx _) hp.2 hd3, hd3.turn _⟩⟩
      | goto t =>
        obtain ⟨hd3, hrun⟩ := fin (some (.goto t)) V3 hp.1
        exact ⟨_, _, hrun, .inr ⟨rfl, .goto t, own_turn (hIx _) hp.2 hd3, hd3.turn _⟩⟩
      | panic _ => exact hp.elim
      | outgrown => exact hp.elim
    · rintro e V ⟨⟨v, rfl⟩, hend⟩
      rcases hend with ⟨xs, hS, hi, hd⟩ | ⟨pre, hSp, c, hi, hd⟩
      · have hrun := run_endLoop (P := P) hd.rec_ (by rw [hR]; simp)
        rw [hR] at hrun
        exact ⟨none, _, hrun, hdone xs _ hS (own_turn hI hi hd) (hd.turn _).marks⟩
      · have hrun := run_endLoop (P := P) hd.rec_ (by rw [hR]; simp)
        rw [hR] at hrun
        exact ⟨some c, _, hrun, hstop c pre _ hSp (own_turn (hIx c) hi hd) (hd.turn _).marks⟩

/-! what a round keeps: rows -/
/-- Blocks of cells from block D on that hold no rows of rows lie as they lay. -/
structure RowsFrom (D : Nat) (W W' : World) : Prop where
  size : W.heap.size ≤ W'.heap.size
  same : ∀ (k : Nat) (cur : Array Value) (e : TypeId) (fr : Nat × Nat), D ≤ k → W.heap[k]? = some (.cells cur e fr) → e ≠ 24 → W'.heap[k]? = some (.cells cur e fr)
theorem RowsFrom.refl (D : Nat) (W : World) : RowsFrom D W W := ⟨Nat.le_refl _, fun _ _ _ _ _ h _ => h⟩
theorem RowsFrom.trans {D : Nat} {X Y Z : World} (h : RowsFrom D X Y) (k : RowsFrom D Y Z) : RowsFrom D X Z := ⟨Nat.le_trans h.size k.size, fun i cur e fr hi hk he => k.same i cur e fr hi (h.same i cur e fr hi hk he) he⟩
theorem RowsFrom.of_keepI {D : Nat} {W W' : World} (h : KeepI W W') : RowsFrom D W W' := ⟨h.size, fun k cur e fr _ hk he => (h.block k cur e fr hk he).trans hk⟩
theorem RowsFrom.of_below {D : Nat} {W W' : World} (h : Below W.heap.size W W') : RowsFrom D W W' := .of_keepI (.of_below h)
/-- A step that turns one block alone: it lies below D, or it holds no cells. -/
theorem RowsFrom.of_grownBy {D : Nat} {W W' : World} {row : Option Nat} (hg : W.grownBy W' row) (hr : ∀ k, row = some k → k < D ∨ ∃ o : Obj, W.heap[k]? = some o ∧ o.isCells = false) : RowsFrom D W W' :=
  ⟨hg.size, fun k cur e fr hk hc _ => (hg.block k (Array.getElem?_eq_some_iff.1 hc).1 fun e => by
    rcases hr k e.symm with h | ⟨o, ho, h⟩
    · omega
    · rw [hc] at ho; cases ho; cases h).trans hc⟩
theorem RowsFrom.turn {D B : Nat} {r : Loop} {W : World} (h : Desk B r W) (r' : Loop) : RowsFrom D W (W.putObj (B + 1) (.loop r')) := .of_grownBy (grownBy_putObj' W _ _) fun k e => by cases e; exact .inr ⟨_, h.rec_, rfl⟩
theorem RowsFrom.stored {D b : Nat} (W : World) (hb : b < D) (v : Value) : RowsFrom D W (W.setCell ⟨b, 0, none⟩ v) := .of_grownBy (grownBy_setCell' W b v) fun k e => by cases e; exact .inl hb
theorem Ints.rows {D : Nat} {W W' : World} {v : Value} {zs : List Int} (h : Ints W D v zs) (hk : RowsFrom D W W') : Ints W' D v zs := by
  refine ⟨h.1, ?_⟩
  rcases h.2 with h0 | ⟨g, cap, cur, e, hv, hb, hc, h1, h2, h3⟩
  · exact .inl h0
  · exact .inr ⟨g, cap, cur, e, hv, hb, hk.same g cur e _ hb hc h3, h1, h2, h3⟩
/-- A row speaks of cells alone. -/
theorem ints_own (D B : Nat) : OwnFrom D (fun (x : Value × List Int) W => Ints W B x.1 x.2) := fun x X Y row h hg hr => by
  refine ⟨h.1, ?_⟩
  rcases h.2 with h0 | ⟨g, cap, cur, e, hv, hb, hc, rest⟩
  · exact .inl h0
  · refine .inr ⟨g, cap, cur, e, hv, hb, (hg.block g (Array.getElem?_eq_some_iff.1 hc).1 fun e' => ?_).trans hc, rest⟩
    obtain ⟨_, o, ho, hcl⟩ := hr g e'.symm
    rw [hc] at ho; cases ho; cases hcl
/-- A row that was made since the last round: what range_tells asks of Kn. -/
theorem kn_row (D : Nat) (U V : World) (x : Value × List Int) (r r' : Loop) (_ : Desk D r U) (hd : Desk D r V) (h : Ints V U.heap.size x.1 x.2) : Ints (V.putObj (D + 1) (.loop r')) (U.putObj (D + 1) (.loop r')).heap.size x.1 x.2 := by
  have hsz : (U.putObj (D + 1) (.loop r')).heap.size = U.heap.size := by unfold World.putObj; simp
  rw [hsz]
  exact own_turn (ints_own D U.heap.size) (s := x) h hd
theorem intsS_own (D B : Nat) {β : Type} (v : Value) (f : β → List (List Int)) : OwnFrom D (fun (s : β) W => IntsS W B v (f s)) := fun s X Y row h hg hr => by
  obtain ⟨vs, h1, h2⟩ := h
  have hne : ∀ (u : Value) (zs : List Int), Ints X B u zs → Ints Y B u zs := fun u zs hu => ints_own D B (u, zs) X Y row hu hg hr
  refine ⟨vs, ?_, ⟨h2.len, fun i u zs hu hz => hne u zs (h2.row i u zs hu hz), h2.away⟩⟩
  refine h1.kept hg ?_
  rcases h1.2 with hn | ⟨g, cap, cur, hv, hb, hc, rest⟩
  · rw [hn.1]; exact .inl rfl
  · rw [hv]
    refine .inr fun e => ?_
    obtain ⟨_, o, ho, hcl⟩ := hr g e.symm
    rw [hc] at ho; cases ho; cases hcl
end Go.Proofs.Ytnnpefgbneldiaa
