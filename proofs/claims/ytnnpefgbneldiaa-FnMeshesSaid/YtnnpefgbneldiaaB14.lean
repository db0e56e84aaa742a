/-
  Words and contracts that the laws lean on, bundled: Sort, SortB, InvMI.
-/
import Derived.Test.YtnnpefgbneldiaaB6
import Derived.Test.YtnnpefgbneldiaaB3
import Derived.Test.YtnnpefgbneldiaaShelfF
import Derived.Test.YtnnpefgbneldiaaB10
import Derived.Test.YtnnpefgbneldiaaB11
import Derived.Test.YtnnpefgbneldiaaB12
import Derived.Test.YtnnpefgbneldiaaB13
import Derived.Deep.RegionHeld3

/-
  slices.SortFunc over rows of rows, under impl.comparePerms.
-/

namespace Go.Proofs.Ytnnpefgbneldiaa
set_option maxRecDepth 100000
open Go.RowKit

/-! rows, each with what it holds -/
abbrev Pr := Value × List Int
structure RowPrs (w : World) (B : Nat) (xs : List Pr) : Prop where
  row : ∀ q ∈ xs, Ints w B q.1 q.2
  away : xs.Pairwise fun a b => Away a.1 b.1
theorem RowPrs.inner {w : World} {B : Nat} {xs : List Pr} (h : RowPrs w B xs) : Inner w B (xs.map (·.1)) (xs.map (·.2)) := by
  refine ⟨by simp, fun i u zs hu hz => ?_, ?_⟩
  · rw [List.getElem?_map] at hu hz
    cases hq : xs[i]? with
    | none => rw [hq] at hu; cases hu
    | some q =>
      rw [hq] at hu hz
      cases hu; cases hz
      exact h.row q (List.mem_of_getElem? hq)
  · rw [List.pairwise_map]
    exact h.away
theorem Inner.prs {w : World} {B : Nat} {vs : List Value} {zss : List (List Int)} (h : Inner w B vs zss) : ∃ xs : List Pr, xs.map (·.1) = vs ∧ xs.map (·.2) = zss ∧ RowPrs w B xs := by
  have h1 : (vs.zip zss).map (·.1) = vs := List.map_fst_zip (by rw [h.len]; exact Nat.le_refl _)
  have h2 : (vs.zip zss).map (·.2) = zss := List.map_snd_zip (by rw [h.len]; exact Nat.le_refl _)
  refine ⟨vs.zip zss, h1, h2, fun q hq => ?_, ?_⟩
  · obtain ⟨i, hi, rfl⟩ := List.getElem_of_mem hq
    rw [List.length_zip] at hi
    exact h.row i _ _ (by rw [List.getElem_zip]; exact List.getElem?_eq_getElem (by omega)) (by rw [List.getElem_zip]; exact List.getElem?_eq_getElem (by omega))
  · have := h.away
    rw [← h1, List.pairwise_map] at this
    exact this
theorem RowPrs.sub {w : World} {B : Nat} {xs ys : List Pr} (h : RowPrs w B xs) (hs : ys.Sublist xs) : RowPrs w B ys := ⟨fun q hq => h.row q (hs.subset hq), h.away.sublist hs⟩
theorem RowPrs.perm {w : World} {B : Nat} {xs ys : List Pr} (h : RowPrs w B xs) (hp : ys.Perm xs) : RowPrs w B ys :=
  ⟨fun q hq => h.row q (hp.subset hq), (hp.pairwise_iff (fun {_ _} h => h.symm)).2 h.away⟩
theorem RowPrs.keepI {w w' : World} {B : Nat} {xs : List Pr} (h : RowPrs w B xs) (hk : KeepI w w') : RowPrs w' B xs := ⟨fun q hq => (h.row q hq).keepI hk, h.away⟩

/-! the sort -/
structure El (w : World) (B : Nat) where
  q : Pr
  row : Ints w B q.1 q.2
  perm : isP q.2 = true
def El.enc {w : World} {B : Nat} (x : El w B) : Value := x.q.1
def El.cf {w : World} {B : Nat} (x y : El w B) : Int := cmpV x.q.2 y.q.2
theorem els {w : World} {B : Nat} : ∀ xs : List Pr, (∀ q ∈ xs, Ints w B q.1 q.2 ∧ isP q.2 = true) → ∃ ds : List (El w B), ds.map (·.q) = xs
  | [], _ => ⟨[], rfl⟩
  | q :: xs, h => by
    obtain ⟨ds, hd⟩ := els xs fun q hq => h q (by simp [hq])
    exact ⟨⟨q, (h q (by simp)).1, (h q (by simp)).2⟩ :: ds, by rw [List.map_cons, hd]⟩
theorem El.one {w : World} {B : Nat} : OneCell (El.enc (w := w) (B := B)) := fun x => by
  obtain ⟨A, c, h⟩ := x.row.slice
  unfold El.enc
  rw [h]; rfl
theorem El.swo {w : World} {B : Nat} : Sort.SWO (ltOf (El.cf (w := w) (B := B))) where
  irrefl x := by unfold ltOf El.cf; rw [cmpV_befL]; exact befL_irrefl _
  trans x y z h1 h2 := by unfold ltOf El.cf at *; rw [cmpV_befL] at *; exact befL_trans h1 h2
  ntrans x y z h1 h2 := by
    unfold ltOf El.cf at *
    rw [cmpV_befL] at *
    cases h3 : befL x.q.2 z.q.2 with
    | false => rfl
    | true =>
      have h4 := befL_le_lt h1 h3
      rw [h2] at h4; cases h4
theorem take_put {α : Type} [Inhabited α] (enc : α → Value) (cur : Array Value) (d : Array α) (h : d.size ≤ cur.size) : (Sort.putCells enc 0 d cur).toList.take d.size = d.toList.map enc := by
  apply List.ext_getElem?
  intro j
  by_cases hj : j < d.size
  · rw [List.getElem?_take_of_lt hj, Array.getElem?_toList]
    simp [Sort.putCells, hj, show j < cur.size by omega]
  · rw [List.getElem?_take_eq_none (by omega), List.getElem?_eq_none (by simp; omega)]
theorem heap_put {α : Type} [Inhabited α] (enc : α → Value) {w : World} {g m : Nat} {os : Array Obj} {cur : Array Value} {e : TypeId} {fr : Nat × Nat} (d : Array α) (hb : w.heap[g]? = some (.cells cur e fr)) :
    (sortWorld enc w g 0 m d os).heap[g]? = some (.cells (Sort.putCells enc 0 d cur) e fr) := by
  have hg : g < w.heap.size := (Array.getElem?_eq_some_iff.1 hb).1
  unfold sortWorld
  rw [Sort.heap_grow_old _ _ (by simpa using hg)]
  simp [Sort.putRow, Sort.mapBlock, Sort.ahead, Array.getElem?_modify, hb, Sort.onCells]
theorem heap_far {α : Type} [Inhabited α] (enc : α → Value) {w : World} {g m : Nat} {os : Array Obj} (d : Array α) {i : Nat} (hi : i < w.heap.size) (hne : g ≠ i) : (sortWorld enc w g 0 m d os).heap[i]? = w.heap[i]? := by
  unfold sortWorld
  rw [Sort.heap_grow_old _ _ (by simpa using hi)]
  simp [Sort.putRow, Sort.mapBlock, Sort.ahead, Array.getElem?_modify, hne]
theorem size_sorted {α : Type} [Inhabited α] (enc : α → Value) (w : World) (g m : Nat) (os : Array Obj) (d : Array α) : w.heap.size ≤ (sortWorld enc w g 0 m d os).heap.size := by unfold sortWorld; simp
theorem grown_sorted {α : Type} [Inhabited α] (enc : α → Value) (w : World) (g m : Nat) (os : Array Obj) (d : Array α) : w.grownBy (sortWorld enc w g 0 m d os) (some g) :=
  ⟨rfl, rfl, rfl, size_sorted enc w g m os d, fun _ hk hne => heap_far enc d hk fun e => hne (by rw [e])⟩
theorem own_sorted {α : Type} [Inhabited α] (enc : α → Value) {w : World} {B g n cap m : Nat} {e : TypeId} {os : Array Obj} {xs : List Value} (d : Array α) (hd : d.size = n) (h : w.ownsRow B e 1 (.slice (some ⟨g, 0, none⟩) n cap) n xs) :
    (sortWorld enc w g 0 m d os).ownsRow B e 1 (.slice (some ⟨g, 0, none⟩) n cap) n (d.toList.map enc) := by
  refine ⟨by simp [hd], ?_⟩
  rcases h.2 with ⟨hv, _⟩ | ⟨g', cap', cur, hv, hb, hg, hnc, hc, hsz, ht⟩
  · cases hv
  · injection hv with h1 h2 h3
    injection h1 with h1
    injection h1 with h1
    subst h1; subst h3
    exact .inr ⟨g, cap, _, rfl, hb, heap_put enc d hg, hnc, hc, by simpa [Sort.putCells] using hsz, by rw [Nat.mul_one, ← hd]; exact take_put enc cur d (by omega)⟩
theorem holds_own {α : Type} [Inhabited α] (enc : α → Value) {w : World} {B g n cap : Nat} {e : TypeId} (ds : List α) (h : w.ownsRow B e 1 (.slice (some ⟨g, 0, none⟩) n cap) n (ds.map enc)) : Sort.Holds enc w g 0 ds.toArray := by
  have hl : ds.length = n := by simpa using h.1
  intro j hj
  have hj' : j < ds.length := by simpa using hj
  refine ⟨?_, by rw [Nat.zero_add]; exact h.frozenAt j⟩
  rw [Nat.zero_add, h.cellAt j (by omega)]
  simp [hj']

/-- A row of rows, sorted: the same rows, in order. -/
def Sorted (w : World) (B g n cap : Nat) (xs : List Pr) (e : Ending) (w' : World) : Prop :=
  e = .returned (.tuple #[]) ∧ ∃ ys : List Pr, ys.Perm xs ∧ (∀ (i j : Nat) (x y : Pr), i < j → ys[i]? = some x → ys[j]? = some y → befL y.2 x.2 = false) ∧
    w'.ownsRow B 24 1 (.slice (some ⟨g, 0, none⟩) n cap) n (ys.map (·.1)) ∧ w.grownBy w' (some g)
end Go.Proofs.Ytnnpefgbneldiaa


/-
  slices.SortFunc over rows of two, under slices.Compare.
-/

namespace Go.Proofs.Ytnnpefgbneldiaa
set_option maxRecDepth 100000
open Go.RowKit
structure El2 (w : World) (B : Nat) where
  q : Pr
  row : Ints w B q.1 q.2
  two : q.2.length = 2
  small : Small q.2
def El2.enc {w : World} {B : Nat} (x : El2 w B) : Value := x.q.1
def El2.cf {w : World} {B : Nat} (x y : El2 w B) : Int := lexV x.q.2 y.q.2
theorem els2 {w : World} {B : Nat} : ∀ xs : List Pr, (∀ q ∈ xs, Ints w B q.1 q.2 ∧ q.2.length = 2 ∧ Small q.2) → ∃ ds : List (El2 w B), ds.map (·.q) = xs
  | [], _ => ⟨[], rfl⟩
  | q :: xs, h => by
    obtain ⟨ds, hd⟩ := els2 xs fun q hq => h q (by simp [hq])
    exact ⟨⟨q, (h q (by simp)).1, (h q (by simp)).2.1, (h q (by simp)).2.2⟩ :: ds, by rw [List.map_cons, hd]⟩
theorem El2.one {w : World} {B : Nat} : OneCell (El2.enc (w := w) (B := B)) := fun x => by
  obtain ⟨A, c, h⟩ := x.row.slice
  unfold El2.enc
  rw [h]; rfl
theorem lexV_befL {p q : List Int} (h : p.length = q.length) : decide (lexV p q < 0) = befL p q := by rw [lexV_lexL h, befL_eq h]
theorem El2.lt {w : World} {B : Nat} (x y : El2 w B) : ltOf (El2.cf (w := w) (B := B)) x y = befL x.q.2 y.q.2 := by
  unfold ltOf El2.cf
  exact lexV_befL (by rw [x.two, y.two])
theorem El2.swo {w : World} {B : Nat} : Sort.SWO (ltOf (El2.cf (w := w) (B := B))) where
  irrefl x := by rw [El2.lt]; exact befL_irrefl _
  trans x y z h1 h2 := by rw [El2.lt] at *; exact befL_trans h1 h2
  ntrans x y z h1 h2 := by
    rw [El2.lt] at *
    cases h3 : befL x.q.2 z.q.2 with
    | false => rfl
    | true =>
      have h4 := befL_le_lt h1 h3
      rw [h2] at h4; cases h4
theorem sortB_any (w : World) (B g n cap : Nat) (xs : List Pr) (hown : w.ownsRow B 24 1 (.slice (some ⟨g, 0, none⟩) n cap) n (xs.map (·.1))) (hx : RowPrs w B xs) (hP : ∀ q ∈ xs, q.2.length = 2 ∧ Small q.2) (hn : n ≤ 1048576) :
    Calls Try.prog 80 #[.slice (some ⟨g, 0, none⟩) n cap, .func (.func 81) #[] #[]] w (Sorted w B g n cap xs) := by
  have hl : xs.length = n := by simpa using hown.1
  cases xs with
  | nil =>
    obtain rfl : n = 0 := by simpa using hl.symm
    refine (Try.slices_SortFunc_none (α := Unit) _ _ _ w).mono ?_
    rintro e w' ⟨rfl, rfl⟩
    exact ⟨rfl, [], List.Perm.refl _, fun i j x y _ h => by simp at h, hown, World.grownBy.refl _ _⟩
  | cons q xs =>
    obtain ⟨ds, hds⟩ := els2 (q :: xs) fun p hp => ⟨hx.row p hp, hP p hp⟩
    have hq := hx.row q (by simp)
    have hqP := hP q (by simp)
    letI : Inhabited (El2 w B) := ⟨⟨q, hq, hqP.1, hqP.2⟩⟩
    have henc : ds.map El2.enc = (q :: xs).map (·.1) := by rw [← hds, List.map_map]; rfl
    have hdl : ds.length = n := by rw [← hl, ← hds, List.length_map]
    have hg := (hown.lt g rfl).2
    have eg : ∀ args w, (callFunc 81 args).run Try.prog w = .ok (.enter 81 args) w := enters_of Try.func81 (by kernel_rfl) rfl
    have hcmp : CmpLays1 Try.prog 81 #[] (El2.enc (w := w) (B := B)) El2.cf g 0 ds.toArray.size w := fun m os dk hs x y => by
      have hk : KeepI w (sortWorld El2.enc w g 0 m dk os) := by
        have hgr := grown_sorted (El2.enc (w := w) (B := B)) w g m os dk
        exact KeepI.of_grown hown hgr
      obtain ⟨A1, c1, h1⟩ := x.row.slice
      obtain ⟨A2, c2, h2⟩ := y.row.slice
      have i1 := x.row.keepI hk
      have i2 := y.row.keepI hk
      show Calls _ _ #[x.q.1, y.q.1] _ _
      rw [h1] at i1 ⊢
      rw [h2] at i2 ⊢
      exact (compare_any A1 A2 _ c1 _ _ c2 _ x.q.2 y.q.2 _ (i1.arg (by rw [x.two]; omega) i1.cap x.small) (i2.arg (by rw [y.two]; omega) i2.cap y.small)).mono fun e w' h => ⟨h.1, 0, #[], by rw [← h.2, Sort.grow_empty]; rfl⟩
    have hcon := Try.slices_SortFunc (El2.enc (w := w) (B := B)) El2.one El2.cf El2.swo 81 #[] g 0 cap ds.toArray w eg hcmp (holds_own El2.enc ds (by rw [henc]; exact hown)) hg (by simp; omega)
    rw [show ds.toArray.size = n by simpa using hdl] at hcon
    refine hcon.mono ?_
    rintro e w' ⟨rfl, d', m, os, hp, hs, rfl⟩
    obtain ⟨p1, _, p3⟩ := hp
    have hd' : d'.size = n := by rw [p1]; simpa using hdl
    have hperm : d'.toList.Perm ds := by
      have h1 : d'.extract 0 n = d' := by rw [← hd']; simp
      have h2 : ds.toArray.extract 0 n = ds.toArray := by rw [← hdl]; simp
      rw [h1, h2] at p3
      simpa using p3
    refine ⟨rfl, d'.toList.map (·.q), by rw [← hds]; exact hperm.map _, fun i j x y hij hi hj => ?_, ?_, grown_sorted _ _ _ _ _ _⟩
    · rw [List.getElem?_map] at hi hj
      have hjn : j < n := by
        cases hq : d'.toList[j]? with
        | none => rw [hq] at hj; cases hj
        | some u => have := (List.getElem?_eq_some_iff.1 hq).1; simpa [hd'] using this
      have := hs i j (Nat.zero_le _) hij hjn
      rw [El2.lt] at this
      rw [getElem!_pos d' i (by omega), getElem!_pos d' j (by omega)] at this
      rw [List.getElem?_eq_getElem (by simp; omega)] at hi hj
      simp at hi hj
      subst hi; subst hj
      exact this
    · rw [List.map_map]
      exact own_sorted El2.enc d' hd' hown
end Go.Proofs.Ytnnpefgbneldiaa


/-
  impl.InverseMesh by its contract.
-/

namespace Go.Proofs.Ytnnpefgbneldiaa
set_option maxRecDepth 100000
open Go.RowKit
theorem keep_in2 {B : Nat} {wr w : World} {p q : Addr} {v u : Value} (h : wr.cell? p = some v) (h' : wr.cell? q = some u) (hp : p.block < B) (hq : q.block < B) (hb : Below B wr w) : w.cell? p = some v ∧ w.cell? q = some u ∧ Below B wr w := ⟨(hb.cell hp).trans h, (hb.cell hq).trans h', hb⟩
set_option maxHeartbeats 4000000 in
theorem iinvm_any (A P : Option Addr) (n c B m d : Nat) (q : List Int) (S : List (List Int)) (w : World) (h : Arg w B A n c q) (hS : AtS w P m S) (hm : m ≤ 1048576) :
    Calls Try.prog 45 #[.agg #[.slice A n c, .slice P m d]] w (GivesXB w (miQ q S) (miS q S) (meshOK q S)) := by
  have hl := h.len
  obtain ⟨w0, hw0⟩ : ∃ w0, w0 = (w.alloc (.cells #[.slice A n c, .slice P m d] 47)).alloc (.cells #[.slice none 0 0, .slice none 0 0] 47) := ⟨_, rfl⟩
  have b0 : Below w.heap.size w w0 := by rw [hw0]; exact ((Below.refl _ w).alloc (Nat.le_refl _) _).alloc (by simp) _
  have hs0 : w0.heap.size = w.heap.size + 2 := by rw [hw0]; simp
  have gx : Whole w0 w.heap.size 47 #[.slice A n c, .slice P m d] := by rw [hw0]; exact (Whole.new _ _ _).alloc _
  have gr : Whole w0 (w.heap.size + 1) 47 #[.slice none 0 0, .slice none 0 0] := by
    rw [hw0]
    have := Whole.new (w.alloc (.cells #[.slice A n c, .slice P m d] 47)) 47 #[.slice none 0 0, .slice none 0 0]
    rwa [World.size_alloc] at this
  have x0 := gx.cell 0
  have x1 := gx.cell 1
  simp only [List.getElem?_toArray, List.getElem?_cons_zero, List.getElem?_cons_succ] at x0 x1
  obtain ⟨b, hok⟩ : ∃ b, meshOK q S = b := ⟨_, rfl⟩
  have H1 := hide (imesh_any A P n c B m d q S w0 (h.below b0) (hS.below b0) hm)
  rw [hok] at H1 ⊢
  have HW := hide hw0
  have HL := hide hl
  have HA := hide h
  have HS := hide hS
  rw [hw0] at x0 x1
  clear h hl hS hw0
  cases b with
  | false =>
    obtain ⟨e1, e2⟩ := mi_no (q := q) (S := S) hok
    rw [e1, e2]
    have hno : ∀ (w1 : World), Below w0.heap.size w0 w1 → Hid (Whole w1 (w.heap.size + 1) 47 #[.slice none 0 0, .slice none 0 0] ∧ Below w.heap.size w w1) := fun w1 d1 => hide ⟨gr.below d1 gr.lt, below_after b0 d1⟩
    clear hok e1 e2
    go_enter Try.func45, Try.ntmps45
    go_wp2_with fail
    rw [← unhide HW]
    refine (unhide H1).mono ?_
    rintro e w1 ⟨rfl, d1⟩
    have HN := hno w1 d1
    obtain ⟨gr1, hb1⟩ := unhide HN
    have r0 := gr1.cell 0
    have r1 := gr1.cell 1
    have g0 := gr1.frozen 0
    have g1 := gr1.frozen 1
    have hltr := gr1.lt
    simp only [List.getElem?_toArray, List.getElem?_cons_zero, List.getElem?_cons_succ] at r0 r1
    clear H1 HW x0 x1 gx gr hno b0 d1 gr1 hb1
    go_wp2
    obtain ⟨gr1, hb1⟩ := unhide HN
    have hWe := (gr1.put 0 (.slice none 0 0)).put 1 (.slice none 0 0)
    refine bodyPost_ret (v := .tuple #[.agg #[.slice none 0 0, .slice none 0 0], .bool false]) (results_mesh Try.results45 _ _ (w.heap.size + 1) 47 _ (0, 0) _ rfl hWe Try.underlying47 rfl meshInfo') rfl ?_
    exact meshB_end false (mesh_nil w1 (w.heap.size + 2)) (by omega) (by omega) hb1
  | true =>
    obtain ⟨e1, e2⟩ := mi_yes hok
    rw [e1, e2]
    obtain ⟨i0, hi, hz0, hz1, hz2⟩ := info_parts rowsInfo1
    have hbl := boxL_mesh hok
    have hn4 : n ≤ 4 := by have := (meshOK_iff.1 hok).2.1; have := unhide HL; omega
    have hq := (meshOK_iff.1 hok).1
    have H2 := hide (fun w' (hb : Below w.heap.size w w') => invof_any A n c B q w' ((unhide HA).below hb))
    rw [invR_yes hq] at H2
    have HBL := hide hbl
    have hlS := (unhide HS).1
    have HLS := hide hlS
    have hml : (S.map swapB).length = m := by rw [List.length_map]; exact hlS
    have HML := hide hml
    clear hok e1 e2 hq hbl hlS hml
    go_enter Try.func45, Try.ntmps45
    go_wp2_with fail
    rw [← unhide HW] at x0 x1 ⊢
    refine (unhide H1).mono ?_
    rintro e w1 ⟨rfl, d1⟩
    have hb1 := below_after b0 d1
    have gx1 := gx.below d1 gx.lt
    have gr1 := gr.below d1 gr.lt
    have z0 := gx1.cell 0
    have z1 := gx1.cell 1
    simp only [List.getElem?_toArray, List.getElem?_cons_zero, List.getElem?_cons_succ] at z0 z1
    have hs1 : w.heap.size + 2 ≤ w1.heap.size := by have := d1.size; omega
    have hsz1 : w1.heap.size ≤ w1.heap.size := Nat.le_refl _
    have lz : w.heap.size < w1.heap.size := by omega
    have HG := hide (And.intro gx1 (And.intro gr1 hb1))
    clear H1 HW gx gr x0 x1 b0 d1 gx1 gr1 hb1
    go_wp2_with (first
      | (at_make; refine wpList_make_full _ rfl (.tmp 13) (.tmp 13) 40 rfl w1.heap.size 24 i0 (.slice none 0 0) 1 Try.underlying40 hi hz0 hz1 _ _ _ _ m rfl rfl (by first | rfl | omega) (by first | rfl | omega) (by rw [hz2]; omega) (by unfold maxLen; omega) hsz1 ?_; intro w2 hown hg; have hd2 : Below w1.heap.size w1 w2 := (Below.refl _ _).grown hg (Nat.le_refl _) (by simp); have y1 := (hd2.cell (p := ⟨w.heap.size, 1, none⟩) lz).trans z1))
    have hF := Filled.start (w := w1) (zss := S.map swapB) (unhide HML) (Below.refl w1.heap.size w1) hown hg
    obtain ⟨g, hgw⟩ : ∃ g, g = w1.heap.size := ⟨_, rfl⟩
    rw [← hgw] at hF ⊢
    have hlg : w.heap.size + 2 ≤ g := by omega
    have HGG := hide hgw
    clear hown hg hgw hd2 y1 z0 hz0 hz1 hz2 hi hsz1
    go_loopw [18] (fun i wr => ∃ k : Nat, k ≤ m ∧ i = .int .i64 k ∧ Filled w1 wr g m (S.map swapB) k) (fun i _ => m - (intOf i).toNat)
    case atStart => exact ⟨0, Nat.zero_le _, rfl, hF⟩
    case round =>
      obtain ⟨k, hk, rfl, hF⟩ := hrel
      obtain ⟨gx1, gr1, hb1⟩ := unhide HG
      have hbw := below_after hb1 hF.below
      by_cases hlt : k < m
      · obtain ⟨ad, ad2, c', x, y, rfl, hz, cr, cx, cy⟩ := AtS.box (unhide HS) hlt (fun z hz => by obtain ⟨x, y, rfl, _⟩ := (unhide HBL).two z hz; rfl)
        have l1 := World.block_lt_of_cell? _ _ cr
        have l2 := World.block_lt_of_cell? _ _ cx
        have l3 := World.block_lt_of_cell? _ _ cy
        have cr := (hbw.cell l1).trans cr
        have cx := (hbw.cell l2).trans cx
        have cy := (hbw.cell l3).trans cy
        have hzz : (S.map swapB)[k]? = some [y, x] := by rw [List.getElem?_map, hz]; rfl
        have hswr : w1.heap.size ≤ wr.heap.size := hF.below.size
        obtain ⟨w4, hw4⟩ : ∃ w4, w4 = wr.drew.alloc (.cells #[.int .i64 y, .int .i64 x] 3) := ⟨_, rfl⟩
        have hb4 : Below wr.heap.size wr w4 := by rw [hw4]; exact (Below.refl wr.heap.size wr).drew.alloc (Nat.le_refl _) _
        have hu4 : Ints w4 wr.heap.size (.slice (some ⟨wr.heap.size, 0, none⟩) 2 2) [y, x] := by rw [hw4]; exact Ints.two2 wr.drew wr.heap.size y x (Nat.le_refl _)
        obtain ⟨⟨old, hold⟩, hfz⟩ := hF.old hb4 hlt
        have hF2 := hF.put hzz hb4 hu4
        rw [hw4] at hold hfz hF2
        have hold' : (wr.alloc (.cells #[.int .i64 y, .int .i64 x] 3)).cell? ⟨g, k, none⟩ = some old := hold
        have hfz' : (wr.alloc (.cells #[.int .i64 y, .int .i64 x] 3)).frozen? ⟨g, k, none⟩ = false := hfz
        have HF2 := hide hF2
        have hbd : Below w.heap.size wr wr.drew := (Below.refl _ _).drew
        have hba := fun o => hbd.alloc (show w.heap.size ≤ wr.drew.heap.size by show w.heap.size ≤ wr.heap.size; omega) o
        have hbs := fun o (v : Value) => (hba o).setCell (p := ⟨g, k, none⟩) (by show w.heap.size ≤ g; omega) v
        clear hz hzz hw4 hb4 hu4 hF2 hF gx1 gr1 hb1 hbw
        go_wp2
        go_region_held3 (fun w' => w'.cell? ad2 = some (.int .i64 x) ∧ w'.cell? ⟨ad2.block, ad2.off + 1, none⟩ = some (.int .i64 y) ∧ Below w.heap.size wr w') ((refine keep_in2 cx cy l2 l3 ?_; first | assumption | exact hba _ | exact hbs _ _)) (fail)
        clear hold hfz hold' hfz' hbd hba hbs cr cx cy
        go_wp2
        go_roundw
        case rel => exact ⟨k + 1, by omega, by go_num, unhide HF2⟩
        case measure => simp [intOf]; omega
      · obtain rfl : m = k := by omega
        obtain ⟨hd1, vs, hown, hin⟩ := hF
        have he : fillS (S.map swapB) m = S.map swapB := by
          have := fillS_all (S.map swapB)
          rwa [unhide HML] at this
        rw [he] at hin
        obtain ⟨xs, hx1, hx2, hx⟩ := hin.prs
        rw [← hx1] at hown
        have hxP : ∀ p ∈ xs, p.2.length = 2 ∧ Small p.2 := fun p hp => by
          have hp2 : p.2 ∈ S.map swapB := by rw [← hx2]; exact List.mem_map_of_mem hp
          obtain ⟨s, hs, hsw⟩ := List.mem_map.1 hp2
          obtain ⟨u, v, rfl, hu, hv⟩ := (unhide HBL).two s hs
          have := unhide HL
          rw [← hsw, swapB_two]
          refine ⟨rfl, fun t ht => ?_⟩
          simp at ht
          rcases ht with rfl | rfl <;> omega
        have H5 := hide (sortB_any wr w1.heap.size g m m xs hown hx hxP hm)
        have HX2 := hide hx2
        have HX := hide hx
        have HOWN := hide hown
        have HD := hide hd1
        clear hin hx hxP hx1 hx2 hown he hbw gx1 gr1 hb1 hF hd1
        go_wp2_with fail
        refine (unhide H5).mono ?_
        rintro e w3 ⟨rfl, ys, hperm, hsort, hown3, hg3⟩
        obtain ⟨gx1, gr1, hb1⟩ := unhide HG
        have hk3 := KeepI.of_grown (v := .slice (some ⟨g, 0, none⟩) m m) (unhide HOWN) hg3
        have hy : RowPrs w3 w1.heap.size ys := ((unhide HX).perm hperm).keepI hk3
        have hbg := ((unhide HOWN).lt g rfl).1
        have hd3 : Below w1.heap.size w1 w3 := (unhide HD).grown hg3 (unhide HD).size (fun p hp => by injection hp with hp; omega)
        have hb3 := below_after hb1 hd3
        have hord : ys.map (·.2) = turnS S := turnS_sorted (unhide HBL) (by rw [← unhide HX2]; exact hperm.map _) (fun i j x y hij hi hj => by
          rw [List.getElem?_map] at hi hj
          cases hyi : ys[i]? with
          | none => rw [hyi] at hi; cases hi
          | some a =>
            cases hyj : ys[j]? with
            | none => rw [hyj] at hj; cases hj
            | some b =>
              rw [hyi] at hi
              rw [hyj] at hj
              cases hi; cases hj
              exact hsort i j a b hij hyi hyj)
        have hlt3 : (turnS S).length = m := by rw [← hord, List.length_map, hperm.length_eq]; have := congrArg List.length (unhide HX2); rw [List.length_map] at this; rw [this]; exact unhide HML
        have hfin : IntsS w3 w1.heap.size (.slice (some ⟨g, 0, none⟩) m m) (turnS S) := ⟨ys.map (·.1), by rw [hlt3]; exact hown3, by rw [← hord]; exact hy.inner⟩
        have gx3 := gx1.below hd3 gx1.lt
        have gr3 := gr1.below hd3 gr1.lt
        have a0 := gx3.cell 0
        simp only [List.getElem?_toArray, List.getElem?_cons_zero] at a0
        have H6 := hide (unhide H2 w3 hb3)
        have HT := hide (And.intro hfin (And.intro gr3 (And.intro hb3 (And.intro hd3.size hlt3))))
        clear H5 hperm hsort hown3 hg3 hk3 hy hbg hd3 hb3 hord hlt3 hfin gx3 gr3 gx1 gr1 hb1 HD HOWN HX HX2 HG
        go_wp2_with fail
        refine (unhide H6).mono ?_
        rintro e w5 ⟨A5, c5, rfl, o5, d5⟩
        obtain ⟨hfin, gr3, hb3, hsz3, hlt3⟩ := unhide HT
        have gr5 := gr3.below d5 gr3.lt
        have hIn := InfAt.of_new hfin hsz3 d5 o5
        have hb5 := below_after hb3 d5
        have r0 := gr5.cell 0
        have r1 := gr5.cell 1
        have g0 := gr5.frozen 0
        have g1 := gr5.frozen 1
        have hltr := gr5.lt
        simp only [List.getElem?_toArray, List.getElem?_cons_zero, List.getElem?_cons_succ] at r0 r1
        have HN := hide (And.intro gr5 (And.intro hIn hb5))
        clear H6 HT hfin gr3 hb3 hsz3 hlt3 d5 o5 gr5 hIn hb5 a0 z1
        go_wp2
        obtain ⟨gr5, hIn, hb5⟩ := unhide HN
        have hWe := (gr5.put 0 (.slice A5 (invFill q q.length).length c5)).put 1 (.slice (some ⟨g, 0, none⟩) m m)
        refine bodyPost_ret (v := .tuple #[.agg #[.slice A5 (invFill q q.length).length c5, .slice (some ⟨g, 0, none⟩) m m], .bool true]) (results_mesh Try.results45 _ _ (w.heap.size + 1) 47 _ (0, 0) _ rfl hWe Try.underlying47 rfl meshInfo') rfl ?_
        exact meshB_end true hIn (by omega) (by have := unhide HGG; omega) hb5
end Go.Proofs.Ytnnpefgbneldiaa
