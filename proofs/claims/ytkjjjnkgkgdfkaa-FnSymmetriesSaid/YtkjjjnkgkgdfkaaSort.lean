
/-
  slices.SortFunc over rows of rows, under impl.comparePerms.
-/
import Derived.Test.YtkjjjnkgkgdfkaaPut
import Derived.Test.YtkjjjnkgkgdfkaaCmp
import Derived.Test.YtkjjjnkgkgdfkaaSame
import Derived.Test.YtkjjjnkgkgdfkaaShelfF
namespace Go.Proofs.Ytkjjjnkgkgdfkaa
set_option maxRecDepth 100000
open Go.RowKit

/-! rows, each with what it holds -/
abbrev Pr := Value × List Int
structure Prs (w : World) (B : Nat) (xs : List Pr) : Prop where
  row : ∀ q ∈ xs, Ints w B q.1 q.2
  away : xs.Pairwise fun a b => Away a.1 b.1
theorem Prs.inner {w : World} {B : Nat} {xs : List Pr} (h : Prs w B xs) : Inner w B (xs.map (·.1)) (xs.map (·.2)) := by
  refine ⟨by simp, fun i u zs hu hz => ?_, ?_⟩
  · rw [List.getElem?_map] at hu hz
    cases hq : xs[i]? with
    | none => rw [hq] at hu; cases hu
    | some q =>
      rw [hq] at hu hz
      cases hu; cases hz
      exact h.row q (List.mem_of_getElem? hq)
  · rw [List.pairwise_map]
    exact h.away
theorem Inner.prs {w : World} {B : Nat} {vs : List Value} {zss : List (List Int)} (h : Inner w B vs zss) : ∃ xs : List Pr, xs.map (·.1) = vs ∧ xs.map (·.2) = zss ∧ Prs w B xs := by
  have h1 : (vs.zip zss).map (·.1) = vs := List.map_fst_zip (by rw [h.len]; exact Nat.le_refl _)
  have h2 : (vs.zip zss).map (·.2) = zss := List.map_snd_zip (by rw [h.len]; exact Nat.le_refl _)
  refine ⟨vs.zip zss, h1, h2, fun q hq => ?_, ?_⟩
  · obtain ⟨i, hi, rfl⟩ := List.getElem_of_mem hq
    rw [List.length_zip] at hi
    exact h.row i _ _ (by rw [List.getElem_zip]; exact List.getElem?_eq_getElem (by omega)) (by rw [List.getElem_zip]; exact List.getElem?_eq_getElem (by omega))
  · have := h.away
    rw [← h1, List.pairwise_map] at this
    exact this
theorem Prs.sub {w : World} {B : Nat} {xs ys : List Pr} (h : Prs w B xs) (hs : ys.Sublist xs) : Prs w B ys := ⟨fun q hq => h.row q (hs.subset hq), h.away.sublist hs⟩
theorem Prs.perm {w : World} {B : Nat} {xs ys : List Pr} (h : Prs w B xs) (hp : ys.Perm xs) : Prs w B ys :=
  ⟨fun q hq => h.row q (hp.subset hq), (hp.pairwise_iff (fun {_ _} h => h.symm)).2 h.away⟩
theorem Prs.keepI {w w' : World} {B : Nat} {xs : List Pr} (h : Prs w B xs) (hk : KeepI w w') : Prs w' B xs := ⟨fun q hq => (h.row q hq).keepI hk, h.away⟩

/-! the sort -/
structure El (w : World) (B : Nat) where
  q : Pr
  row : Ints w B q.1 q.2
  perm : isP q.2 = true
def El.enc {w : World} {B : Nat} (x : El w B) : Value := x.q.1
def El.cf {w : World} {B : Nat} (x y : El w B) : Int := cmpV x.q.2 y.q.2
theorem els {w : World} {B : Nat} : ∀ xs : List Pr, (∀ q ∈ xs, Ints w B q.1 q.2 ∧ isP q.2 = true) → ∃ ds : List (El w B), ds.map (·.q) = xs
  | [], _ => ⟨[], rfl⟩
  | q :: xs, h => by
    obtain ⟨ds, hd⟩ := els xs fun q hq => h q (by simp [hq])
    exact ⟨⟨q, (h q (by simp)).1, (h q (by simp)).2⟩ :: ds, by rw [List.map_cons, hd]⟩
theorem El.one {w : World} {B : Nat} : OneCell (El.enc (w := w) (B := B)) := fun x => by
  obtain ⟨A, c, h⟩ := x.row.slice
  unfold El.enc
  rw [h]; rfl
theorem El.swo {w : World} {B : Nat} : Sort.SWO (ltOf (El.cf (w := w) (B := B))) where
  irrefl x := by unfold ltOf El.cf; rw [cmpV_befL]; exact befL_irrefl _
  trans x y z h1 h2 := by unfold ltOf El.cf at *; rw [cmpV_befL] at *; exact befL_trans h1 h2
  ntrans x y z h1 h2 := by
    unfold ltOf El.cf at *
    rw [cmpV_befL] at *
    cases h3 : befL x.q.2 z.q.2 with
    | false => rfl
    | true =>
      have h4 := befL_le_lt h1 h3
      rw [h2] at h4; cases h4
theorem take_put {α : Type} [Inhabited α] (enc : α → Value) (cur : Array Value) (d : Array α) (h : d.size ≤ cur.size) : (Sort.putCells enc 0 d cur).toList.take d.size = d.toList.map enc := by
  apply List.ext_getElem?
  intro j
  by_cases hj : j < d.size
  · rw [List.getElem?_take_of_lt hj, Array.getElem?_toList]
    simp [Sort.putCells, hj, show j < cur.size by omega]
  · rw [List.getElem?_take_eq_none (by omega), List.getElem?_eq_none (by simp; omega)]
theorem heap_put {α : Type} [Inhabited α] (enc : α → Value) {w : World} {g m : Nat} {os : Array Obj} {cur : Array Value} {e : TypeId} {fr : Nat × Nat} (d : Array α) (hb : w.heap[g]? = some (.cells cur e fr)) :
    (sortWorld enc w g 0 m d os).heap[g]? = some (.cells (Sort.putCells enc 0 d cur) e fr) := by
  have hg : g < w.heap.size := (Array.getElem?_eq_some_iff.1 hb).1
  unfold sortWorld
  rw [Sort.heap_grow_old _ _ (by simpa using hg)]
  simp [Sort.putRow, Sort.mapBlock, Sort.ahead, Array.getElem?_modify, hb, Sort.onCells]
theorem heap_far {α : Type} [Inhabited α] (enc : α → Value) {w : World} {g m : Nat} {os : Array Obj} (d : Array α) {i : Nat} (hi : i < w.heap.size) (hne : g ≠ i) : (sortWorld enc w g 0 m d os).heap[i]? = w.heap[i]? := by
  unfold sortWorld
  rw [Sort.heap_grow_old _ _ (by simpa using hi)]
  simp [Sort.putRow, Sort.mapBlock, Sort.ahead, Array.getElem?_modify, hne]
theorem size_sorted {α : Type} [Inhabited α] (enc : α → Value) (w : World) (g m : Nat) (os : Array Obj) (d : Array α) : w.heap.size ≤ (sortWorld enc w g 0 m d os).heap.size := by unfold sortWorld; simp
theorem grown_sorted {α : Type} [Inhabited α] (enc : α → Value) (w : World) (g m : Nat) (os : Array Obj) (d : Array α) : w.grownBy (sortWorld enc w g 0 m d os) (some g) :=
  ⟨rfl, rfl, rfl, size_sorted enc w g m os d, fun _ hk hne => heap_far enc d hk fun e => hne (by rw [e])⟩
theorem own_sorted {α : Type} [Inhabited α] (enc : α → Value) {w : World} {B g n cap m : Nat} {e : TypeId} {os : Array Obj} {xs : List Value} (d : Array α) (hd : d.size = n) (h : w.ownsRow B e 1 (.slice (some ⟨g, 0, none⟩) n cap) n xs) :
    (sortWorld enc w g 0 m d os).ownsRow B e 1 (.slice (some ⟨g, 0, none⟩) n cap) n (d.toList.map enc) := by
  refine ⟨by simp [hd], ?_⟩
  rcases h.2 with ⟨hv, _⟩ | ⟨g', cap', cur, hv, hb, hg, hnc, hc, hsz, ht⟩
  · cases hv
  · injection hv with h1 h2 h3
    injection h1 with h1
    injection h1 with h1
    subst h1; subst h3
    exact .inr ⟨g, cap, _, rfl, hb, heap_put enc d hg, hnc, hc, by simpa [Sort.putCells] using hsz, by rw [Nat.mul_one, ← hd]; exact take_put enc cur d (by omega)⟩
theorem holds_own {α : Type} [Inhabited α] (enc : α → Value) {w : World} {B g n cap : Nat} {e : TypeId} (ds : List α) (h : w.ownsRow B e 1 (.slice (some ⟨g, 0, none⟩) n cap) n (ds.map enc)) : Sort.Holds enc w g 0 ds.toArray := by
  have hl : ds.length = n := by simpa using h.1
  intro j hj
  have hj' : j < ds.length := by simpa using hj
  refine ⟨?_, by rw [Nat.zero_add]; exact h.frozenAt j⟩
  rw [Nat.zero_add, h.cellAt j (by omega)]
  simp [hj']

/-- A row of rows, sorted: the same rows, in order. -/
def Sorted (w : World) (B g n cap : Nat) (xs : List Pr) (e : Ending) (w' : World) : Prop :=
  e = .returned (.tuple #[]) ∧ ∃ ys : List Pr, ys.Perm xs ∧ (∀ (i j : Nat) (x y : Pr), i < j → ys[i]? = some x → ys[j]? = some y → befL y.2 x.2 = false) ∧
    w'.ownsRow B 24 1 (.slice (some ⟨g, 0, none⟩) n cap) n (ys.map (·.1)) ∧ w.grownBy w' (some g)
theorem sort_any (w : World) (B g n cap : Nat) (xs : List Pr) (hown : w.ownsRow B 24 1 (.slice (some ⟨g, 0, none⟩) n cap) n (xs.map (·.1))) (hx : Prs w B xs) (hP : ∀ q ∈ xs, isP q.2 = true) (hn : n ≤ 1048576) :
    Calls Try.prog 75 #[.slice (some ⟨g, 0, none⟩) n cap, .func (.func 67) #[] #[]] w (Sorted w B g n cap xs) := by
  have hl : xs.length = n := by simpa using hown.1
  cases xs with
  | nil =>
    obtain rfl : n = 0 := by simpa using hl.symm
    refine (Try.slices_SortFunc_none (α := Unit) _ _ _ w).mono ?_
    rintro e w' ⟨rfl, rfl⟩
    exact ⟨rfl, [], List.Perm.refl _, fun i j x y _ h => by simp at h, hown, World.grownBy.refl _ _⟩
  | cons q xs =>
    obtain ⟨ds, hds⟩ := els (q :: xs) fun p hp => ⟨hx.row p hp, hP p hp⟩
    have hq := hx.row q (by simp)
    have hqP := hP q (by simp)
    letI : Inhabited (El w B) := ⟨⟨q, hq, hqP⟩⟩
    have henc : ds.map El.enc = (q :: xs).map (·.1) := by rw [← hds, List.map_map]; rfl
    have hdl : ds.length = n := by rw [← hl, ← hds, List.length_map]
    have hg := (hown.lt g rfl).2
    have eg : ∀ args w, (callFunc 67 args).run Try.prog w = .ok (.enter 67 args) w := enters_of Try.func67 (by kernel_rfl) rfl
    have hcmp : CmpLays1 Try.prog 67 #[] (El.enc (w := w) (B := B)) El.cf g 0 ds.toArray.size w := fun m os dk hs x y => by
      have hk : KeepI w (sortWorld El.enc w g 0 m dk os) := by
        have hgr := grown_sorted (El.enc (w := w) (B := B)) w g m os dk
        exact KeepI.of_grown hown hgr
      obtain ⟨A1, c1, h1⟩ := x.row.slice
      obtain ⟨A2, c2, h2⟩ := y.row.slice
      have i1 := x.row.keepI hk
      have i2 := y.row.keepI hk
      show Calls _ _ #[x.q.1, y.q.1] _ _
      rw [h1] at i1 ⊢
      rw [h2] at i2 ⊢
      exact comparePerms_any A1 A2 _ c1 _ _ c2 _ x.q.2 y.q.2 _ (i1.argP x.perm) (i2.argP y.perm)
    have hcon := Try.slices_SortFunc (El.enc (w := w) (B := B)) El.one El.cf El.swo 67 #[] g 0 cap ds.toArray w eg hcmp (holds_own El.enc ds (by rw [henc]; exact hown)) hg (by simp; omega)
    rw [show ds.toArray.size = n by simpa using hdl] at hcon
    refine hcon.mono ?_
    rintro e w' ⟨rfl, d', m, os, hp, hs, rfl⟩
    obtain ⟨p1, _, p3⟩ := hp
    have hd' : d'.size = n := by rw [p1]; simpa using hdl
    have hperm : d'.toList.Perm ds := by
      have h1 : d'.extract 0 n = d' := by rw [← hd']; simp
      have h2 : ds.toArray.extract 0 n = ds.toArray := by rw [← hdl]; simp
      rw [h1, h2] at p3
      simpa using p3
    refine ⟨rfl, d'.toList.map (·.q), by rw [← hds]; exact hperm.map _, fun i j x y hij hi hj => ?_, ?_, grown_sorted _ _ _ _ _ _⟩
    · rw [List.getElem?_map] at hi hj
      have hjn : j < n := by
        cases hq : d'.toList[j]? with
        | none => rw [hq] at hj; cases hj
        | some u => have := (List.getElem?_eq_some_iff.1 hq).1; simpa [hd'] using this
      have := hs i j (Nat.zero_le _) hij hjn
      unfold ltOf El.cf at this
      rw [cmpV_befL] at this
      rw [getElem!_pos d' i (by omega), getElem!_pos d' j (by omega)] at this
      rw [List.getElem?_eq_getElem (by simp; omega)] at hi hj
      simp at hi hj
      subst hi; subst hj
      exact this
    · rw [List.map_map]
      exact own_sorted El.enc d' hd' hown
end Go.Proofs.Ytkjjjnkgkgdfkaa
