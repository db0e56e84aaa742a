/-
  Words and contracts that the laws lean on, bundled: TreeS, Aside, TreeP, TreeQ, TreeI, TreeL, TreeJ, TreeG, Grow.
-/
import Derived.Test.YtffdnpgalpcigaaB2
import Derived.Test.YtffdnpgalpcigaaB4
import Derived.Maps.AppendAt
import Derived.Deep.RegionLaw
import Derived.Laws.ResultCell

/-
  spec.l6Sum, spec.l6Split, spec.SplitPerm, by their contracts.
-/

namespace Go.Proofs.Ytffdnpgalpcigaa
set_option maxRecDepth 100000
open Go.RowKit

/-- The root and the parts of an Inflation, rows of the call's own, apart from each other. -/
structure InfAt (w : World) (B : Nat) (rv pv : Value) (root : List Int) (pcs : List (List Int)) : Prop where
  row : Ints w B rv root
  pcs : Fresh w B pv pcs rv
theorem Fresh.below {w w' : World} {B : Nat} {v u : Value} {zss : List (List Int)} (h : Fresh w B v zss u) (hb : Below w.heap.size w w') : Fresh w' B v zss u := by
  obtain ⟨vs, h1, h2, h3⟩ := h
  exact ⟨vs, own_below h1 hb, h2.keepI (KeepI.of_below hb), h3⟩
theorem Fresh.intsS {w : World} {B : Nat} {v u : Value} {zss : List (List Int)} (h : Fresh w B v zss u) : IntsS w B v zss := by
  obtain ⟨vs, h1, h2, _⟩ := h
  exact ⟨vs, h1, h2⟩
theorem Fresh.low {w : World} {B B' : Nat} {v u : Value} {zss : List (List Int)} (h : Fresh w B v zss u) (hB : B' ≤ B) : Fresh w B' v zss u := by
  obtain ⟨vs, h1, h2, h3⟩ := h
  refine ⟨vs, ⟨h1.1, ?_⟩, h2.low hB, h3⟩
  rcases h1.2 with h0 | ⟨g, cap, cur, hv, hb, hr⟩
  · exact .inl h0
  · exact .inr ⟨g, cap, cur, hv, Nat.le_trans hB hb, hr⟩
theorem InfAt.below {w w' : World} {B : Nat} {rv pv : Value} {root : List Int} {pcs : List (List Int)} (h : InfAt w B rv pv root pcs) (hb : Below w.heap.size w w') : InfAt w' B rv pv root pcs := ⟨h.row.below hb, h.pcs.below hb⟩
theorem InfAt.low {w : World} {B B' : Nat} {rv pv : Value} {root : List Int} {pcs : List (List Int)} (h : InfAt w B rv pv root pcs) (hB : B' ≤ B) : InfAt w B' rv pv root pcs := ⟨h.row.low hB, h.pcs.low hB⟩
def GivesX (w : World) (root : List Int) (pcs : List (List Int)) (e : Ending) (w' : World) : Prop :=
  ∃ A c A' c', e = .returned (.agg #[.slice A root.length c, .slice A' pcs.length c']) ∧ InfAt w' w.heap.size (.slice A root.length c) (.slice A' pcs.length c') root pcs ∧ Below w.heap.size w w'
def GivesXB (w : World) (root : List Int) (pcs : List (List Int)) (b : Bool) (e : Ending) (w' : World) : Prop :=
  ∃ A c A' c', e = .returned (.tuple #[.agg #[.slice A root.length c, .slice A' pcs.length c'], .bool b]) ∧ InfAt w' w.heap.size (.slice A root.length c) (.slice A' pcs.length c') root pcs ∧ Below w.heap.size w w'
theorem GivesX.mk {w w' : World} {rv pv : Value} {root : List Int} {pcs : List (List Int)} (h : InfAt w' w.heap.size rv pv root pcs) (hb : Below w.heap.size w w') : GivesX w root pcs (.returned (.agg #[rv, pv])) w' := by
  obtain ⟨A, c, rfl⟩ := h.row.slice
  obtain ⟨A', c', rfl⟩ := h.pcs.intsS.slice
  exact ⟨A, c, A', c', rfl, h, hb⟩
theorem GivesXB.mk {w w' : World} {rv pv : Value} {root : List Int} {pcs : List (List Int)} (b : Bool) (h : InfAt w' w.heap.size rv pv root pcs) (hb : Below w.heap.size w w') : GivesXB w root pcs b (.returned (.tuple #[.agg #[rv, pv], .bool b])) w' := by
  obtain ⟨A, c, rfl⟩ := h.row.slice
  obtain ⟨A', c', rfl⟩ := h.pcs.intsS.slice
  exact ⟨A, c, A', c', rfl, h, hb⟩

theorem IntsS.cap {w : World} {B n c : Nat} {A : Option Addr} {zss : List (List Int)} (h : IntsS w B (.slice A n c) zss) : n ≤ c := by
  have hl := h.len
  obtain ⟨vs, h1, _⟩ := h
  rcases h1.2 with ⟨hv, hz⟩ | ⟨g, cap, cur, hv, _, _, hnc, _⟩
  · injection hv with _ h3; omega
  · injection hv with _ h3 h4
    omega

theorem infInfo : (Try.prog.info? 25).map (·.size) = some 2 := by kernel_rfl
/-- A row that lies over a block is not met by what is put into that block. -/
theorem Ints.aside {w : World} {B : Nat} {v : Value} {zs : List Int} (h : Ints w B v zs) {p : Addr} (hp : p.block < B) (u : Value) : Ints (w.setCell p u) B v zs := by
  refine ⟨h.1, ?_⟩
  rcases h.2 with hn | ⟨g, cap, cur, e, rfl, hb, hgg, h1, h2, he⟩
  · exact .inl hn
  · exact .inr ⟨g, cap, cur, e, rfl, hb, (Below.heap_setCell w p u g (by omega)).trans hgg, h1, h2, he⟩

theorem own_aside {w : World} {B n k : Nat} {e : TypeId} {v : Value} {xs : List Value} (h : w.ownsRow B e k v n xs) {p : Addr} (hp : p.block < B) (u : Value) : (w.setCell p u).ownsRow B e k v n xs := by
  refine ⟨h.1, ?_⟩
  rcases h.2 with hn | ⟨g, cap, cur, rfl, hb, hgg, hr⟩
  · exact .inl hn
  · exact .inr ⟨g, cap, cur, rfl, hb, (Below.heap_setCell w p u g (by omega)).trans hgg, hr⟩
theorem Fresh.aside {w : World} {B : Nat} {v r : Value} {zss : List (List Int)} (h : Fresh w B v zss r) {p : Addr} (hp : p.block < B) (u : Value) : Fresh (w.setCell p u) B v zss r := by
  obtain ⟨vs, h1, h2, h3⟩ := h
  exact ⟨vs, own_aside h1 hp u, ⟨h2.len, fun i x zs hx hz => (h2.row i x zs hx hz).aside hp u, h2.away⟩, h3⟩
theorem InfAt.aside {w : World} {B : Nat} {rv pv : Value} {root : List Int} {pcs : List (List Int)} (h : InfAt w B rv pv root pcs) {p : Addr} (hp : p.block < B) (u : Value) : InfAt (w.setCell p u) B rv pv root pcs :=
  ⟨h.row.aside hp u, h.pcs.aside hp u⟩
/-- What a call gave is put into the block of its own result. -/
theorem inf_end {w w3 : World} {B : Nat} {rv pv : Value} {root : List Int} {pcs : List (List Int)} (hIn : InfAt w3 B rv pv root pcs) (hB : w.heap.size < B) (hb : Below w.heap.size w w3) :
    GivesX w root pcs (.returned (.agg #[rv, pv])) ((w3.setCell ⟨w.heap.size, 0, none⟩ rv).setCell ⟨w.heap.size, 1, none⟩ pv) :=
  GivesX.mk (((hIn.aside (by simpa using hB) _).aside (by simpa using hB) _).low (by omega)) ((hb.setCell (Nat.le_refl _) _).setCell (Nat.le_refl _) _)

set_option maxHeartbeats 1600000 in
theorem l6sum_any (A : Option Addr) (n c B : Nat) (s : Bool) (zss : List (List Int)) (w : World) (hS : IntsS w B (.slice A n c) zss) (hn : n ≤ 1048576) (h1 : 1 < n) (hsm : ∀ z ∈ zss, z.length ≤ 1048576 ∧ Small z) :
    Calls Try.prog 59 #[.slice A n c, .bool s] w (GivesX w (sumRoot s) (sumPcs s zss)) := by
  obtain ⟨g, rfl⟩ := hS.shape (by omega)
  have hAt := hS.atS hsm
  have hcap := hS.cap
  have hc1 : ¬ c = 1 := by omega
  have hc2 : (1 : Int) ≤ (c : Int) := by omega
  have hn2 : (1 : Int) ≤ (n : Int) := by omega
  have hbel := (Below.refl w.heap.size w).alloc (Nat.le_refl _) (.cells #[.slice none 0 0, .slice none 0 0] 25)
  have hAr := ((hAt.below hbel).rest (f := 1) (by omega))
  rw [show (⟨g, 0, none⟩ : Addr).add 1 = ⟨g, 1, none⟩ from rfl] at hAr
  have H1 := hide (fun c' => sjoinsA_any (some ⟨g, 1, none⟩) (n - 1) c' s (zss.drop 1) _ hAr (by omega))
  have HAT := hide hAt
  have hW := Whole.new w 25 #[.slice none 0 0, .slice none 0 0]
  have hz0 : 0 < zss.length := by have := hS.len; omega
  have HP : Hid (sumPcs s zss = [zss.headD [], joinsR s (zss.drop 1)]) := hide rfl
  have HH : Hid (zss[0]? = some (zss.headD [])) := hide (by cases zss with | nil => simp at hz0 | cons x r => rfl)
  obtain ⟨R, hR⟩ : ∃ R, joinsR s (zss.drop 1) = R := ⟨_, rfl⟩
  rw [hR] at H1 HP
  clear hS hAt hAr hsm hz0 hR
  go_enter Try.func59, Try.ntmps59
  go_wp2_with fail
  refine (unhide H1 _).mono ?_
  rintro e w2 ⟨A2, c2, rfl, own2, hb2⟩
  have hW2 := hW.below hb2 (by simp)
  have hb3 := below_after hbel hb2
  have hg2 : w.heap.size < w2.heap.size := by have := hb2.size; simp at this; omega
  clear H1 hW hb2
  cases s with
  | true =>
    have o1 := (Below.refl w2.heap.size w2).alloc (Nat.le_refl _) (.cells #[.int .i64 1, .int .i64 2] 3)
    have o2 := o1.alloc (by simp) (.cells #[.int .i64 2, .int .i64 1] 3)
    have o3 := o2.alloc (by simp; omega) (.cells #[] 3)
    have hrow := Ints.made2 (w2.alloc (.cells #[.int .i64 1, .int .i64 2] 3)) (w.heap.size + 1) 2 1 (by simp; omega)
    have hst := own0 ((w2.alloc (.cells #[.int .i64 1, .int .i64 2] 3)).alloc (.cells #[.int .i64 2, .int .i64 1] 3)) _ (Nat.le_refl _)
    have hb4 := below_after hb3 o3
    have own3 := own2.below o3
    have hu2 := own2.until_
    have hW3 := hW2.below o3 hg2
    obtain ⟨ad, A1, c1, z, he, hz, hcell, hArg⟩ := (unhide HAT).2 _ hb4 0 (by omega)
    injection he with he
    subst he
    rw [show (⟨g, 0, none⟩ : Addr).add 0 = ⟨g, 0, none⟩ from rfl] at hcell
    obtain rfl : zss.headD [] = z := by have := unhide HH; rw [hz] at this; exact (Option.some.inj this).symm
    obtain ⟨z, hzz⟩ : ∃ z, zss.headD [] = z := ⟨_, rfl⟩
    rw [hzz] at hcell hArg HP
    have hrow2 := hrow.below ((Below.refl _ _).alloc (Nat.le_refl _) (.cells #[] 3))
    simp only [World.size_alloc] at hst hrow2
    have hur : Until (w2.heap.size + 1 + 1) (.slice (some ⟨w2.heap.size + 1, 0, none⟩) 2 2) := fun k hk => by simp [Value.ownBlock] at hk; omega
    clear o1 o2 hrow own2 hz hzz hb3 HH HAT
    go_wp2_with (first
      | (at_builtin; refine wpList_append_arg rfl (.tmp 19) (.tmp 22) rfl (w2.heap.size + 1 + 1) _ 0 z.length c1 _ _ A1 [] z rfl rfl hst hArg (by omega) (Below.refl _ _) (by simp) ?_))
    intro v5 w5 hown5 hb5 _
    have hz5 : Ints w5 (w2.heap.size + 1 + 1) v5 z := Ints.of_own hown5
    obtain ⟨A5, c5, rfl⟩ := hz5.slice
    have hR5 := own3.stay hu2 hb5 (by omega)
    have hr5 := hrow2.stay hur hb5 (Nat.le_refl _)
    have hW5 := hW3.below hb5 (by omega)
    have hsz5 : w2.heap.size + 1 + 1 + 1 ≤ w5.heap.size := by have := hb5.size; simpa using this
    have hx5 := hz5.low (show w.heap.size + 1 ≤ _ by omega)
    have hy5 := hR5.low (show w.heap.size + 1 ≤ _ by simp)
    have hA1 := apart' hz5.since hu2 (by omega)
    have hA2 := apart' hz5.since hur (Nat.le_refl _)
    have hA3 := apart hu2 (B' := w2.heap.size + 1) (v := .slice (some ⟨w2.heap.size + 1, 0, none⟩) 2 2) (fun k hk => by simp [Value.ownBlock] at hk; omega) (by omega)
    have HF := hide (fun u v => And.intro (Fresh.two (((hx5.aside (p := ⟨w.heap.size, 0, none⟩) (by simp) u).aside (p := ⟨w.heap.size, 1, none⟩) (by simp) v)) (((hy5.aside (p := ⟨w.heap.size, 0, none⟩) (by simp) u).aside (p := ⟨w.heap.size, 1, none⟩) (by simp) v)) hA1 hA2 hA3 (by simp; omega))
      (((hr5.aside (p := ⟨w.heap.size, 0, none⟩) (by simp) u).aside (p := ⟨w.heap.size, 1, none⟩) (by simp) v)))
    have q0 := hW5.cell 0
    have q1 := hW5.cell 1
    have f0 := hW5.frozen 0
    have f1 := hW5.frozen 1
    simp only [List.getElem?_toArray, List.getElem?_cons_zero, List.getElem?_cons_succ] at q0 q1
    have hlt5 : w.heap.size < w5.heap.size := by omega
    have hbw := hb4.trans (hb5.mono (show w.heap.size ≤ _ by omega))
    clear hr5 hz5 hR5 hrow2 own3 hst hArg hown5 hcell hx5 hy5 hA1 hA2 hA3
    go_wp2
    have hWe := ((hW5.put 0 (.slice (some ⟨w2.heap.size + 1, 0, none⟩) 2 2)).put 1 (.slice (some ⟨w5.heap.size, 0, none⟩) 2 2)).alloc (.cells #[Value.slice A5 z.length c5, Value.slice A2 R.length c2] 22)
    refine bodyPost_ret (v := .agg #[.slice (some ⟨w2.heap.size + 1, 0, none⟩) 2 2, .slice (some ⟨w5.heap.size, 0, none⟩) 2 2]) (results_cell_row Try.results59 _ _ w.heap.size 25 _ (0, 0) _ rfl hWe Try.underlying25 rfl infInfo) rfl ?_
    rw [show sumRoot true = [2, 1] from rfl, HP]
    have hF := unhide HF (.slice (some ⟨w2.heap.size + 1, 0, none⟩) 2 2) (.slice (some ⟨w5.heap.size, 0, none⟩) 2 2)
    simp only [World.size_setCell] at hF
    refine GivesX.mk ⟨(hF.2.low (Nat.le_succ _)).below ((Below.refl _ _).alloc (Nat.le_refl _) _), hF.1.low (Nat.le_succ _)⟩ (((hbw.setCell (Nat.le_refl _) _).setCell (Nat.le_refl _) _).alloc (by simp; omega) _)
  | false =>
    have o1 := (Below.refl w2.heap.size w2).alloc (Nat.le_refl _) (.cells #[.int .i64 1, .int .i64 2] 3)
    have o3 := o1.alloc (by simp) (.cells #[] 3)
    have hrow := Ints.made2 w2 (w.heap.size + 1) 1 2 (by omega)
    have hst := own0 (w2.alloc (.cells #[.int .i64 1, .int .i64 2] 3)) _ (Nat.le_refl _)
    have hb4 := below_after hb3 o3
    have own3 := own2.below o3
    have hu2 := own2.until_
    have hW3 := hW2.below o3 hg2
    obtain ⟨ad, A1, c1, z, he, hz, hcell, hArg⟩ := (unhide HAT).2 _ hb4 0 (by omega)
    injection he with he
    subst he
    rw [show (⟨g, 0, none⟩ : Addr).add 0 = ⟨g, 0, none⟩ from rfl] at hcell
    obtain rfl : zss.headD [] = z := by have := unhide HH; rw [hz] at this; exact (Option.some.inj this).symm
    obtain ⟨z, hzz⟩ : ∃ z, zss.headD [] = z := ⟨_, rfl⟩
    rw [hzz] at hcell hArg HP
    have hrow2 := hrow.below ((Below.refl _ _).alloc (Nat.le_refl _) (.cells #[] 3))
    simp only [World.size_alloc] at hst hrow2
    have hur : Until (w2.heap.size + 1) (.slice (some ⟨w2.heap.size, 0, none⟩) 2 2) := fun k hk => by simp [Value.ownBlock] at hk; omega
    clear o1 hrow own2 hz hzz hb3 HH HAT
    go_wp2_with (first
      | (at_builtin; refine wpList_append_arg rfl (.tmp 19) (.tmp 22) rfl (w2.heap.size + 1) _ 0 z.length c1 _ _ A1 [] z rfl rfl hst hArg (by omega) (Below.refl _ _) (by simp) ?_))
    intro v5 w5 hown5 hb5 _
    have hz5 : Ints w5 (w2.heap.size + 1) v5 z := Ints.of_own hown5
    obtain ⟨A5, c5, rfl⟩ := hz5.slice
    have hR5 := own3.stay hu2 hb5 (by omega)
    have hr5 := hrow2.stay hur hb5 (Nat.le_refl _)
    have hW5 := hW3.below hb5 (by omega)
    have hsz5 : w2.heap.size + 1 + 1 ≤ w5.heap.size := by have := hb5.size; simpa using this
    have hx5 := hz5.low (show w.heap.size + 1 ≤ _ by omega)
    have hy5 := hR5.low (show w.heap.size + 1 ≤ _ by simp)
    have hA1 := apart' hz5.since hu2 (by omega)
    have hA2 := apart' hz5.since hur (Nat.le_refl _)
    have hA3 := apart hu2 (B' := w2.heap.size) (v := .slice (some ⟨w2.heap.size, 0, none⟩) 2 2) (fun k hk => by simp [Value.ownBlock] at hk; omega) (by omega)
    have HF := hide (fun u v => And.intro (Fresh.two (((hx5.aside (p := ⟨w.heap.size, 0, none⟩) (by simp) u).aside (p := ⟨w.heap.size, 1, none⟩) (by simp) v)) (((hy5.aside (p := ⟨w.heap.size, 0, none⟩) (by simp) u).aside (p := ⟨w.heap.size, 1, none⟩) (by simp) v)) hA1 hA2 hA3 (by simp; omega))
      (((hr5.aside (p := ⟨w.heap.size, 0, none⟩) (by simp) u).aside (p := ⟨w.heap.size, 1, none⟩) (by simp) v)))
    have q0 := hW5.cell 0
    have q1 := hW5.cell 1
    have f0 := hW5.frozen 0
    have f1 := hW5.frozen 1
    simp only [List.getElem?_toArray, List.getElem?_cons_zero, List.getElem?_cons_succ] at q0 q1
    have hlt5 : w.heap.size < w5.heap.size := by omega
    have hbw := hb4.trans (hb5.mono (show w.heap.size ≤ _ by omega))
    clear hr5 hz5 hR5 hrow2 own3 hst hArg hown5 hcell hx5 hy5 hA1 hA2 hA3
    go_wp2
    have hWe := ((hW5.put 0 (.slice (some ⟨w2.heap.size, 0, none⟩) 2 2)).put 1 (.slice (some ⟨w5.heap.size, 0, none⟩) 2 2)).alloc (.cells #[Value.slice A5 z.length c5, Value.slice A2 R.length c2] 22)
    refine bodyPost_ret (v := .agg #[.slice (some ⟨w2.heap.size, 0, none⟩) 2 2, .slice (some ⟨w5.heap.size, 0, none⟩) 2 2]) (results_cell_row Try.results59 _ _ w.heap.size 25 _ (0, 0) _ rfl hWe Try.underlying25 rfl infInfo) rfl ?_
    rw [show sumRoot false = [1, 2] from rfl, HP]
    have hF := unhide HF (.slice (some ⟨w2.heap.size, 0, none⟩) 2 2) (.slice (some ⟨w5.heap.size, 0, none⟩) 2 2)
    simp only [World.size_setCell] at hF
    refine GivesX.mk ⟨(hF.2.low (Nat.le_succ _)).below ((Below.refl _ _).alloc (Nat.le_refl _) _), hF.1.low (Nat.le_succ _)⟩ (((hbw.setCell (Nat.le_refl _) _).setCell (Nat.le_refl _) _).alloc (by simp; omega) _)
end Go.Proofs.Ytffdnpgalpcigaa


/-
  WORDS: a row of integers grows beside a list of rows that lies apart from it; the list grows beside the row. Nothing here speaks of a function of the program.
-/

namespace Go.Proofs.Ytffdnpgalpcigaa
set_option maxRecDepth 100000
open Go.RowKit

theorem own_keepI {w w' : World} {B n : Nat} {v : Value} {xs : List Value} (h : w.ownsRow B 3 1 v n xs) (hk : KeepI w w') : w'.ownsRow B 3 1 v n xs := by
  refine ⟨h.1, ?_⟩
  rcases h.2 with hn | ⟨g, cap, cur, rfl, hb, hgg, hr⟩
  · exact .inl hn
  · exact .inr ⟨g, cap, cur, rfl, hb, (hk.block g cur _ _ hgg (by decide)).trans hgg, hr⟩
/-- 'out = append(out, x)', an integer, beside a list of rows. -/
theorem wpList_append_beside {ops : Array Oper} {rest : List Oper} {o : Oper} {a : Act} {W : World} {Q : Exit → Act → World → Prop} (hgd : o.guard = none) (sl x : Operand)
    (ho : o.op = .call { callee := .builtin .append, args := #[sl, x], argTypes := #[22, 22] })
    (base n : Nat) (wr : World) (v l : Value) (xs : List Int) (z : Int) (zss : List (List Int)) (hs : a.eval sl = v) (hx : a.eval x = .slice (some ⟨wr.heap.size, 0, none⟩) 1 1) (hW : W = wr.alloc (.cells #[.int .i64 z] 3))
    (hown : wr.ownsRow base 3 1 v n (i64s xs)) (hF : Fresh wr base l zss v) (hn : n ≤ 1048576) (hbase : base ≤ wr.heap.size)
    (K : ∀ v' w', w'.ownsRow base 3 1 v' (n + 1) (i64s (xs ++ [z])) → Fresh w' base l zss v' → Below base wr w' → wpList Try.prog ops Q rest (a.put o.dst v') w') : wpList Try.prog ops Q (o :: rest) a W := by
  obtain ⟨i0, hi, hz0, hz1, hz2⟩ := info_parts intInfo
  obtain ⟨vs, hl, hin, ha⟩ := hF
  have hal := (Below.refl wr.heap.size wr).alloc (Nat.le_refl _) (.cells #[.int .i64 z] 3)
  have hown2 := own_below hown hal
  have hl2 := own_below hl hal
  have hin2 := hin.keepI (KeepI.of_below hal)
  have hne := rows_apart hl2 (Ints.of_own (zs := xs) hown2)
  subst hW
  refine wpList_append_own_at _ hgd sl x 22 ho base 3 i0 (.int .i64 0) 1 8 Try.underlying22 hi hz0 hz1 hz2 rfl (by decide) v _ _ hs hown2 ⟨wr.heap.size, 0, none⟩ 1 1 [.int .i64 z] hx rfl (cell_one_new _ _ _) ?_ (by unfold maxLen; omega) (by omega) (by simp; omega) ?_
  · intro y hy
    obtain rfl := List.mem_singleton.1 hy
    rfl
  · intro v' w' h1 h2 _ h4
    rw [← show i64s (xs ++ [z]) = i64s xs ++ [.int .i64 z] by simp [i64s]] at h1
    refine K v' w' h1 ⟨vs, hl2.kept h2 hne, ⟨hin2.len, fun i u zs hu hz => (hin2.row i u zs hu hz).kept h2 (ha u (List.mem_of_getElem? hu)), hin2.away⟩, fun u hu => ?_⟩ ((hal.mono hbase).grown h2 (by simp; omega) (fun k hk => (hown.lt k hk).1))
    obtain ⟨zs, hz⟩ := hin.mem hu
    rcases h4 with h4 | h4
    · rcases ha u hu with h | h
      · exact .inl h
      · exact .inr (by rw [h4]; exact h)
    · cases hl : u.ownBlock with
      | none => exact .inl hl
      | some g =>
        refine .inr ?_
        rw [hl, h4]
        intro e
        have h5 := hz.until_ g hl
        simp at e
        omega
/-- 'list = append(list, row)' at a step of a region that draws, beside a row of integers. -/
theorem step_push_beside {ops : Array Oper} {o : Oper} {a : Act} {W : World} {K : Act → World → Prop} {Q : Exit → Act → World → Prop} {E : Prop} (hgd : o.guard = none) (sl x : Operand)
    (ho : o.op = .call { callee := .builtin .append, args := #[sl, x], argTypes := #[23, 23] })
    (base : Nat) (w0 wr : World) (v u r : Value) (zss : List (List Int)) (zs : List Int) (hs : a.eval sl = v) (hx : a.eval x = .slice (some ⟨wr.heap.size, 0, none⟩) 1 1) (hW : W = wr.alloc (.cells #[u] 22) ∨ W = (wr.alloc (.cells #[u] 22)).drew)
    (hF : Fresh w0 base v zss r) (hb0 : Below w0.heap.size w0 wr) (hu : Ints wr w0.heap.size u zs) (hr : Until w0.heap.size r) (hn : zss.length ≤ 1048576) (hbase : base ≤ w0.heap.size)
    (hK : ∀ v' w', Fresh w' base v' (zss ++ [zs]) r → Below base w0 w' → KeepI w0 w' → K (a.put o.dst v') w') :
    if Region.wanted o (yielded ops a.tmps) = true then Oper.wp Try.prog o a W K Q else E := by
  obtain ⟨vs, hown, hin, ha⟩ := hF
  have hsz := hb0.size
  have hal : Below wr.heap.size wr W := by
    rcases hW with rfl | rfl
    · exact (Below.refl wr.heap.size wr).alloc (Nat.le_refl _) (.cells #[u] 22)
    · exact ((Below.refl wr.heap.size wr).alloc (Nat.le_refl _) (.cells #[u] 22)).drew
  have hrd : Reads W (wr.heap.size + 1) (some ⟨wr.heap.size, 0, none⟩) 1 [u] := by
    rcases hW with rfl | rfl
    · exact reads_new wr _ _
    · exact (reads_new wr _ _).drew
  have hown1 := own_below hown hb0
  have hown2 := own_below hown1 hal
  obtain ⟨A1, c1, rfl⟩ := hu.slice
  have hball := below_after hb0 hal
  refine step_append_rows hgd sl x ho base (wr.heap.size + 1) zss.length 1 1 w0 v (some ⟨wr.heap.size, 0, none⟩) vs [.slice A1 zs.length c1] hs hx hown2 hrd (fun h => by cases h) (fun y hy => by obtain rfl := List.mem_singleton.1 hy; rfl) (by omega) (by omega) (hball.mono hbase) (Nat.le_trans hbase hball.size) fun v' w' h1 h2 h3 _ => ?_
  have hk := (KeepI.of_below hball).trans (KeepI.of_grown hown2 h3)
  have hk1 := (KeepI.of_below hal).trans (KeepI.of_grown hown2 h3)
  refine hK v' w' ⟨vs ++ [.slice A1 zs.length c1], by rw [List.length_append]; exact h1, (hin.keepI hk).push ((hu.low hbase).keepI hk1) (hin.away_new hu.since (Nat.le_refl _)), fun y hy => ?_⟩ h2 hk
  rcases List.mem_append.1 hy with hy | hy
  · exact ha y hy
  · obtain rfl := List.mem_singleton.1 hy
    exact apart' hu.since hr (Nat.le_refl _)
end Go.Proofs.Ytffdnpgalpcigaa


/-
  spec.l6Split, by its contract.
-/

namespace Go.Proofs.Ytffdnpgalpcigaa
set_option maxRecDepth 100000
open Go.RowKit

theorem Ints.made1 (w : World) (B : Nat) (a : Int) (hB : B ≤ w.heap.size) : Ints (w.alloc (.cells #[.int .i64 a] 3)) B (.slice (some ⟨w.heap.size, 0, none⟩) 1 1) [a] :=
  Ints.of_own (zs := [a]) ⟨rfl, .inr ⟨w.heap.size, 1, #[.int .i64 a], rfl, hB, heap_alloc_new w _, Nat.le_refl _, by unfold maxLen; omega, rfl, rfl⟩⟩
theorem Fresh.one {w : World} {B : Nat} {u r : Value} {p : List Int} (hp : Ints w B u p) (hr1 : Away u r) (hB : B ≤ w.heap.size) :
    Fresh (w.alloc (.cells #[u] 22)) B (.slice (some ⟨w.heap.size, 0, none⟩) 1 1) [p] r := by
  have hal := (Below.refl w.heap.size w).alloc (Nat.le_refl _) (.cells #[u] 22)
  refine ⟨[u], ⟨rfl, .inr ⟨w.heap.size, 1, #[u], rfl, hB, heap_alloc_new w _, Nat.le_refl _, by unfold maxLen; omega, rfl, rfl⟩⟩, ?_, ?_⟩
  · exact (Inner.nil (w.alloc (.cells #[u] 22)) B).push (hp.below hal) (fun x hx => by simp at hx)
  · intro x hx
    simp only [List.mem_cons, List.not_mem_nil, or_false] at hx
    subst hx; exact hr1
theorem keepP {B : Nat} {wr w : World} {p : Addr} {v : Value} (h : wr.cell? p = some v) (hp : p.block < B) (hb : Below B wr w) : w.cell? p = some v ∧ Below B wr w := ⟨(hb.cell hp).trans h, hb⟩
theorem topK_stop {p : List Int} {a k : Nat} (h : k + 1 ≠ p.length) (hi : iv p a k = true) : topK p a k = k := by
  cases k with
  | zero => rfl
  | succ k => rw [topK, if_neg (by simp only [not_or]; exact ⟨h, by simp [hi]⟩)]
theorem topK_go {p : List Int} {a k : Nat} (h : k + 2 = p.length ∨ iv p a (k + 1) = false) : topK p a (k + 1) = topK p a k := by rw [topK, if_pos h]
/-- The inflation of the permutation of one number, just built. -/
theorem inf_one (w : World) (B : Nat) (hB : B ≤ w.heap.size) :
    InfAt (((w.alloc (.cells #[.int .i64 1] 3)).alloc (.cells #[.int .i64 1] 3)).alloc (.cells #[.slice (some ⟨w.heap.size + 1, 0, none⟩) 1 1] 22)) B
      (.slice (some ⟨w.heap.size, 0, none⟩) 1 1) (.slice (some ⟨w.heap.size + 1 + 1, 0, none⟩) 1 1) [1] [[1]] := by
  have r1 := Ints.made1 w B 1 hB
  have r2 := Ints.made1 (w.alloc (.cells #[.int .i64 1] 3)) B 1 (by simp; omega)
  have a1 := (Below.refl (w.alloc (.cells #[.int .i64 1] 3)).heap.size (w.alloc (.cells #[.int .i64 1] 3))).alloc (Nat.le_refl _) (.cells #[.int .i64 1] 3)
  have a2 := a1.alloc (by simp) (.cells #[.slice (some ⟨w.heap.size + 1, 0, none⟩) 1 1] 22)
  have f := Fresh.one (r := .slice (some ⟨w.heap.size, 0, none⟩) 1 1) r2 (.inr (by simp [Value.ownBlock])) (by simp; omega)
  simp only [World.size_alloc] at f
  exact ⟨r1.below a2, f⟩

set_option maxHeartbeats 1600000 in
theorem l6split_any (A : Option Addr) (n c B : Nat) (zs : List Int) (w : World) (h : Arg w B A n c zs) (hp : isP zs = true) (h0 : 0 < n) :
    Calls Try.prog 33 #[.slice A n c] w (GivesX w (rootP zs) (pcsP zs)) := by
  have hl := h.len
  have hn8 : n ≤ 8 := by have := isP_le hp; omega
  have hbel := (Below.refl w.heap.size w).alloc (Nat.le_refl _) (.cells #[.slice none 0 0, .slice none 0 0] 25)
  have hW := Whole.new w 25 #[.slice none 0 0, .slice none 0 0]
  by_cases h1 : n = 1
  · subst h1
    have HQ : Hid (rootP zs = [1] ∧ pcsP zs = [[1]]) := hide ⟨by unfold rootP; rw [if_pos hl], by unfold pcsP; rw [if_pos hl]⟩
    clear hl hp h
    go_enter Try.func33, Try.ntmps33
    go_wp2_with fail
    have hWe := (((Whole.new w 25 #[.slice (some ⟨w.heap.size + 1, 0, none⟩) 1 1, .slice (some ⟨w.heap.size + 1 + 1 + 1, 0, none⟩) 1 1]).alloc (.cells #[.int .i64 1] 3)).alloc (.cells #[.int .i64 1] 3)).alloc (.cells #[.slice (some ⟨w.heap.size + 1 + 1, 0, none⟩) 1 1] 22)
    have hIn := inf_one (w.alloc (.cells #[.slice (some ⟨w.heap.size + 1, 0, none⟩) 1 1, .slice (some ⟨w.heap.size + 1 + 1 + 1, 0, none⟩) 1 1] 25)) w.heap.size (by simp)
    simp only [World.size_alloc] at hIn
    refine bodyPost_ret (v := .agg #[.slice (some ⟨w.heap.size + 1, 0, none⟩) 1 1, .slice (some ⟨w.heap.size + 1 + 1 + 1, 0, none⟩) 1 1]) (results_cell_row Try.results33 _ _ w.heap.size 25 _ (0, 0) _ rfl hWe Try.underlying25 rfl infInfo) rfl ?_
    rw [(unhide HQ).1, (unhide HQ).2]
    exact GivesX.mk hIn (((((Below.refl _ w).alloc (Nat.le_refl _) _).alloc (by simp) _).alloc (by simp; omega) _).alloc (by simp; omega) _)
  · have H1 := hide (fun w' (hb : Below w.heap.size w w') => sparts_any A n c B zs w' (h.below hb))
    have H2 := hide (fun w' (hb : Below w.heap.size w w') => sskews_any A n c B zs w' (h.below hb))
    by_cases h2 : 1 < (partsR zs).length
    · have HQ : Hid (rootP zs = sumRoot false ∧ pcsP zs = sumPcs false (partsR zs)) := hide ⟨by unfold rootP; rw [if_neg (by omega), if_pos h2], by unfold pcsP; rw [if_neg (by omega), if_pos h2]⟩
      clear hl hp h
      go_enter Try.func33, Try.ntmps33
      go_wp2_with fail
      refine (unhide H1 _ hbel).mono ?_
      rintro e w2 ⟨A2, c2, rfl, own2, hb2⟩
      have hW2 := hW.below hb2 (by simp)
      have hbw := below_after hbel hb2
      have hg2 : w.heap.size + 1 ≤ w2.heap.size := by have := hb2.size; simpa using this
      have H3 := hide (l6sum_any A2 (partsR zs).length c2 (w.heap.size + 1) false (partsR zs) w2 (by simpa using own2) (by have := (partsR_small zs).1; omega) h2 (fun z hz => ⟨by have := isP_le (partsR_isP hz); omega, isP_small (partsR_isP hz)⟩))
      obtain ⟨N2, hN2⟩ : ∃ N2, (partsR zs).length = N2 := ⟨_, rfl⟩
      have h2i : (1 : Int) < (N2 : Int) := by omega
      rw [hN2] at H3
      rw [hN2]
      clear H1 H2 own2 hb2 hN2
      go_wp2_with fail
      refine (unhide H3).mono ?_
      rintro e w3 ⟨A3, c3, A4, c4, rfl, hIn, hb3⟩
      have hW3 := hW2.below hb3 (by omega)
      have hbw3 := hbw.trans (hb3.mono (by omega))
      have hlt3 : w.heap.size < w3.heap.size := hW3.lt
      have q0 := hW3.cell 0
      have q1 := hW3.cell 1
      have f0 := hW3.frozen 0
      have f1 := hW3.frozen 1
      simp only [List.getElem?_toArray, List.getElem?_cons_zero, List.getElem?_cons_succ] at q0 q1
      have HI := hide (And.intro hIn hbw3)
      clear H3 hIn hb3 hbw hbw3
      go_wp2
      have hWe := (hW3.put 0 (.slice A3 (sumRoot false).length c3)).put 1 (.slice A4 (sumPcs false (partsR zs)).length c4)
      refine bodyPost_ret (v := .agg #[.slice A3 (sumRoot false).length c3, .slice A4 (sumPcs false (partsR zs)).length c4]) (results_cell_row Try.results33 _ _ w.heap.size 25 _ (0, 0) _ rfl hWe Try.underlying25 rfl infInfo) rfl ?_
      rw [(unhide HQ).1, (unhide HQ).2]
      exact inf_end (unhide HI).1 (by omega) (unhide HI).2
    · have HN := hide h2
      by_cases h3 : 1 < (skewsR zs).length
      · have HQ : Hid (rootP zs = sumRoot true ∧ pcsP zs = sumPcs true (skewsR zs)) := hide ⟨by unfold rootP; rw [if_neg (by omega), if_neg h2, if_pos h3], by unfold pcsP; rw [if_neg (by omega), if_neg h2, if_pos h3]⟩
        obtain ⟨N1, hN1⟩ : ∃ N1, (partsR zs).length = N1 := ⟨_, rfl⟩
        have hn1 : ¬ (1 : Int) < (N1 : Int) := by omega
        clear hl hp h h2
        go_enter Try.func33, Try.ntmps33
        go_wp2_with fail
        refine (unhide H1 _ hbel).mono ?_
        rintro e w1 ⟨A1, c1, rfl, own1, hb1⟩
        have hW1 := hW.below hb1 (by simp)
        have hbw1 := below_after hbel hb1
        have hg1 : w.heap.size + 1 ≤ w1.heap.size := by have := hb1.size; simpa using this
        rw [hN1]
        clear H1 hW hbel own1 hb1 hN1
        go_wp2_with fail
        refine (unhide H2 _ hbw1).mono ?_
        rintro e w2 ⟨A2, c2, rfl, own2, hb2⟩
        have hW2 := hW1.below hb2 (by omega)
        have hbw := below_after hbw1 hb2
        have hg2 : w.heap.size + 1 ≤ w2.heap.size := by have := hb2.size; omega
        have H3 := hide (l6sum_any A2 (skewsR zs).length c2 (w.heap.size + 1) true (skewsR zs) w2 (own2.low (by omega)) (by have := (skewsR_small zs).1; omega) h3 (fun z hz => ⟨by have := isP_le (skewsR_isP hz); omega, isP_small (skewsR_isP hz)⟩))
        obtain ⟨N2, hN2⟩ : ∃ N2, (skewsR zs).length = N2 := ⟨_, rfl⟩
        have h2i : (1 : Int) < (N2 : Int) := by omega
        rw [hN2] at H3
        rw [hN2]
        clear H2 own2 hb2 hN2 hW1 hbw1 hg1
        go_wp2_with fail
        refine (unhide H3).mono ?_
        rintro e w3 ⟨A3, c3, A4, c4, rfl, hIn, hb3⟩
        have hW3 := hW2.below hb3 (by omega)
        have hbw3 := hbw.trans (hb3.mono (by omega))
        have hlt3 : w.heap.size < w3.heap.size := hW3.lt
        have q0 := hW3.cell 0
        have q1 := hW3.cell 1
        have f0 := hW3.frozen 0
        have f1 := hW3.frozen 1
        simp only [List.getElem?_toArray, List.getElem?_cons_zero, List.getElem?_cons_succ] at q0 q1
        have HI := hide (And.intro hIn hbw3)
        clear H3 hIn hb3 hbw hbw3
        go_wp2
        have hWe := (hW3.put 0 (.slice A3 (sumRoot true).length c3)).put 1 (.slice A4 (sumPcs true (skewsR zs)).length c4)
        refine bodyPost_ret (v := .agg #[.slice A3 (sumRoot true).length c3, .slice A4 (sumPcs true (skewsR zs)).length c4]) (results_cell_row Try.results33 _ _ w.heap.size 25 _ (0, 0) _ rfl hWe Try.underlying25 rfl infInfo) rfl ?_
        rw [(unhide HQ).1, (unhide HQ).2]
        exact inf_end (unhide HI).1 (by omega) (unhide HI).2
      · have HQ : Hid (rootP zs = patL (topsOf zs (cuts zs 0)) ∧ pcsP zs = pcsOf zs (cuts zs 0)) := hide ⟨by unfold rootP; rw [if_neg (by omega), if_neg h2, if_neg h3], by unfold pcsP; rw [if_neg (by omega), if_neg h2, if_neg h3]⟩
        obtain ⟨N1, hN1⟩ : ∃ N1, (partsR zs).length = N1 := ⟨_, rfl⟩
        have hn1 : ¬ (1 : Int) < (N1 : Int) := by omega
        obtain ⟨N2, hN2⟩ : ∃ N2, (skewsR zs).length = N2 := ⟨_, rfl⟩
        have hn2 : ¬ (1 : Int) < (N2 : Int) := by omega
        have HL := hide hl
        have HP := hide hp
        have HA := hide h
        clear hl hp h h2 h3
        go_enter Try.func33, Try.ntmps33
        go_wp2_with fail
        refine (unhide H1 _ hbel).mono ?_
        rintro e w1 ⟨A1, c1, rfl, own1, hb1⟩
        have hW1 := hW.below hb1 (by simp)
        have hbw1 := below_after hbel hb1
        have hg1 : w.heap.size + 1 ≤ w1.heap.size := by have := hb1.size; simpa using this
        rw [hN1]
        clear H1 hW hbel own1 hb1 hN1
        go_wp2_with fail
        refine (unhide H2 _ hbw1).mono ?_
        rintro e w2 ⟨A2, c2, rfl, own2, hb2⟩
        have hW2 := hW1.below hb2 (by omega)
        have hbw := below_after hbw1 hb2
        have hg2 : w.heap.size + 1 ≤ w2.heap.size := by have := hb2.size; omega
        rw [hN2]
        clear H2 own2 hb2 hN2 hW1 hbw1 hg1
        go_wp2
        go_loopw [6, 7, 8] (fun v i _ wr => ∃ (l : List (Nat × Nat)) (a : Nat) (pv : Value), a ≤ n ∧ l.length ≤ a ∧ i = .int .i64 a ∧ Hid (cuts zs 0 = l ++ cuts zs a) ∧ wr.ownsRow (w2.heap.size + 1) 3 1 v l.length (i64s (topsOf zs l)) ∧
          Whole wr w2.heap.size 25 #[.slice none 0 0, pv] ∧ Fresh wr (w2.heap.size + 1) pv (pcsOf zs l) v ∧ Below w.heap.size w wr ∧ Whole wr w.heap.size 25 #[.slice none 0 0, .slice none 0 0]) (fun _ i _ _ => n - (intOf i).toNat)
        case atStart =>
          have b1 := (Below.refl w2.heap.size w2).alloc (Nat.le_refl _) (.cells #[.slice none 0 0, .slice none 0 0] 25)
          have b2 := b1.alloc (by simp) (.cells #[] 3)
          have o := own0 (w2.alloc (.cells #[.slice none 0 0, .slice none 0 0] 25)) (w2.heap.size + 1) (by simp)
          simp only [World.size_alloc] at o
          exact ⟨[], 0, .slice none 0 0, by omega, by simp, rfl, hide rfl, o, (Whole.new w2 _ _).alloc _, ⟨[], ⟨rfl, .inl ⟨rfl, rfl⟩⟩, Inner.nil _ _, fun x hx => by cases hx⟩, below_after hbw b2, hW2.below b2 (by omega)⟩
        case round =>
          obtain ⟨l, a, pv, han, hla, rfl, hcut, hT, hWG, hF, hbr, hWR⟩ := hrel
          clear hbw hW2
          by_cases hlt : a < n
          · have hA := (unhide HA).below hbr
            obtain ⟨ad, u, rfl, _, hu, hc⟩ := hA.reads.at_ hlt
            obtain ⟨z, hz, rfl⟩ := i64_at hu
            have HZ := hide (at0_of hz)
            have hcap := hA.cap
            have hpb := hA.under
            have HQA := hide hA
            have hlc : a + 1 ≤ c := by omega
            have HR := hide (fun k b (hk : a + k < n) (hb : iv zs a k = b) => srun_any _ n c B zs a k (a : Int) ((a : Int) + k) rfl rfl b hb wr hA (unhide HP) hk)
            have HK := hide (topK_le zs a (n - 1 - a))
            have HC := hide (cuts_yes (p := zs) (a := a) (by rw [unhide HL]; exact hlt))
            clear hA hu hz
            go_wp2_with fail
            go_loopw [8] (fun t wi => ∃ k : Nat, a + k < n ∧ t = .int .i64 ((a : Int) + k) ∧ wi = wr ∧ Hid (topK zs a (n - 1 - a) = topK zs a k)) (fun t _ => (intOf t).toNat)
            case atStart => exact ⟨n - 1 - a, by omega, by go_num, rfl, rfl⟩
            case round =>
              obtain ⟨k, hk, rfl, rfl, hq⟩ := hrel
              by_cases hfull : k + 1 = n
              · obtain ⟨j, rfl⟩ : ∃ j, k = j + 1 := ⟨k - 1, by omega⟩
                have e1 : (a : Int) + ((j + 1 : Nat) : Int) - a + 1 = n := by omega
                have e2 : ((j + 1 : Nat) : Int) + 1 = n := by omega
                have e3 : (j : Int) + 1 + 1 = n := by omega
                have hq2 := hide ((unhide hq).trans (topK_go (p := zs) (a := a) (k := j) (.inl (by rw [unhide HL]; omega))))
                clear hq
                go_wp2
                go_roundw
                case rel => exact ⟨j, by omega, by go_num, trivial, hq2⟩
                case measure => simp [intOf]; omega
              · have e1 : ¬ (a : Int) + (k : Int) - a + 1 = n := by omega
                have e2 : ¬ (k : Int) + 1 = n := by omega
                obtain ⟨b, hb⟩ : ∃ b, iv zs a k = b := ⟨_, rfl⟩
                have HQ2 := hide (unhide HR k b hk hb)
                have HB := hide hb
                clear hb
                go_wp2_with fail
                refine (unhide HQ2).mono ?_
                rintro e w3 ⟨rfl, rfl⟩
                cases b with
                | false =>
                  have hk0 : k ≠ 0 := fun h => by
                    have := unhide HB
                    rw [h, iv_one (unhide HP) (by rw [unhide HL]; exact hlt)] at this
                    cases this
                  obtain ⟨j, rfl⟩ : ∃ j, k = j + 1 := ⟨k - 1, by omega⟩
                  have hq2 := hide ((unhide hq).trans (topK_go (p := zs) (a := a) (k := j) (.inr (unhide HB))))
                  clear hq HQ2
                  go_wp2
                  go_roundw
                  case rel => exact ⟨j, by omega, by go_num, trivial, hq2⟩
                  case measure => simp [intOf]; omega
                | true =>
                  have hq2 := hide ((unhide hq).trans (topK_stop (p := zs) (a := a) (k := k) (by rw [unhide HL]; exact hfull) (unhide HB)))
                  have H5 := hide (fun w' (hb' : Below w3.heap.size w3 w') => l2pat_any (some (ad.add a)) (k + 1) (c - a) B _ w' (((unhide HQA).cut (f := a) (m := k + 1) (by omega)).below hb') (by omega))
                  clear hq HQ2
                  go_wp2
                  have hblk : w2.heap.size < w3.heap.size := hWG.lt
                  have q1 := hWG.cell 1
                  have f1 := hWG.frozen 1
                  simp only [List.getElem?_toArray, List.getElem?_cons_zero, List.getElem?_cons_succ] at q1
                  have hb0 := Below.refl w3.heap.size w3
                  have hbl0 := Below.refl (w2.heap.size + 1) w3
                  have hun := (Ints.of_own (zs := topsOf zs l) hT).until_
                  have hpl : (pcsOf zs l).length ≤ 1048576 := by simp [pcsOf]; omega
                  have HF := hide (And.intro hF (And.intro hun hpl))
                  have HW := hide (And.intro hWG (And.intro hWR (And.intro hbr hT)))
                  have e3 : IntKind.i64.wrap ((a : Int) + (k : Int) + 1) = (a : Int) + (k : Int) + 1 := by rw [IntKind.wrap_i64]; omega
                  have e4 : (a : Int) ≤ (a : Int) + (k : Int) + 1 := by omega
                  have e5 : (a : Int) + (k : Int) + 1 ≤ (c : Int) := by omega
                  have e6 : ((a : Int) + (k : Int) + 1).toNat = a + k + 1 := by omega
                  have e7 : a + k + 1 - a = k + 1 := by omega
                  have e8 : (0 : Int) ≤ (a : Int) := by omega
                  have e9 : ¬ c = a := by omega
                  have q1' := hide q1
                  have f1' := hide f1
                  clear e1 e2 hF hun hpl hWG hWR hbr hT hcap hpb hlc hfull f1
                  go_region_law
                    (first
                      | (go_simp; go_at_call 62; refine (unhide H5 _ (by first | assumption | (apply Below.drew; assumption))).mono ?_; rintro e w4 ⟨A4, c4, rfl, own4, hb4⟩;
                          have hb5 : Below w3.heap.size w3 w4 := (hb0.drew).trans hb4;
                          have hb5l := hb5.mono (show w2.heap.size + 1 ≤ w3.heap.size from hblk);
                          have hsz4 : w2.heap.size + 1 ≤ w4.heap.size := Nat.le_trans hblk hb5.size; have q4 := (hb5.cell (p := ⟨w2.heap.size, 1, none⟩) hblk).trans (unhide q1'); have q4a := fun o => ((hb5.alloc hb5.size o).cell (p := ⟨w2.heap.size, 1, none⟩) hblk).trans (unhide q1'); have hl4 : w2.heap.size < w4.heap.size := Nat.lt_of_lt_of_le hblk hb5.size)
                      | (refine step_push_beside (by rfl) (.tmp 56) (.tmp 63) (by rfl) (w2.heap.size + 1) w3 w4 _ _ _ (pcsOf zs l) _ (by rfl) (by rfl) (by first | exact .inl rfl | exact .inr rfl) (unhide HF).1 hb5 own4 (unhide HF).2.1 (unhide HF).2.2 hblk ?_; intro v6 w6 hF6 hb6 hk6; obtain ⟨A6, c6, rfl⟩ := hF6.intsS.slice;
                          have hl6 : w2.heap.size < w6.heap.size := Nat.lt_of_lt_of_le hblk hb6.size;
                          have q6 := (hb6.cell (p := ⟨w2.heap.size, 1, none⟩) (Nat.lt_succ_self _)).trans (unhide q1');
                          have f6 := (hb6.frozen (p := ⟨w2.heap.size, 1, none⟩) (Nat.lt_succ_self _)).trans (unhide f1');
                          have HF6 := hide (And.intro hF6 (And.intro hb6 hk6)); have hb6l := hb6;
                          clear hF6 hb6 hk6 hb5 own4))
                  all_goals
                    have hF7 := (unhide HF6).1.aside (p := ⟨w2.heap.size, 1, none⟩) (Nat.lt_succ_self _) (.slice A6 ((pcsOf zs l).length + 1) c6)
                    have hT7 := own_aside (own_keepI (unhide HW).2.2.2 (unhide HF6).2.2) (p := ⟨w2.heap.size, 1, none⟩) (Nat.lt_succ_self _) (.slice A6 ((pcsOf zs l).length + 1) c6)
                    have hWG7 := ((unhide HW).1.below (unhide HF6).2.1 (Nat.lt_succ_self _)).put 1 (.slice A6 ((pcsOf zs l).length + 1) c6)
                    have hWR7 := ((unhide HW).2.1.below (unhide HF6).2.1 (by omega)).far (p := ⟨w2.heap.size, 1, none⟩) (by simp; omega) (.slice A6 ((pcsOf zs l).length + 1) c6)
                    have hbr7 := ((unhide HW).2.2.1.trans ((unhide HF6).2.1.mono (by omega))).setCell (p := ⟨w2.heap.size, 1, none⟩) (by simp; omega) (.slice A6 ((pcsOf zs l).length + 1) c6)
                    have hsz7 : w2.heap.size + 1 ≤ (w6.setCell ⟨w2.heap.size, 1, none⟩ (.slice A6 ((pcsOf zs l).length + 1) c6)).heap.size := by simp; omega
                    generalize w6.setCell ⟨w2.heap.size, 1, none⟩ (.slice A6 ((pcsOf zs l).length + 1) c6) = w7 at hF7 hT7 hWG7 hWR7 hbr7 hsz7 ⊢
                    obtain ⟨ad', u', hA', _, hu', hc7⟩ := ((unhide HA).below hbr7).reads.at_ hlt
                    injection hA' with hA'
                    subst hA'
                    obtain ⟨z', hz', rfl⟩ := i64_at hu'
                    have HZ' := hide (at0_of hz')
                    clear hu' hz' q1 q6 f6 q4 q4a hl4 hl6 hsz4 hb4 hb5l hc hb0 hbl0
                    go_wp2_with (first
                      | (at_builtin; refine wpList_append_beside rfl (.tmp 66) (.tmp 71) rfl (w2.heap.size + 1) l.length w7 u6 _ (topsOf zs l) z' _ rfl rfl rfl hT7 hF7 (by omega) hsz7 ?_; intro v8 w8 hT8 hF8 hb8))
                    have hcc := unhide HC
                    rw [unhide HL, unhide hq2] at hcc
                    have hcut2 : cuts zs 0 = (l ++ [(a, k)]) ++ cuts zs (a + k + 1) := by rw [unhide hcut, hcc]; simp
                    clear e3 e4 e5 e6 e7 e9 hcc
                    refine ⟨⟨l ++ [(a, k)], a + k + 1, .slice A6 ((pcsOf zs l).length + 1) c6, by omega, by simp; omega, by go_num, hide hcut2, ?_, hWG7.below hb8 (Nat.lt_succ_self _), ?_, hbr7.trans (hb8.mono (by omega)), hWR7.below hb8 (by omega)⟩, by simp [intOf]; omega⟩
                    · rw [tops_snoc, List.length_append, unhide HZ']; exact hT8
                    · rw [List.length_append] at hF8; rw [pcs_snoc]; exact hF8
          · obtain rfl : n = a := by omega
            have hcl : cuts zs 0 = l := by rw [unhide hcut, cuts_no (by rw [unhide HL]; omega), List.append_nil]
            have HCL := hide hcl
            have hll : (topsOf zs l).length = l.length := by simp [topsOf]
            have hTI := Ints.of_own (zs := topsOf zs l) hT
            have hsm : Small (topsOf zs l) := fun z hz => by
              obtain ⟨c, hc, rfl⟩ := List.mem_map.1 hz
              have h1 := (mem_cuts 0 (by rw [hcl]; exact hc)).2.1
              have h2 := isP_range (unhide HP) (at0_some (l := zs) (show c.1 < zs.length by omega))
              have h3 := isP_le (unhide HP)
              omega
            obtain ⟨A7, c7, rfl⟩ := hTI.slice
            obtain ⟨A8, c8, rfl⟩ := hF.intsS.slice
            have H9 := hide (l2pat_any A7 (topsOf zs l).length c7 _ _ wr (hTI.arg (by omega) hTI.cap hsm) (by omega))
            have HPS := hide hF.intsS
            have hblk : w2.heap.size < wr.heap.size := hWG.lt
            clear hT hTI hsm hF hcl hll
            go_wp2_with fail
            refine (unhide H9).mono ?_
            rintro e w5 ⟨A5, c5, rfl, own5, hb5⟩
            have hWG5 := hWG.below hb5 hblk
            have hWR5 := hWR.below hb5 hWR.lt
            have hbr5 := hbr.trans (hb5.mono (by omega))
            have q0 := hWG5.cell 0
            have q1 := hWG5.cell 1
            have f0 := hWG5.frozen 0
            have hlt5 := hWG5.lt
            have f1 := hWG5.frozen 1
            have r0 := hWR5.cell 0
            have r1 := hWR5.cell 1
            have g0 := hWR5.frozen 0
            have g1 := hWR5.frozen 1
            have hltr := hWR5.lt
            simp only [List.getElem?_toArray, List.getElem?_cons_zero, List.getElem?_cons_succ] at q0 q1 r0 r1
            have hgr : ¬ w.heap.size = w2.heap.size := by omega
            have hrg : ¬ w2.heap.size = w.heap.size := by omega
            clear H9
            go_wp2_with fail
            have hWe := ((hWR5.far (p := ⟨w2.heap.size, 0, none⟩) hgr (.slice A5 (patL (topsOf zs l)).length c5)).put 0 (.slice A5 (patL (topsOf zs l)).length c5)).put 1 (.slice A8 (pcsOf zs l).length c8)
            refine bodyPost_ret (v := .agg #[.slice A5 (patL (topsOf zs l)).length c5, .slice A8 (pcsOf zs l).length c8]) (results_cell_row Try.results33 _ _ w.heap.size 25 _ (0, 0) _ rfl hWe Try.underlying25 rfl infInfo) rfl ?_
            rw [(unhide HQ).1, (unhide HQ).2, unhide HCL]
            obtain ⟨vs, ho, hin⟩ := unhide HPS
            have hIn : InfAt w5 (w2.heap.size + 1) (.slice A5 (patL (topsOf zs l)).length c5) (.slice A8 (pcsOf zs l).length c8) (patL (topsOf zs l)) (pcsOf zs l) :=
              ⟨own5.low hblk, ⟨vs, own_below ho hb5, hin.keepI (KeepI.of_below hb5), hin.away_new own5.since (Nat.le_refl _)⟩⟩
            exact inf_end (hIn.aside (p := ⟨w2.heap.size, 0, none⟩) (Nat.lt_succ_self _) _) (by omega) (hbr5.setCell (p := ⟨w2.heap.size, 0, none⟩) (by simp; omega) _)
end Go.Proofs.Ytffdnpgalpcigaa


/-
  spec.SplitPerm, by its contract.
-/

namespace Go.Proofs.Ytffdnpgalpcigaa
set_option maxRecDepth 100000
open Go.RowKit

theorem results_row_tmp {P : Program} {fn : Func} {p u : Tmp} {ty : TypeId} (h : fn.results = #[.cell p ty, .tmp u]) (tmps : Array Value) (w : World) (g : Nat) (t : TypeId) (cs : Array Value) (fr : Nat × Nat) (d : TypeDesc)
    (hp : tmps.getD p undef = .pointer (some ⟨g, 0, none⟩)) (hg : w.heap[g]? = some (.cells cs t fr))
    (hu : P.underlying ty = some d) (hd : (match d with | .struct _ | .array _ _ => true | _ => false) = true) (hi : (P.info? ty).map (·.size) = some cs.size) :
    (results fn tmps).run P w = .ok (.tuple #[.agg cs, tmps.getD u undef]) w := by
  rw [results_cell_tmp h, hp]
  simp [asAddr, Result.andThen, run_loadVar_row w g t ty cs fr d hg hu hd hi]
theorem infB_end {w w3 : World} {B : Nat} {rv pv : Value} {root : List Int} {pcs : List (List Int)} (b : Bool) (hIn : InfAt w3 B rv pv root pcs) (hB : w.heap.size < B) (hb : Below w.heap.size w w3) :
    GivesXB w root pcs b (.returned (.tuple #[.agg #[rv, pv], .bool b])) ((w3.setCell ⟨w.heap.size, 0, none⟩ rv).setCell ⟨w.heap.size, 1, none⟩ pv) :=
  GivesXB.mk b (((hIn.aside (by simpa using hB) _).aside (by simpa using hB) _).low (by omega)) ((hb.setCell (Nat.le_refl _) _).setCell (Nat.le_refl _) _)
theorem inf_nil (w : World) (B : Nat) : InfAt w B (.slice none 0 0) (.slice none 0 0) [] [] :=
  ⟨Ints.nil w B, ⟨[], ⟨rfl, .inl ⟨rfl, rfl⟩⟩, Inner.nil _ _, fun x hx => by cases hx⟩⟩

set_option maxHeartbeats 1600000 in
theorem ssplit_any (A : Option Addr) (n c B : Nat) (zs : List Int) (w : World) (h : Arg w B A n c zs) :
    Calls Try.prog 9 #[.slice A n c] w (GivesXB w (rootR zs) (pcsR zs) (splitOK zs)) := by
  have hl := h.len
  obtain ⟨b, hb⟩ : ∃ b, isP zs = b := ⟨_, rfl⟩
  have hbel := (Below.refl w.heap.size w).alloc (Nat.le_refl _) (.cells #[.slice none 0 0, .slice none 0 0] 25)
  have hW := Whole.new w 25 #[.slice none 0 0, .slice none 0 0]
  have H0 := hide (fun w' (hb' : Below w.heap.size w w') => sisperm_any A n c B zs b hb w' (h.below hb').reads h.le h.cap)
  cases b with
  | false =>
    rw [rootR_no (splitOK_no1 hb), pcsR_no (splitOK_no1 hb), splitOK_no1 hb]
    clear hb h hl
    go_enter Try.func9, Try.ntmps9
    go_wp2_with fail
    refine (unhide H0 _ hbel).mono ?_
    rintro e w1 ⟨rfl, hd⟩
    have hW1 := hW.below (hd.below (w.heap.size + 1)) (Nat.lt_succ_self _)
    have hb1 := hbel.trans (hd.below w.heap.size)
    have r0 := hW1.cell 0
    have r1 := hW1.cell 1
    have g0 := hW1.frozen 0
    have g1 := hW1.frozen 1
    have hltr := hW1.lt
    simp only [List.getElem?_toArray, List.getElem?_cons_zero, List.getElem?_cons_succ] at r0 r1
    clear hd H0 hW hbel
    go_wp2_with fail
    have hWe := (hW1.put 0 (.slice none 0 0)).put 1 (.slice none 0 0)
    refine bodyPost_ret (v := .tuple #[.agg #[.slice none 0 0, .slice none 0 0], .bool false]) (results_row_tmp Try.results9 _ _ w.heap.size 25 _ (0, 0) _ rfl hWe Try.underlying25 rfl infInfo) rfl ?_
    exact infB_end false (inf_nil w1 (w.heap.size + 1)) (by omega) hb1
  | true =>
    by_cases h0 : n = 0
    · subst h0
      rw [rootR_no (splitOK_no2 hl), pcsR_no (splitOK_no2 hl), splitOK_no2 hl]
      clear hb h hl
      go_enter Try.func9, Try.ntmps9
      go_wp2_with fail
      refine (unhide H0 _ hbel).mono ?_
      rintro e w1 ⟨rfl, hd⟩
      have hW1 := hW.below (hd.below (w.heap.size + 1)) (Nat.lt_succ_self _)
      have hb1 := hbel.trans (hd.below w.heap.size)
      have r0 := hW1.cell 0
      have r1 := hW1.cell 1
      have g0 := hW1.frozen 0
      have g1 := hW1.frozen 1
      have hltr := hW1.lt
      simp only [List.getElem?_toArray, List.getElem?_cons_zero, List.getElem?_cons_succ] at r0 r1
      clear hd H0 hW hbel
      go_wp2_with fail
      have hWe := (hW1.put 0 (.slice none 0 0)).put 1 (.slice none 0 0)
      refine bodyPost_ret (v := .tuple #[.agg #[.slice none 0 0, .slice none 0 0], .bool false]) (results_row_tmp Try.results9 _ _ w.heap.size 25 _ (0, 0) _ rfl hWe Try.underlying25 rfl infInfo) rfl ?_
      exact infB_end false (inf_nil w1 (w.heap.size + 1)) (by omega) hb1
    · have hok := splitOK_yes hb (by omega)
      rw [rootR_yes hok, pcsR_yes hok, hok]
      have H1 := hide (fun w' (hb' : Below w.heap.size w w') => l6split_any A n c B zs w' (h.below hb') hb (by omega))
      clear hb h hl hok
      go_enter Try.func9, Try.ntmps9
      go_wp2_with fail
      refine (unhide H0 _ hbel).mono ?_
      rintro e w1 ⟨rfl, hd⟩
      have hW1 := hW.below (hd.below (w.heap.size + 1)) (Nat.lt_succ_self _)
      have hb1 := hbel.trans (hd.below w.heap.size)
      clear hd H0 hW hbel
      go_wp2_with fail
      refine (unhide H1 _ hb1).mono ?_
      rintro e w2 ⟨A3, c3, A4, c4, rfl, hIn, hb2⟩
      have hW2 := hW1.below hb2 hW1.lt
      have hb3 := below_after hb1 hb2
      have hIn2 := hIn.low (show w.heap.size + 1 ≤ w1.heap.size from hW1.lt)
      have r0 := hW2.cell 0
      have r1 := hW2.cell 1
      have g0 := hW2.frozen 0
      have g1 := hW2.frozen 1
      have hltr := hW2.lt
      simp only [List.getElem?_toArray, List.getElem?_cons_zero, List.getElem?_cons_succ] at r0 r1
      have HI := hide hIn2
      clear hIn hIn2 H1
      go_wp2_with fail
      have hWe := (hW2.put 0 (.slice A3 (rootP zs).length c3)).put 1 (.slice A4 (pcsP zs).length c4)
      refine bodyPost_ret (v := .tuple #[.agg #[.slice A3 (rootP zs).length c3, .slice A4 (pcsP zs).length c4], .bool true]) (results_row_tmp Try.results9 _ _ w.heap.size 25 _ (0, 0) _ rfl hWe Try.underlying25 rfl infInfo) rfl ?_
      exact infB_end true (unhide HI) (by omega) hb3
end Go.Proofs.Ytffdnpgalpcigaa


/-
  impl.lastOfLongest, impl.splitLongest, impl.splitSum, impl.SplitPerm, by their contracts.
-/

namespace Go.Proofs.Ytffdnpgalpcigaa
set_option maxRecDepth 100000
open Go.RowKit

theorem add_none (a : Addr) : a.add 0 = a := by unfold Addr.add; split <;> simp_all
theorem Ints.pair {w : World} {B n c : Nat} {A : Option Addr} {f t : Int} (h : Ints w B (.slice A n c) [f, t]) : ∃ g, A = some ⟨g, 0, none⟩ ∧ w.cell? ⟨g, 0, none⟩ = some (.int .i64 f) ∧ w.cell? ⟨g, 1, none⟩ = some (.int .i64 t) := by
  have hh := h
  rcases h.2 with ⟨hv, hz⟩ | ⟨g, cap, cur, e, hv, _⟩
  · simp at hz
  · injection hv with h1 h2 h3
    subst h1
    exact ⟨g, rfl, (Row.cells hh rfl 0 (by simp)).trans rfl, (Row.cells hh rfl 1 (by simp)).trans rfl⟩
theorem max_if (a b : Int) : (if a < b then b else a) = max a b := by split <;> omega
set_option maxHeartbeats 1600000 in
theorem ilast_any (A : Option Addr) (n c B : Nat) (zs : List Int) (a : Nat) (F : Int) (hF : F = (a : Int) + 1) (w : World) (h : Arg w B A n c zs) (hp : isP zs = true) (ha : a < n) (h2 : 2 ≤ n) :
    Calls Try.prog 67 #[.slice A n c, .int .i64 F] w (fun e w' => e = .returned (.int .i64 ((a : Int) + (topK zs a (n - 1 - a) : Nat) + 1)) ∧ Below w.heap.size w w') := by
  have hl := h.len
  have H1 := hide (iivs_any A n c B zs w h)
  have HT := hide (last_top hp (show a < zs.length by omega) (by omega))
  rw [hl, ← hF] at HT
  have hsm := (ivsR_small zs).1
  have HM := hide (fun z (hz : z ∈ ivsR zs) => (mem_ivsR hz).2)
  obtain ⟨R, hR⟩ : ∃ R, ivsR zs = R := ⟨_, rfl⟩
  rw [hR] at H1 HT HM hsm
  obtain ⟨T, hT⟩ : ∃ T : Int, (a : Int) + (topK zs a (n - 1 - a) : Nat) + 1 = T := ⟨_, rfl⟩
  rw [hT] at HT ⊢
  clear hT hR hp h hl hF
  go_enter Try.func67, Try.ntmps67
  go_wp2_with fail
  refine (unhide H1).mono ?_
  rintro e w1 ⟨A1, c1, rfl, hI1, hb1⟩
  clear H1
  go_wp2
  go_loopw [5, 7, 12] (fun b _ i wr => ∃ k : Nat, k ≤ R.length ∧ i = .int .i64 k ∧ b = .int .i64 (lastF F F (R.take k)) ∧ wr = w1) (fun _ _ i _ => R.length - (intOf i).toNat)
  case atStart => exact ⟨0, Nat.zero_le _, rfl, rfl, rfl⟩
  case round =>
    obtain ⟨k, hk, rfl, rfl, rfl⟩ := hrel
    by_cases hlt : k < R.length
    · obtain ⟨ad, A3, c3, z, rfl, hz, hcell, hIz⟩ := hI1.at_ hlt
      obtain ⟨f, t, rfl, _, f1, f8, t1, t8⟩ := unhide HM z (List.mem_of_getElem? hz)
      obtain ⟨g3, rfl, hc0, hc1⟩ := hIz.pair
      have HS := hide (lastF_snoc (f := F) (b := F) (l := R.take k) (z := [f, t]))
      rw [← take_snoc_r hz] at HS
      have hcap := hIz.cap
      have e0 : at0 [f, t] 0 = f := rfl
      have e1 : at0 [f, t] 1 = t := rfl
      rw [e0, e1] at HS
      clear hz hIz e0 e1
      by_cases hf : f = F
      · have hs2 := unhide HS
        rw [if_pos hf] at hs2
        have HS2 := hide hs2
        subst hf
        obtain ⟨L, hL⟩ : ∃ L, lastF f f (R.take k) = L := ⟨_, rfl⟩
        rw [hL] at HS2 ⊢
        clear hs2 HS
        have hmx := max_if L t
        go_wp2
        go_roundw
        case rel => exact ⟨k + 1, by omega, by go_num, by rw [unhide HS2], trivial⟩
        case measure => simp [intOf]; omega
      · have hs2 := unhide HS
        rw [if_neg hf] at hs2
        have HS2 := hide hs2
        clear hs2 HS
        go_wp2
        go_roundw
        case rel => exact ⟨k + 1, by omega, by go_num, by rw [unhide HS2], trivial⟩
        case measure => simp [intOf]; omega
    · obtain rfl : R.length = k := by omega
      rw [List.take_length, unhide HT]
      go_wp2
      go_ret
      exact ⟨rfl, hb1⟩

theorem ReadsS.rest {w : World} {B n f : Nat} {ad : Addr} {zss : List (List Int)} (h : ReadsS w B (some ad) n zss) (hf : f ≤ n) : ReadsS w B (some (ad.add f)) (n - f) (zss.drop f) :=
  ⟨by rw [List.length_drop, h.1], fun hn => by
    obtain ⟨ad', he, hb, hr⟩ := h.2 (by omega)
    injection he with he
    subst he
    refine ⟨_, rfl, by rw [block_of_add]; exact hb, fun j z hz => ?_⟩
    rw [List.getElem?_drop] at hz
    rw [add_of_add]
    exact hr (f + j) z hz⟩
theorem ijoinsR_any (A : Option Addr) (n c B : Nat) (s : Bool) (zss : List (List Int)) (w : World) (hS : ReadsS w B A n zss) (hB : B ≤ w.heap.size) (hn : n ≤ 1048576) (hsm : ∀ z ∈ zss, z.length ≤ 1048576 ∧ Small z) :
    Calls Try.prog 65 #[.slice A n c, .bool s] w (GivesIB w (joinsR s zss) (allFit zss)) := by
  have H1 := hide (sumall_any s A n c B zss w hS hB hn hsm)
  clear hS hsm
  go_enter Try.func65, Try.ntmps65
  go_wp2_with fail
  refine (unhide H1).mono ?_
  rintro e w1 ⟨A1, c1, rfl, own1, hb1⟩
  clear H1
  go_wp2
  go_ret2
  exact GivesIB.mk _ own1 hb1

/-- A struct of a row and a list of rows is given, whose rows may be older than the call. -/
def GivesXO (w : World) (B : Nat) (root : List Int) (pcs : List (List Int)) (e : Ending) (w' : World) : Prop :=
  ∃ A c A' c', e = .returned (.agg #[.slice A root.length c, .slice A' pcs.length c']) ∧ InfAt w' B (.slice A root.length c) (.slice A' pcs.length c') root pcs ∧ Below w.heap.size w w'
theorem GivesXO.mk {w w' : World} {B : Nat} {rv pv : Value} {root : List Int} {pcs : List (List Int)} (h : InfAt w' B rv pv root pcs) (hb : Below w.heap.size w w') : GivesXO w B root pcs (.returned (.agg #[rv, pv])) w' := by
  obtain ⟨A, c, rfl⟩ := h.row.slice
  obtain ⟨A', c', rfl⟩ := h.pcs.intsS.slice
  exact ⟨A, c, A', c', rfl, h, hb⟩
set_option maxHeartbeats 1600000 in
theorem isplitsum_any (A Ar : Option Addr) (n c cr B : Nat) (s : Bool) (zss : List (List Int)) (root : List Int) (w0 w : World) (hS : IntsS w0 B (.slice A n c) zss) (h0 : Below w0.heap.size w0 w) (hr : Ints w w0.heap.size (.slice Ar root.length cr) root) (hB : B ≤ w0.heap.size)
    (hn : n ≤ 1048576) (h1 : 1 < n) (hsm : ∀ z ∈ zss, z.length ≤ 1048576 ∧ Small z) :
    Calls Try.prog 36 #[.slice Ar root.length cr, .slice A n c, .bool s] w (GivesXO w B root (sumPcs s zss)) := by
  obtain ⟨g, rfl⟩ := hS.shape (by omega)
  have hcap := hS.cap
  have hc1 : ¬ c = 1 := by omega
  have hc2 : (1 : Int) ≤ (c : Int) := by omega
  have hn2 : (1 : Int) ≤ (n : Int) := by omega
  have hS1 := hS.below h0
  have hbel := (Below.refl w.heap.size w).alloc (Nat.le_refl _) (.cells #[.slice none 0 0, .slice none 0 0] 25)
  have hS2 := hS1.below hbel
  have hRr := (hS2.readsS).rest (f := 1) (by omega)
  rw [show (⟨g, 0, none⟩ : Addr).add 1 = ⟨g, 1, none⟩ from rfl] at hRr
  have H1 := hide (ijoinsR_any (some ⟨g, 1, none⟩) (n - 1) (c - 1) _ s (zss.drop 1) _ hRr (Nat.le_refl _) (by omega) (fun z hz => hsm z (List.mem_of_mem_drop hz)))
  have hW := Whole.new w 25 #[.slice none 0 0, .slice none 0 0]
  have hz0 : 0 < zss.length := by have := hS.len; omega
  have HP : Hid (sumPcs s zss = [zss.headD [], joinsR s (zss.drop 1)]) := hide rfl
  obtain ⟨ad, A0, c0, z, he, hz, hcell, hI⟩ := hS.at_ (show 0 < n by omega)
  injection he with he
  subst he
  rw [show (⟨g, 0, none⟩ : Addr).add 0 = ⟨g, 0, none⟩ from rfl] at hcell
  have hzz : zss.headD [] = z := by cases zss with | nil => simp at hz0 | cons x r => exact Option.some.inj hz
  rw [hzz] at HP
  have hgl : g < w0.heap.size := by
    obtain ⟨vs, hown, _⟩ := hS
    exact (hown.lt g rfl).2
  have hcell2 := fun (w' : World) (hb : Below w.heap.size w w') => ((h0.trans (hb.mono h0.size)).cell (p := ⟨g, 0, none⟩) hgl).trans hcell
  have hsz0 := h0.size
  obtain ⟨R, hR⟩ : ∃ R, joinsR s (zss.drop 1) = R := ⟨_, rfl⟩
  rw [hR] at H1 HP
  have hA1 : Away (.slice A0 z.length c0) (.slice Ar root.length cr) := apart hI.until_ hr.since (Nat.le_refl _)
  have HI := hide (And.intro (hI.below h0) hA1)
  have HI0 := hide hI.until_
  have HR := hide hr
  clear hS hS1 hS2 hRr hsm hz0 hR hI hcell hz hzz h0 hr hA1
  go_enter Try.func36, Try.ntmps36
  go_wp2_with fail
  refine (unhide H1).mono ?_
  rintro e w2 ⟨A2, c2, rfl, own2, hb2⟩
  have hW2 := hW.below hb2 (by simp)
  have hb3 := below_after hbel hb2
  have hg2 : w.heap.size < w2.heap.size := hW2.lt
  have q0 := hW2.cell 0
  have q1 := hW2.cell 1
  have f0 := hW2.frozen 0
  have f1 := hW2.frozen 1
  simp only [List.getElem?_toArray, List.getElem?_cons_zero, List.getElem?_cons_succ] at q0 q1
  have hcw := hcell2 w2 hb3
  have HO := hide own2
  have HW := hide (And.intro hW2 hb3)
  clear H1 hW hb2 own2 hW2 hb3 hcell2
  go_wp2
  have hr2 := (unhide HR).below (unhide HW).2
  have hz2 := (unhide HI).1.below (unhide HW).2
  have ho2 := unhide HO
  simp only [World.size_alloc] at ho2
  have hA2 : Away (.slice A0 z.length c0) (.slice A2 R.length c2) := apart (unhide HI0) ho2.since (by omega)
  have hA3 : Away (.slice A2 R.length c2) (.slice Ar root.length cr) := apart' ho2.since (unhide HR).until_ (by omega)
  have hWe := (((unhide HW).1.put 0 (.slice Ar root.length cr)).put 1 (.slice (some ⟨w2.heap.size, 0, none⟩) 2 2)).alloc (.cells #[.slice A0 z.length c0, .slice A2 R.length c2] 22)
  refine bodyPost_ret (v := .agg #[.slice Ar root.length cr, .slice (some ⟨w2.heap.size, 0, none⟩) 2 2]) (results_cell_row Try.results36 _ _ w.heap.size 25 _ (0, 0) _ rfl hWe Try.underlying25 rfl infInfo) rfl ?_
  have hx5 := hz2.stay (unhide HI0) (((Below.refl w.heap.size w2).setCell (p := ⟨w.heap.size, 0, none⟩) (Nat.le_refl _) (.slice Ar root.length cr)).setCell (p := ⟨w.heap.size, 1, none⟩) (Nat.le_refl _) (.slice (some ⟨w2.heap.size, 0, none⟩) 2 2)) hsz0
  have hr5 := hr2.stay (unhide HR).until_ (((Below.refl w.heap.size w2).setCell (p := ⟨w.heap.size, 0, none⟩) (Nat.le_refl _) (.slice Ar root.length cr)).setCell (p := ⟨w.heap.size, 1, none⟩) (Nat.le_refl _) (.slice (some ⟨w2.heap.size, 0, none⟩) 2 2)) (Nat.le_refl _)
  have hy5 := (ho2.aside (p := ⟨w.heap.size, 0, none⟩) (Nat.lt_succ_self _) (.slice Ar root.length cr)).aside (p := ⟨w.heap.size, 1, none⟩) (Nat.lt_succ_self _) (.slice (some ⟨w2.heap.size, 0, none⟩) 2 2)
  have hF := Fresh.two (r := .slice Ar root.length cr) hx5 (hy5.low (show B ≤ _ by omega)) hA2 (unhide HI).2 hA3 (by simp; omega)
  simp only [World.size_setCell] at hF
  rw [HP]
  refine GivesXO.mk ⟨(hr5.low hB).below ((Below.refl _ _).alloc (Nat.le_refl _) _), hF⟩ ((((unhide HW).2.setCell (Nat.le_refl _) _).setCell (Nat.le_refl _) _).alloc (by simp; omega) _)
end Go.Proofs.Ytffdnpgalpcigaa


/-
  impl.splitLongest, by its contract.
-/

namespace Go.Proofs.Ytffdnpgalpcigaa
set_option maxRecDepth 100000
open Go.RowKit

/-- 'list = append(list, row)', beside a row of integers. -/
theorem wpList_push_beside {ops : Array Oper} {rest : List Oper} {o : Oper} {a : Act} {W : World} {Q : Exit → Act → World → Prop} (hgd : o.guard = none) (sl x : Operand)
    (ho : o.op = .call { callee := .builtin .append, args := #[sl, x], argTypes := #[23, 23] })
    (base : Nat) (w0 wr : World) (v u r : Value) (zss : List (List Int)) (zs : List Int) (hs : a.eval sl = v) (hx : a.eval x = .slice (some ⟨wr.heap.size, 0, none⟩) 1 1) (hW : W = wr.alloc (.cells #[u] 22))
    (hF : Fresh w0 base v zss r) (hb0 : Below w0.heap.size w0 wr) (hu : Ints wr w0.heap.size u zs) (hr : Until w0.heap.size r) (hn : zss.length ≤ 1048576) (hbase : base ≤ w0.heap.size)
    (hK : ∀ v' w', Fresh w' base v' (zss ++ [zs]) r → Below base w0 w' → KeepI w0 w' → wpList Try.prog ops Q rest (a.put o.dst v') w') : wpList Try.prog ops Q (o :: rest) a W := by
  obtain ⟨vs, hown, hin, ha⟩ := hF
  have hsz := hb0.size
  subst hW
  have hal : Below wr.heap.size wr (wr.alloc (.cells #[u] 22)) := (Below.refl wr.heap.size wr).alloc (Nat.le_refl _) (.cells #[u] 22)
  have hrd : Reads (wr.alloc (.cells #[u] 22)) (wr.heap.size + 1) (some ⟨wr.heap.size, 0, none⟩) 1 [u] := reads_new wr _ _
  have hown1 := own_below hown hb0
  have hown2 := own_below hown1 hal
  obtain ⟨A1, c1, rfl⟩ := hu.slice
  have hball := below_after hb0 hal
  refine wpList_append_rows hgd sl x ho base (wr.heap.size + 1) zss.length 1 1 w0 v (some ⟨wr.heap.size, 0, none⟩) vs [.slice A1 zs.length c1] hs hx hown2 hrd (fun h => by cases h) (fun y hy => by obtain rfl := List.mem_singleton.1 hy; rfl) (by omega) (by omega) (hball.mono hbase) (Nat.le_trans hbase hball.size) fun v' w' h1 h2 h3 _ => ?_
  have hk := (KeepI.of_below hball).trans (KeepI.of_grown hown2 h3)
  have hk1 := (KeepI.of_below hal).trans (KeepI.of_grown hown2 h3)
  refine hK v' w' ⟨vs ++ [.slice A1 zs.length c1], by rw [List.length_append]; exact h1, (hin.keepI hk).push ((hu.low hbase).keepI hk1) (hin.away_new hu.since (Nat.le_refl _)), fun y hy => ?_⟩ h2 hk
  rcases List.mem_append.1 hy with hy | hy
  · exact ha y hy
  · obtain rfl := List.mem_singleton.1 hy
    exact apart' hu.since hr (Nat.le_refl _)

set_option maxHeartbeats 1600000 in
theorem isplitlong_any (A : Option Addr) (n c B : Nat) (zs : List Int) (w : World) (h : Arg w B A n c zs) (hp : isP zs = true) (h2 : 2 ≤ n) :
    Calls Try.prog 38 #[.slice A n c] w (GivesX w (patL (topsOf zs (cuts zs 0))) (pcsOf zs (cuts zs 0))) := by
  have hl := h.len
  have hn8 : n ≤ 8 := by have := isP_le hp; omega
  have hbel := (Below.refl w.heap.size w).alloc (Nat.le_refl _) (.cells #[.slice none 0 0, .slice none 0 0] 25)
  have hW := Whole.new w 25 #[.slice none 0 0, .slice none 0 0]
  have HL := hide hl
  have HP := hide hp
  have HA := hide h
  clear hl hp h
  go_enter Try.func38, Try.ntmps38
  go_wp2_with fail
  go_loopw [3, 4, 5, 6, 7, 8] (fun v pv i _ _ _ wr => ∃ (l : List (Nat × Nat)) (a : Nat), a ≤ n ∧ l.length ≤ a ∧ i = .int .i64 ((a : Int) + 1) ∧ Hid (cuts zs 0 = l ++ cuts zs a) ∧ wr.ownsRow (w.heap.size + 1) 3 1 v l.length (i64s (topsOf zs l)) ∧
    Fresh wr (w.heap.size + 1) pv (pcsOf zs l) v ∧ Below w.heap.size w wr ∧ Whole wr w.heap.size 25 #[.slice none 0 0, .slice none 0 0]) (fun _ _ i _ _ _ _ => n + 1 - (intOf i).toNat)
  case atStart =>
    exact ⟨[], 0, by omega, by simp, rfl, hide rfl, ⟨rfl, .inl ⟨rfl, rfl⟩⟩, ⟨[], ⟨rfl, .inl ⟨rfl, rfl⟩⟩, Inner.nil _ _, fun x hx => by cases hx⟩, hbel, hW⟩
  case round =>
    obtain ⟨l, a, han, hla, rfl, hcut, hT, hF, hbr, hWR⟩ := hrel
    clear hbel hW
    by_cases hlt : a < n
    · have hA := (unhide HA).below hbr
      have hcap := hA.cap
      have HQA := hide hA
      have HK := hide (topK_le zs a (n - 1 - a))
      have HC := hide (cuts_yes (p := zs) (a := a) (by rw [unhide HL]; exact hlt))
      rw [unhide HL] at HC
      have H1 := hide (ilast_any A n c B zs a _ rfl wr hA (unhide HP) hlt h2)
      obtain ⟨k, hk⟩ : ∃ k, topK zs a (n - 1 - a) = k := ⟨_, rfl⟩
      rw [hk] at HK HC H1
      obtain ⟨ad, u, rfl, _⟩ := hA.reads.at_ hlt
      clear hA hk
      have hkn := unhide HK
      have e1 : (a : Int) + 1 ≤ n := by omega
      go_wp2_with fail
      refine (unhide H1).mono ?_
      rintro e w1 ⟨rfl, hb1⟩
      have hA1 := (unhide HQA).below hb1
      have H2 := hide (ipat_any (some (ad.add a)) (k + 1) (c - a) B _ true (patOK_cut (unhide HP) a (k + 1)) w1 (hA1.cut (f := a) (m := k + 1) (by omega)))
      have e3 : IntKind.i64.wrap ((a : Int) + 1 - 1) = a := by rw [IntKind.wrap_i64]; omega
      have e4 : (a : Int) ≤ (a : Int) + (k : Int) + 1 := by omega
      have e5 : (a : Int) + (k : Int) + 1 ≤ (c : Int) := by omega
      have e6 : ((a : Int) + (k : Int) + 1).toNat = a + k + 1 := by omega
      have e7 : a + k + 1 - a = k + 1 := by omega
      have e8 : (0 : Int) ≤ (a : Int) := by omega
      have e9 : ¬ c = a := by omega
      have hbr1 := below_after hbr hb1
      have HX := hide (And.intro hF (And.intro hT (And.intro hWR hb1)))
      clear H1 hF hT hWR hb1 hbr hA1
      go_wp2_with fail
      refine (unhide H2).mono ?_
      rintro e w2 ⟨A2, c2, rfl, own2, hb2⟩
      rw [patR_yes (patOK_cut (unhide HP) a (k + 1))] at own2 ⊢
      have hF1 := (unhide HX).1.below (unhide HX).2.2.2
      have hT1 := own_below (unhide HX).2.1 (unhide HX).2.2.2
      have hun := (Ints.of_own (zs := topsOf zs l) (unhide HX).2.1).until_
      have hsz1 := (unhide HX).2.2.2.size
      have hlw := (unhide HX).2.2.1.lt
      have hWR1 := (unhide HX).2.2.1.below (unhide HX).2.2.2 hlw
      have hT2 := own_below hT1 hb2
      have hpl : (pcsOf zs l).length ≤ 1048576 := by simp [pcsOf]; omega
      clear H2
      go_wp2_with (first
        | (at_builtin; refine wpList_push_beside rfl (.tmp 27) (.tmp 29) rfl (w.heap.size + 1) w1 w2 _ _ _ (pcsOf zs l) _ rfl rfl rfl hF1 hb2 own2 (hun.mono hsz1) hpl (by omega) ?_))
      intro v4 w4 hF4 hb4 hk4
      have hT4 := own_keepI hT1 hk4
      have hWR4 := hWR1.below hb4 (Nat.lt_succ_self _)
      have hbr4 := hbr1.trans (hb4.mono (by omega))
      have hA4 := (unhide HA).below hbr4
      obtain ⟨ad', u', hA', _, hu', hc7⟩ := hA4.reads.at_ hlt
      injection hA' with hA'
      subst hA'
      obtain ⟨z', hz', rfl⟩ := i64_at hu'
      have HZ' := hide (at0_of hz')
      have hsz4 : w.heap.size + 1 ≤ w4.heap.size := hWR4.lt
      clear hu' hz' hA4 hF1 hT1 hWR1 hT2 hb2 own2 hun hpl
      go_wp2_with (first
        | (at_builtin; refine wpList_append_beside rfl (.tmp 31) (.tmp 37) rfl (w.heap.size + 1) l.length w4 _ _ (topsOf zs l) z' _ rfl rfl rfl hT4 hF4 (by omega) hsz4 ?_))
      intro v8 w8 hT8 hF8 hb8
      have hcut2 : cuts zs 0 = (l ++ [(a, k)]) ++ cuts zs (a + k + 1) := by rw [unhide hcut, unhide HC]; simp
      have HCUT2 := hide hcut2
      have hbr8 := hbr4.trans (hb8.mono (by omega))
      have hWR8 := hWR4.below hb8 (Nat.lt_succ_self _)
      have HY := hide (And.intro hT8 (And.intro hF8 (And.intro hbr8 hWR8)))
      clear hcut2 hT8 hF8 hbr8 hWR8 hb8 hT4 hF4 hb4 hk4 hbr4 hWR4 hc7
      go_wp2
      go_roundw
      case rel =>
        refine ⟨l ++ [(a, k)], a + k + 1, by omega, by simp; omega, by go_num, HCUT2, ?_, ?_, (unhide HY).2.2.1, (unhide HY).2.2.2⟩
        · rw [tops_snoc, List.length_append, unhide HZ']; exact (unhide HY).1
        · rw [pcs_snoc]; exact (unhide HY).2.1
      case measure => simp [intOf]; omega
    · obtain rfl : n = a := by omega
      have hcl : cuts zs 0 = l := by rw [unhide hcut, cuts_no (by rw [unhide HL]; omega), List.append_nil]
      have HCL := hide hcl
      have hll : (topsOf zs l).length = l.length := by simp [topsOf]
      have hTI := Ints.of_own (zs := topsOf zs l) hT
      have hsm : Small (topsOf zs l) := fun z hz => by
        obtain ⟨c, hc, rfl⟩ := List.mem_map.1 hz
        have h1 := (mem_cuts 0 (by rw [hcl]; exact hc)).2.1
        have h2 := isP_range (unhide HP) (at0_some (l := zs) (show c.1 < zs.length by omega))
        have h3 := isP_le (unhide HP)
        omega
      obtain ⟨A7, c7, rfl⟩ := hTI.slice
      obtain ⟨A8, c8, rfl⟩ := hF.intsS.slice
      have hok : patOK (topsOf zs l) = true := by rw [← hcl]; exact tops_ok (unhide HP)
      have H9 := hide (ipat_any A7 (topsOf zs l).length c7 _ _ true hok wr (hTI.arg (by omega) hTI.cap hsm))
      rw [patR_yes hok] at H9
      have HPS := hide hF.intsS
      have e1 : ¬ (n : Int) + 1 ≤ n := by omega
      clear hT hTI hsm hF hcl hll hok
      go_wp2_with fail
      refine (unhide H9).mono ?_
      rintro e w5 ⟨A5, c5, rfl, own5, hb5⟩
      have hWR5 := hWR.below hb5 hWR.lt
      have hbr5 := hbr.trans (hb5.mono hbr.size)
      have r0 := hWR5.cell 0
      have r1 := hWR5.cell 1
      have g0 := hWR5.frozen 0
      have g1 := hWR5.frozen 1
      have hltr := hWR5.lt
      simp only [List.getElem?_toArray, List.getElem?_cons_zero, List.getElem?_cons_succ] at r0 r1
      have HO := hide (And.intro own5 hb5)
      clear H9 own5 hb5
      go_wp2_with fail
      have hWe := (hWR5.put 0 (.slice A5 (patL (topsOf zs l)).length c5)).put 1 (.slice A8 (pcsOf zs l).length c8)
      refine bodyPost_ret (v := .agg #[.slice A5 (patL (topsOf zs l)).length c5, .slice A8 (pcsOf zs l).length c8]) (results_cell_row Try.results38 _ _ w.heap.size 25 _ (0, 0) _ rfl hWe Try.underlying25 rfl infInfo) rfl ?_
      rw [unhide HCL]
      obtain ⟨vs, ho, hin⟩ := unhide HPS
      have hIn : InfAt w5 (w.heap.size + 1) (.slice A5 (patL (topsOf zs l)).length c5) (.slice A8 (pcsOf zs l).length c8) (patL (topsOf zs l)) (pcsOf zs l) :=
        ⟨(unhide HO).1.low hWR.lt, ⟨vs, own_below ho (unhide HO).2, hin.keepI (KeepI.of_below (unhide HO).2), hin.away_new (unhide HO).1.since (Nat.le_refl _)⟩⟩
      exact inf_end hIn (Nat.lt_succ_self _) hbr5
end Go.Proofs.Ytffdnpgalpcigaa


/-
  impl.SplitPerm, by its contract.
-/

namespace Go.Proofs.Ytffdnpgalpcigaa
set_option maxRecDepth 100000
open Go.RowKit

set_option maxHeartbeats 1600000 in
theorem isplit_any (A : Option Addr) (n c B : Nat) (zs : List Int) (w : World) (h : Arg w B A n c zs) :
    Calls Try.prog 11 #[.slice A n c] w (GivesXB w (rootR zs) (pcsR zs) (splitOK zs)) := by
  have hl := h.len
  obtain ⟨b, hb⟩ : ∃ b, isP zs = b := ⟨_, rfl⟩
  have hbel := (Below.refl w.heap.size w).alloc (Nat.le_refl _) (.cells #[.slice none 0 0, .slice none 0 0] 25)
  have hW := Whole.new w 25 #[.slice none 0 0, .slice none 0 0]
  have H0 := hide (fun w' (hb' : Below w.heap.size w w') => iisperm_any A n c B zs b hb w' (h.below hb').reads (h.below hb').under h.le h.small)
  cases b with
  | false =>
    rw [rootR_no (splitOK_no1 hb), pcsR_no (splitOK_no1 hb), splitOK_no1 hb]
    clear hb h hl
    go_enter Try.func11, Try.ntmps11
    go_wp2_with fail
    refine (unhide H0 _ hbel).mono ?_
    rintro e w1 ⟨rfl, hd⟩
    have hW1 := hW.below hd (by simp)
    have hb1 := below_after hbel hd
    have r0 := hW1.cell 0
    have r1 := hW1.cell 1
    have g0 := hW1.frozen 0
    have g1 := hW1.frozen 1
    have hltr := hW1.lt
    simp only [List.getElem?_toArray, List.getElem?_cons_zero, List.getElem?_cons_succ] at r0 r1
    clear hd H0 hW hbel
    go_wp2_with fail
    have hWe := (hW1.put 0 (.slice none 0 0)).put 1 (.slice none 0 0)
    refine bodyPost_ret (v := .tuple #[.agg #[.slice none 0 0, .slice none 0 0], .bool false]) (results_row_tmp Try.results11 _ _ w.heap.size 25 _ (0, 0) _ rfl hWe Try.underlying25 rfl infInfo) rfl ?_
    exact infB_end false (inf_nil w1 (w.heap.size + 1)) (by omega) hb1
  | true =>
    by_cases h0 : n = 0
    · subst h0
      rw [rootR_no (splitOK_no2 hl), pcsR_no (splitOK_no2 hl), splitOK_no2 hl]
      clear hb h hl
      go_enter Try.func11, Try.ntmps11
      go_wp2_with fail
      refine (unhide H0 _ hbel).mono ?_
      rintro e w1 ⟨rfl, hd⟩
      have hW1 := hW.below hd (by simp)
      have hb1 := below_after hbel hd
      have r0 := hW1.cell 0
      have r1 := hW1.cell 1
      have g0 := hW1.frozen 0
      have g1 := hW1.frozen 1
      have hltr := hW1.lt
      simp only [List.getElem?_toArray, List.getElem?_cons_zero, List.getElem?_cons_succ] at r0 r1
      clear hd H0 hW hbel
      go_wp2_with fail
      have hWe := (hW1.put 0 (.slice none 0 0)).put 1 (.slice none 0 0)
      refine bodyPost_ret (v := .tuple #[.agg #[.slice none 0 0, .slice none 0 0], .bool false]) (results_row_tmp Try.results11 _ _ w.heap.size 25 _ (0, 0) _ rfl hWe Try.underlying25 rfl infInfo) rfl ?_
      exact infB_end false (inf_nil w1 (w.heap.size + 1)) (by omega) hb1
    · have hok := splitOK_yes hb (by omega)
      rw [rootR_yes hok, pcsR_yes hok, hok]
      have hn8 : n ≤ 8 := by have := isP_le hb; omega
      clear hok
      by_cases h1 : n = 1
      · subst h1
        have HQ : Hid (rootP zs = [1] ∧ pcsP zs = [[1]]) := hide ⟨by unfold rootP; rw [if_pos hl], by unfold pcsP; rw [if_pos hl]⟩
        clear hb h hl
        go_enter Try.func11, Try.ntmps11
        go_wp2_with fail
        refine (unhide H0 _ hbel).mono ?_
        rintro e w1 ⟨rfl, hd⟩
        have hW1 := hW.below hd (by simp)
        have hb1 := below_after hbel hd
        have hW3 := ((hW1.alloc (.cells #[.int .i64 1] 3)).alloc (.cells #[.int .i64 1] 3)).alloc (.cells #[.slice (some ⟨w1.heap.size + 1, 0, none⟩) 1 1] 22)
        have hIn := inf_one w1 (w.heap.size + 1) hW1.lt
        have hb3 := ((hb1.alloc hb1.size (.cells #[.int .i64 1] 3)).alloc (by have := hb1.size; simp; omega) (.cells #[.int .i64 1] 3)).alloc (by have := hb1.size; simp; omega) (.cells #[.slice (some ⟨w1.heap.size + 1, 0, none⟩) 1 1] 22)
        have r0 := hW3.cell 0
        have r1 := hW3.cell 1
        have g0 := hW3.frozen 0
        have g1 := hW3.frozen 1
        have hltr := hW1.lt
        have hltr3 := hW3.lt
        have HH := hide (And.intro hIn (And.intro hb3 hW3))
        simp only [List.getElem?_toArray, List.getElem?_cons_zero, List.getElem?_cons_succ] at r0 r1
        clear hd H0 hW hbel hIn hb3 hW3 hb1 hW1
        go_wp2_with fail
        have hWe := ((unhide HH).2.2.put 0 (.slice (some ⟨w1.heap.size, 0, none⟩) 1 1)).put 1 (.slice (some ⟨w1.heap.size + 1 + 1, 0, none⟩) 1 1)
        refine bodyPost_ret (v := .tuple #[.agg #[.slice (some ⟨w1.heap.size, 0, none⟩) 1 1, .slice (some ⟨w1.heap.size + 1 + 1, 0, none⟩) 1 1], .bool true]) (results_row_tmp Try.results11 _ _ w.heap.size 25 _ (0, 0) _ rfl hWe Try.underlying25 rfl infInfo) rfl ?_
        rw [(unhide HQ).1, (unhide HQ).2]
        exact infB_end true (unhide HH).1 (by omega) (unhide HH).2.1
      · have H1 := hide (fun w' (hb : Below w.heap.size w w') => iparts_any A n c B zs w' (h.below hb))
        have H2 := hide (fun w' (hb : Below w.heap.size w w') => iskews_any A n c B zs w' (h.below hb))
        by_cases h2 : 1 < (partsR zs).length
        · have HQ : Hid (rootP zs = sumRoot false ∧ pcsP zs = sumPcs false (partsR zs)) := hide ⟨by unfold rootP; rw [if_neg (by omega), if_pos h2], by unfold pcsP; rw [if_neg (by omega), if_pos h2]⟩
          clear hb h hl
          go_enter Try.func11, Try.ntmps11
          go_wp2_with fail
          refine (unhide H0 _ hbel).mono ?_
          rintro e w1 ⟨rfl, hd⟩
          have hW1 := hW.below hd (by simp)
          have hb1 := below_after hbel hd
          clear hd H0 hW hbel
          go_wp2_with fail
          refine (unhide H1 _ hb1).mono ?_
          rintro e w2 ⟨A2, c2, rfl, own2, hb2⟩
          have hW2 := hW1.below hb2 hW1.lt
          have hb3 := below_after hb1 hb2
          have hg2 : w.heap.size + 1 ≤ w2.heap.size := hW2.lt
          have hal := (Below.refl w2.heap.size w2).alloc (Nat.le_refl _) (.cells #[.int .i64 1, .int .i64 2] 3)
          have H3 := hide (isplitsum_any A2 (some ⟨w2.heap.size, 0, none⟩) (partsR zs).length c2 2 (w.heap.size + 1) false (partsR zs) (sumRoot false) w2 (w2.alloc (.cells #[.int .i64 1, .int .i64 2] 3)) (own2.low (by have := hW1.lt; omega)) hal (Ints.made2 w2 w2.heap.size 1 2 (Nat.le_refl _)) hg2
            (by have := (partsR_small zs).1; omega) h2 (fun z hz => ⟨by have := isP_le (partsR_isP hz); omega, isP_small (partsR_isP hz)⟩))
          obtain ⟨N2, hN2⟩ : ∃ N2, (partsR zs).length = N2 := ⟨_, rfl⟩
          have h2i : (1 : Int) < (N2 : Int) := by omega
          rw [hN2] at H3
          rw [hN2]
          have hb4 := below_after hb3 hal
          have hW3 := hW2.alloc (.cells #[.int .i64 1, .int .i64 2] 3)
          clear H1 H2 own2 hb2 hN2 hb1 hb3 hal hW1 hW2
          rw [show (sumRoot false).length = 2 from rfl] at H3
          go_wp2_with fail
          refine (unhide H3).mono ?_
          rintro e w3 ⟨A3, c3, A4, c4, rfl, hIn, hb5⟩
          have hW5 := hW3.below hb5 hW3.lt
          have hbw5 := hb4.trans (hb5.mono hb4.size)
          have hlt5 := hW5.lt
          have q0 := hW5.cell 0
          have q1 := hW5.cell 1
          have f0 := hW5.frozen 0
          have f1 := hW5.frozen 1
          simp only [List.getElem?_toArray, List.getElem?_cons_zero, List.getElem?_cons_succ] at q0 q1
          have HI := hide (And.intro hIn (And.intro hbw5 hW5))
          clear H3 hIn hb5 hb4 hbw5 hW3 hW5
          go_wp2_with fail
          have hWe := ((unhide HI).2.2.put 0 (.slice A3 (sumRoot false).length c3)).put 1 (.slice A4 (sumPcs false (partsR zs)).length c4)
          refine bodyPost_ret (v := .tuple #[.agg #[.slice A3 (sumRoot false).length c3, .slice A4 (sumPcs false (partsR zs)).length c4], .bool true]) (results_row_tmp Try.results11 _ _ w.heap.size 25 _ (0, 0) _ rfl hWe Try.underlying25 rfl infInfo) rfl ?_
          rw [(unhide HQ).1, (unhide HQ).2]
          exact infB_end true (unhide HI).1 (Nat.lt_succ_self _) (unhide HI).2.1
        · by_cases h3 : 1 < (skewsR zs).length
          · have HQ : Hid (rootP zs = sumRoot true ∧ pcsP zs = sumPcs true (skewsR zs)) := hide ⟨by unfold rootP; rw [if_neg (by omega), if_neg h2, if_pos h3], by unfold pcsP; rw [if_neg (by omega), if_neg h2, if_pos h3]⟩
            obtain ⟨N1, hN1⟩ : ∃ N1, (partsR zs).length = N1 := ⟨_, rfl⟩
            have hn1 : ¬ (1 : Int) < (N1 : Int) := by omega
            clear hb h hl
            go_enter Try.func11, Try.ntmps11
            go_wp2_with fail
            refine (unhide H0 _ hbel).mono ?_
            rintro e w1 ⟨rfl, hd⟩
            have hW1 := hW.below hd (by simp)
            have hb1 := below_after hbel hd
            clear hd H0 hW hbel
            go_wp2_with fail
            refine (unhide H1 _ hb1).mono ?_
            rintro e wp ⟨Ap, cp, rfl, ownp, hbp⟩
            have hW1 := hW1.below hbp hW1.lt
            have hb1 := below_after hb1 hbp
            rw [hN1]
            clear H1 ownp hbp hN1
            go_wp2_with fail
            refine (unhide H2 _ hb1).mono ?_
            rintro e w2 ⟨A2, c2, rfl, own2, hb2⟩
            have hW2 := hW1.below hb2 hW1.lt
            have hb3 := below_after hb1 hb2
            have hg2 : w.heap.size + 1 ≤ w2.heap.size := hW2.lt
            have hal := (Below.refl w2.heap.size w2).alloc (Nat.le_refl _) (.cells #[.int .i64 2, .int .i64 1] 3)
            have H3 := hide (isplitsum_any A2 (some ⟨w2.heap.size, 0, none⟩) (skewsR zs).length c2 2 (w.heap.size + 1) true (skewsR zs) (sumRoot true) w2 (w2.alloc (.cells #[.int .i64 2, .int .i64 1] 3)) (own2.low (by have := hW1.lt; omega)) hal (Ints.made2 w2 w2.heap.size 2 1 (Nat.le_refl _)) hg2
              (by have := (skewsR_small zs).1; omega) h3 (fun z hz => ⟨by have := isP_le (skewsR_isP hz); omega, isP_small (skewsR_isP hz)⟩))
            obtain ⟨N2, hN2⟩ : ∃ N2, (skewsR zs).length = N2 := ⟨_, rfl⟩
            have h2i : (1 : Int) < (N2 : Int) := by omega
            rw [hN2] at H3
            rw [hN2]
            have hb4 := below_after hb3 hal
            have hW3 := hW2.alloc (.cells #[.int .i64 2, .int .i64 1] 3)
            clear H2 own2 hb2 hN2 hb1 hb3 hal hW1 hW2
            rw [show (sumRoot true).length = 2 from rfl] at H3
            go_wp2_with fail
            refine (unhide H3).mono ?_
            rintro e w3 ⟨A3, c3, A4, c4, rfl, hIn, hb5⟩
            have hW5 := hW3.below hb5 hW3.lt
            have hbw5 := hb4.trans (hb5.mono hb4.size)
            have hlt5 := hW5.lt
            have q0 := hW5.cell 0
            have q1 := hW5.cell 1
            have f0 := hW5.frozen 0
            have f1 := hW5.frozen 1
            simp only [List.getElem?_toArray, List.getElem?_cons_zero, List.getElem?_cons_succ] at q0 q1
            have HI := hide (And.intro hIn (And.intro hbw5 hW5))
            clear H3 hIn hb5 hb4 hbw5 hW3 hW5
            go_wp2_with fail
            have hWe := ((unhide HI).2.2.put 0 (.slice A3 (sumRoot true).length c3)).put 1 (.slice A4 (sumPcs true (skewsR zs)).length c4)
            refine bodyPost_ret (v := .tuple #[.agg #[.slice A3 (sumRoot true).length c3, .slice A4 (sumPcs true (skewsR zs)).length c4], .bool true]) (results_row_tmp Try.results11 _ _ w.heap.size 25 _ (0, 0) _ rfl hWe Try.underlying25 rfl infInfo) rfl ?_
            rw [(unhide HQ).1, (unhide HQ).2]
            exact infB_end true (unhide HI).1 (Nat.lt_succ_self _) (unhide HI).2.1
          · have HQ : Hid (rootP zs = patL (topsOf zs (cuts zs 0)) ∧ pcsP zs = pcsOf zs (cuts zs 0)) := hide ⟨by unfold rootP; rw [if_neg (by omega), if_neg h2, if_neg h3], by unfold pcsP; rw [if_neg (by omega), if_neg h2, if_neg h3]⟩
            have H3 := hide (fun w' (hb' : Below w.heap.size w w') => isplitlong_any A n c B zs w' (h.below hb') hb (by omega))
            obtain ⟨N1, hN1⟩ : ∃ N1, (partsR zs).length = N1 := ⟨_, rfl⟩
            have hn1 : ¬ (1 : Int) < (N1 : Int) := by omega
            obtain ⟨N2, hN2⟩ : ∃ N2, (skewsR zs).length = N2 := ⟨_, rfl⟩
            have hn2 : ¬ (1 : Int) < (N2 : Int) := by omega
            clear hb h hl
            go_enter Try.func11, Try.ntmps11
            go_wp2_with fail
            refine (unhide H0 _ hbel).mono ?_
            rintro e w1 ⟨rfl, hd⟩
            have hW1 := hW.below hd (by simp)
            have hb1 := below_after hbel hd
            clear hd H0 hW hbel
            go_wp2_with fail
            refine (unhide H1 _ hb1).mono ?_
            rintro e wp ⟨Ap, cp, rfl, ownp, hbp⟩
            have hW1 := hW1.below hbp hW1.lt
            have hb1 := below_after hb1 hbp
            rw [hN1]
            clear H1 ownp hbp hN1
            go_wp2_with fail
            refine (unhide H2 _ hb1).mono ?_
            rintro e wq ⟨Aq, cq, rfl, ownq, hbq⟩
            have hW1 := hW1.below hbq hW1.lt
            have hb1 := below_after hb1 hbq
            rw [hN2]
            clear H2 ownq hbq hN2
            go_wp2_with fail
            refine (unhide H3 _ hb1).mono ?_
            rintro e w3 ⟨A3, c3, A4, c4, rfl, hIn, hb5⟩
            have hW5 := hW1.below hb5 hW1.lt
            have hbw5 := below_after hb1 hb5
            have hlt5 := hW5.lt
            have hIn := hIn.low (show w.heap.size + 1 ≤ wq.heap.size from hW1.lt)
            have q0 := hW5.cell 0
            have q1 := hW5.cell 1
            have f0 := hW5.frozen 0
            have f1 := hW5.frozen 1
            simp only [List.getElem?_toArray, List.getElem?_cons_zero, List.getElem?_cons_succ] at q0 q1
            have HI := hide (And.intro hIn (And.intro hbw5 hW5))
            clear H3 hIn hb5 hbw5 hW1 hW5 hb1
            go_wp2_with fail
            have hWe := ((unhide HI).2.2.put 0 (.slice A3 (patL (topsOf zs (cuts zs 0))).length c3)).put 1 (.slice A4 (pcsOf zs (cuts zs 0)).length c4)
            refine bodyPost_ret (v := .tuple #[.agg #[.slice A3 (patL (topsOf zs (cuts zs 0))).length c3, .slice A4 (pcsOf zs (cuts zs 0)).length c4], .bool true]) (results_row_tmp Try.results11 _ _ w.heap.size 25 _ (0, 0) _ rfl hWe Try.underlying25 rfl infInfo) rfl ?_
            rw [(unhide HQ).1, (unhide HQ).2]
            exact infB_end true (unhide HI).1 (Nat.lt_succ_self _) (unhide HI).2.1
end Go.Proofs.Ytffdnpgalpcigaa


/-
  WORDS: a tree of nodes behind pointers, that stands for a permutation: its blocks lie from lo on, before hi. Nothing here speaks of a function of the program.
-/

namespace Go.Proofs.Ytffdnpgalpcigaa
set_option maxRecDepth 100000
open Go.RowKit

/-- A node: its root, its children. -/
def NodeAt (w : World) (lo hi : Nat) (v : Value) (root : List Int) (cv : Value) : Prop :=
  ∃ g A c, v = .pointer (some ⟨g, 0, none⟩) ∧ lo ≤ g ∧ g < hi ∧ Whole w g 71 #[.slice A root.length c, cv] ∧ Ints w lo (.slice A root.length c) root ∧ Until hi (.slice A root.length c)
def Grown : Nat → World → Nat → Nat → Value → List Int → Prop
  | 0, w, lo, hi, v, zs => zs.length = 1 ∧ NodeAt w lo hi v (rootP zs) (.slice none 0 0)
  | m + 1, w, lo, hi, v, zs => (zs.length = 1 ∧ NodeAt w lo hi v (rootP zs) (.slice none 0 0)) ∨
    (zs.length ≠ 1 ∧ ∃ A c vs, NodeAt w lo hi v (rootP zs) (.slice A (pcsP zs).length c) ∧ w.ownsRow lo 49 1 (.slice A (pcsP zs).length c) (pcsP zs).length vs ∧ Until hi (.slice A (pcsP zs).length c) ∧
      ∀ (i : Nat) (x : Value) (z : List Int), vs[i]? = some x → (pcsP zs)[i]? = some z → Grown m w lo hi x z)
/-- The blocks from lo on, before hi, have not turned. -/
def Same (w w' : World) (lo hi : Nat) : Prop := ∀ k, lo ≤ k → k < hi → w'.heap[k]? = w.heap[k]?
theorem Same.of_below {w w' : World} {B lo hi : Nat} (h : Below B w w') (hB : hi ≤ B) : Same w w' lo hi := fun k _ hk => h.block k (by omega)
theorem Same.trans {a b c : World} {lo hi : Nat} (h : Same a b lo hi) (k : Same b c lo hi) : Same a c lo hi := fun j h1 h2 => (k j h1 h2).trans (h j h1 h2)
theorem own_same {w w' : World} {lo hi n : Nat} {e : TypeId} {v : Value} {xs : List Value} (h : w.ownsRow lo e 1 v n xs) (hu : Until hi v) (hs : Same w w' lo hi) : w'.ownsRow lo e 1 v n xs := by
  refine ⟨h.1, ?_⟩
  rcases h.2 with hn | ⟨g, cap, cur, rfl, hb, hgg, hr⟩
  · exact .inl hn
  · exact .inr ⟨g, cap, cur, rfl, hb, (hs g hb (hu g rfl)).trans hgg, hr⟩
theorem ints_same {w w' : World} {lo hi : Nat} {v : Value} {zs : List Int} (h : Ints w lo v zs) (hu : Until hi v) (hs : Same w w' lo hi) : Ints w' lo v zs := by
  refine ⟨h.1, ?_⟩
  rcases h.2 with hn | ⟨g, cap, cur, e, rfl, hb, hgg, hr⟩
  · exact .inl hn
  · exact .inr ⟨g, cap, cur, e, rfl, hb, (hs g hb (hu g rfl)).trans hgg, hr⟩
theorem NodeAt.same {w w' : World} {lo hi : Nat} {v cv : Value} {root : List Int} (h : NodeAt w lo hi v root cv) (hs : Same w w' lo hi) : NodeAt w' lo hi v root cv := by
  obtain ⟨g, A, c, h1, h2, h3, h4, h5, h6⟩ := h
  exact ⟨g, A, c, h1, h2, h3, (hs g h2 h3).trans h4, ints_same h5 h6 hs, h6⟩
theorem NodeAt.wide {w : World} {lo hi lo' hi' : Nat} {v cv : Value} {root : List Int} (h : NodeAt w lo hi v root cv) (hl : lo' ≤ lo) (hh : hi ≤ hi') : NodeAt w lo' hi' v root cv := by
  obtain ⟨g, A, c, h1, h2, h3, h4, h5, h6⟩ := h
  exact ⟨g, A, c, h1, by omega, by omega, h4, h5.low hl, h6.mono hh⟩
theorem own_low {w : World} {B B' n : Nat} {e : TypeId} {v : Value} {xs : List Value} (h : w.ownsRow B e 1 v n xs) (hB : B' ≤ B) : w.ownsRow B' e 1 v n xs := by
  refine ⟨h.1, ?_⟩
  rcases h.2 with hn | ⟨g, cap, cur, rfl, hb, hr⟩
  · exact .inl hn
  · exact .inr ⟨g, cap, cur, rfl, by omega, hr⟩
theorem Grown.same {w w' : World} {lo hi : Nat} (hs : Same w w' lo hi) : ∀ (m : Nat) (v : Value) (zs : List Int), Grown m w lo hi v zs → Grown m w' lo hi v zs
  | 0, v, zs, h => ⟨h.1, h.2.same hs⟩
  | m + 1, v, zs, h => by
    rcases h with ⟨h1, h2⟩ | ⟨h1, A, c, vs, h2, h3, h4, h5⟩
    · exact .inl ⟨h1, h2.same hs⟩
    · exact .inr ⟨h1, A, c, vs, h2.same hs, own_same h3 h4 hs, h4, fun i x z hx hz => Grown.same hs m x z (h5 i x z hx hz)⟩
theorem Grown.wide {w : World} {lo hi lo' hi' : Nat} (hl : lo' ≤ lo) (hh : hi ≤ hi') : ∀ (m : Nat) (v : Value) (zs : List Int), Grown m w lo hi v zs → Grown m w lo' hi' v zs
  | 0, v, zs, h => ⟨h.1, h.2.wide hl hh⟩
  | m + 1, v, zs, h => by
    rcases h with ⟨h1, h2⟩ | ⟨h1, A, c, vs, h2, h3, h4, h5⟩
    · exact .inl ⟨h1, h2.wide hl hh⟩
    · exact .inr ⟨h1, A, c, vs, h2.wide hl hh, own_low h3 hl, h4.mono hh, fun i x z hx hz => Grown.wide hl hh m x z (h5 i x z hx hz)⟩
theorem Grown.below {w w' : World} {m lo hi : Nat} {v : Value} {zs : List Int} (h : Grown m w lo hi v zs) (hb : Below w.heap.size w w') (hh : hi ≤ w.heap.size) : Grown m w' lo hi v zs := Grown.same (Same.of_below hb hh) m v zs h
theorem Grown.ptr {m : Nat} {w : World} {lo hi : Nat} {v : Value} {zs : List Int} (h : Grown m w lo hi v zs) : ∃ g, v = .pointer (some ⟨g, 0, none⟩) := by
  cases m with
  | zero => obtain ⟨_, g, A, c, h1, _⟩ := h; exact ⟨g, h1⟩
  | succ m => rcases h with ⟨_, g, A, c, h1, _⟩ | ⟨_, _, _, _, ⟨g, A, c, h1, _⟩, _⟩ <;> exact ⟨g, h1⟩

/-- The children of a node of block g so far: the row of pointers and the trees lie apart from each other, behind g. -/
def Kids (w : World) (g m k : Nat) (cv : Value) (R : List (List Int)) : Prop :=
  ∃ vs, w.ownsRow (g + 1) 49 1 cv k vs ∧ ∀ (i : Nat) (x : Value) (z : List Int), vs[i]? = some x → R[i]? = some z → ∃ lo hi, g + 1 ≤ lo ∧ hi ≤ w.heap.size ∧ (∀ b, cv.ownBlock = some b → b < lo ∨ hi ≤ b) ∧ Grown m w lo hi x z
theorem Kids.nil (w : World) (g m : Nat) (R : List (List Int)) : Kids w g m 0 (.slice none 0 0) R := ⟨[], ⟨rfl, .inl ⟨rfl, rfl⟩⟩, fun i x z hx => by simp at hx⟩
theorem Kids.aside {w : World} {g m k : Nat} {cv : Value} {R : List (List Int)} (h : Kids w g m k cv R) (i : Nat) (u : Value) : Kids (w.setCell ⟨g, i, none⟩ u) g m k cv R := by
  obtain ⟨vs, h1, h2⟩ := h
  refine ⟨vs, own_aside h1 (Nat.lt_succ_self _) u, fun i x z hx hz => ?_⟩
  obtain ⟨lo, hi, a1, a2, a3, a4⟩ := h2 i x z hx hz
  exact ⟨lo, hi, a1, by simpa using a2, a3, Grown.same (fun k hk _ => Below.heap_setCell w _ u k (by simp; omega)) m x z a4⟩
theorem Kids.shape {w : World} {g m k : Nat} {cv : Value} {R : List (List Int)} (h : Kids w g m k cv R) : ∃ A c, cv = .slice A k c := by
  obtain ⟨vs, h1, _⟩ := h
  obtain ⟨A, c, h2, _⟩ := Reads.of_own h1
  exact ⟨A, c, h2⟩
theorem ptrInfo : (Try.prog.info? 49).map (fun i => (i.zero, i.size, i.bytes)) = some (some (.pointer none), 1, 8) := by kernel_rfl
/-- 'x.children = append(x.children, child)': the child's tree was made since world w0. -/
theorem Kids.grow {w0 wr w' : World} {g m k : Nat} {cv cv' x : Value} {R : List (List Int)} {z : List Int} {vs : List Value} (hb0 : Below w0.heap.size w0 wr) (hg : g + 1 ≤ w0.heap.size)
    (hown : w0.ownsRow (g + 1) 49 1 cv k vs) (hkids : ∀ (i : Nat) (x : Value) (z : List Int), vs[i]? = some x → R[i]? = some z → ∃ lo hi, g + 1 ≤ lo ∧ hi ≤ w0.heap.size ∧ (∀ b, cv.ownBlock = some b → b < lo ∨ hi ≤ b) ∧ Grown m w0 lo hi x z)
    (hx : Grown m wr w0.heap.size wr.heap.size x z) (hz : R[k]? = some z) (o : Obj)
    (hown' : w'.ownsRow (g + 1) 49 1 cv' (k + 1) (vs ++ [x])) (hgr : (wr.alloc o).grownBy w' cv.ownBlock) (hcv : cv'.ownBlock = cv.ownBlock ∨ cv'.ownBlock = some (wr.alloc o).heap.size) :
    Kids w' g m (k + 1) cv' R := by
  have hsz := hb0.size
  have hvl : vs.length = k := by simpa using hown.1
  have hsw := hgr.size
  simp only [World.size_alloc] at hsw hcv
  have hst : ∀ lo hi, hi ≤ wr.heap.size → (∀ b, cv.ownBlock = some b → b < lo ∨ hi ≤ b) → Same wr w' lo hi := fun lo hi hh hoff j h1 h2 => by
    refine (hgr.block j (by simp; omega) fun e => ?_).trans (Below.heap_alloc wr o j (by omega))
    have := hoff j e.symm
    omega
  have hoff' : ∀ lo hi, hi ≤ wr.heap.size → (∀ b, cv.ownBlock = some b → b < lo ∨ hi ≤ b) → ∀ b, cv'.ownBlock = some b → b < lo ∨ hi ≤ b := fun lo hi hh hoff b hb => by
    rcases hcv with h | h
    · exact hoff b (h.symm.trans hb)
    · rw [h] at hb; injection hb with hb; omega
  refine ⟨vs ++ [x], hown', fun i y u hy hu => ?_⟩
  by_cases hi : i < k
  · rw [List.getElem?_append_left (by omega)] at hy
    obtain ⟨lo, hh, a1, a2, a3, a4⟩ := hkids i y u hy hu
    exact ⟨lo, hh, a1, by omega, hoff' lo hh (by omega) a3, Grown.same (hst lo hh (by omega) a3) m y u (a4.below hb0 a2)⟩
  · have hik : i = k := by
      have := (List.getElem?_eq_some_iff.1 hy).1
      rw [List.length_append, hvl, List.length_singleton] at this
      omega
    subst hik
    rw [List.getElem?_append_right (by omega), hvl, Nat.sub_self] at hy
    injection hy with hy
    subst hy
    rw [hz] at hu
    injection hu with hu
    subst hu
    have hoff : ∀ b, cv.ownBlock = some b → b < w0.heap.size ∨ wr.heap.size ≤ b := fun b hb => .inl (hown.lt b hb).2
    exact ⟨w0.heap.size, wr.heap.size, hg, by omega, hoff' _ _ (Nat.le_refl _) hoff, Grown.same (hst _ _ (Nat.le_refl _) hoff) m x z hx⟩
end Go.Proofs.Ytffdnpgalpcigaa


/-
  impl.growTree, by its contract.
-/

namespace Go.Proofs.Ytffdnpgalpcigaa
set_option maxRecDepth 100000
open Go.RowKit

set_option maxHeartbeats 1600000 in
theorem grow_no (A : Option Addr) (n c B : Nat) (zs : List Int) (w : World) (h : Arg w B A n c zs) (hs : splitOK zs = false) :
    Calls Try.prog 49 #[.slice A n c] w (fun e w' => e = .returned (.tuple #[.pointer none, .bool false]) ∧ Below w.heap.size w w') := by
  have H0 := hide (isplit_any A n c B zs w h)
  rw [hs] at H0
  clear h hs
  go_enter Try.func49, Try.ntmps49
  go_wp2_with fail
  refine (unhide H0).mono ?_
  rintro e w2 ⟨A3, c3, A4, c4, rfl, hIn, hb2⟩
  have hb3 := below_after hb2 ((Below.refl _ w2).alloc (Nat.le_refl _) (.cells #[.slice A3 (rootR zs).length c3, .slice A4 (pcsR zs).length c4] 25))
  clear H0 hIn hb2
  go_wp2
  go_ret2
  exact ⟨rfl, hb3⟩
def GrowsTo (m : Nat) (zs : List Int) (w : World) (e : Ending) (w' : World) : Prop :=
  ∃ v, e = .returned (.tuple #[v, .bool true]) ∧ Grown m w' w.heap.size w'.heap.size v zs ∧ Below w.heap.size w w'
set_option maxHeartbeats 1600000 in
theorem grow_one (m : Nat) (A : Option Addr) (c B : Nat) (zs : List Int) (w : World) (h : Arg w B A 1 c zs) (hs : splitOK zs = true) :
    Calls Try.prog 49 #[.slice A 1 c] w (GrowsTo m zs w) := by
  have H0 := hide (isplit_any A 1 c B zs w h)
  have hl := h.len
  rw [hs, rootR_yes hs] at H0
  have HL := hide hl
  obtain ⟨R, hR⟩ : ∃ R, pcsR zs = R := ⟨_, rfl⟩
  rw [hR] at H0
  clear h hs hl hR
  go_enter Try.func49, Try.ntmps49
  go_wp2_with fail
  refine (unhide H0).mono ?_
  rintro e w2 ⟨A3, c3, A4, c4, rfl, hIn, hb2⟩
  have hal := ((Below.refl _ w2).alloc (Nat.le_refl _) (.cells #[.slice A3 (rootP zs).length c3, .slice A4 R.length c4] 25))
  have hal2 := hal.alloc (by simp) (.cells #[.slice A3 (rootP zs).length c3, .slice none 0 0] 71)
  have hb3 := below_after hb2 hal2
  have hrow := hIn.row.below hal2
  have hun := hIn.row.until_
  have hW := Whole.new (w2.alloc (.cells #[.slice A3 (rootP zs).length c3, .slice A4 R.length c4] 25)) 71 #[.slice A3 (rootP zs).length c3, .slice none 0 0]
  have hsz := hb2.size
  clear H0 hIn hb2 hal hal2
  go_wp2
  go_ret2
  have hN : NodeAt ((w2.alloc (.cells #[.slice A3 (rootP zs).length c3, .slice A4 R.length c4] 25)).alloc (.cells #[.slice A3 (rootP zs).length c3, .slice none 0 0] 71))
    w.heap.size (w2.heap.size + 1 + 1) (.pointer (some ⟨w2.heap.size + 1, 0, none⟩)) (rootP zs) (.slice none 0 0) :=
    ⟨w2.heap.size + 1, A3, c3, rfl, by omega, by omega, by simpa using hW, hrow, hun.mono (by omega)⟩
  refine ⟨_, rfl, ?_, hb3⟩
  simp only [World.size_alloc]
  cases m with
  | zero => exact ⟨unhide HL, hN⟩
  | succ m => exact .inl ⟨unhide HL, hN⟩

set_option maxHeartbeats 1600000 in
theorem grow_any : ∀ (m : Nat) (A : Option Addr) (n c B : Nat) (zs : List Int) (w : World) (_ : Arg w B A n c zs) (_ : splitOK zs = true) (_ : n ≤ m + 1) (_ : m ≤ 1000),
    Calls Try.prog 49 #[.slice A n c] w (GrowsTo m zs w) := by
  intro m
  induction m with
  | zero =>
    intro A n c B zs w h hs hn hm
    obtain rfl : n = 1 := by have := (splitOK_all hs).2; have := h.len; omega
    exact grow_one 0 A c B zs w h hs
  | succ m ih =>
    intro A n c B zs w h hs hn hm
    by_cases h1 : n = 1
    · subst h1; exact grow_one _ A c B zs w h hs
    · have hl := h.len
      have hp := (splitOK_all hs).1
      have H0 := hide (isplit_any A n c B zs w h)
      rw [pcsR_yes hs, rootR_yes hs, hs] at H0
      have HP := hide (fun z hz => pcsP_at hp z hz)
      have h2n : (1 : Int) < (n : Int) := by have := (splitOK_all hs).2; omega
      have hpc := pcsP_len hp
      have hg : ∀ w', ∀ lo hi v A c vs, NodeAt w' lo hi v (rootP zs) (.slice A (pcsP zs).length c) → w'.ownsRow lo 49 1 (.slice A (pcsP zs).length c) (pcsP zs).length vs → Until hi (.slice A (pcsP zs).length c) →
        (∀ (i : Nat) (x : Value) (z : List Int), vs[i]? = some x → (pcsP zs)[i]? = some z → Grown m w' lo hi x z) → Grown (m + 1) w' lo hi v zs := fun w' lo hi v A c vs a1 a2 a3 a4 => .inr ⟨by omega, A, c, vs, a1, a2, a3, a4⟩
      have HG := hide hg
      obtain ⟨R, hR⟩ : ∃ R, pcsP zs = R := ⟨_, rfl⟩
      rw [hR] at H0 HP hpc HG
      have HL := hide hl
      have h1i : ((n : Int) == 1) = false := by simp; omega
      clear hR hs hp h hl hg
      go_enter Try.func49, Try.ntmps49
      go_wp2_with fail
      refine (unhide H0).mono ?_
      rintro e w2 ⟨A3, c3, A4, c4, rfl, hIn, hb2⟩
      have hal := ((Below.refl _ w2).alloc (Nat.le_refl _) (.cells #[.slice A3 (rootP zs).length c3, .slice A4 R.length c4] 25))
      obtain ⟨w3, hw3⟩ : ∃ w3, w2.alloc (.cells #[.slice A3 (rootP zs).length c3, .slice A4 R.length c4] 25) = w3 := ⟨_, rfl⟩
      have hlt3 : w2.heap.size < w3.heap.size := by rw [← hw3]; simp
      have hWs : Whole w3 w2.heap.size 25 #[.slice A3 (rootP zs).length c3, .slice A4 R.length c4] := by rw [← hw3]; exact Whole.new w2 _ _
      have s0 := hWs.cell 0
      have s1 := hWs.cell 1
      simp only [List.getElem?_toArray, List.getElem?_cons_zero, List.getElem?_cons_succ] at s0 s1
      rw [hw3] at hal
      have hb3 := below_after hb2 hal
      have hrow := hIn.row.below hal
      have hpcs := hIn.pcs.intsS.below hal
      have hun := hIn.row.until_
      clear H0 hIn hb2 hal
      have hWn := Whole.new w3 71 #[.slice A3 (rootP zs).length c3, .slice none 0 0]
      have hb4 := (Below.refl _ w3).alloc (Nat.le_refl _) (.cells #[.slice A3 (rootP zs).length c3, .slice none 0 0] 71)
      go_wp2
      clear s0 s1 hWs hlt3 hw3
      go_loopw [8, 9, 10, 29] (fun _ _ _ i wr => ∃ (k : Nat) (cv : Value), k ≤ R.length ∧ i = .int .i64 k ∧ Below w3.heap.size w3 wr ∧ Whole wr w3.heap.size 71 #[.slice A3 (rootP zs).length c3, cv] ∧ Kids wr w3.heap.size m k cv R) (fun _ _ _ i _ => R.length - (intOf i).toNat)
      case atStart => exact ⟨0, .slice none 0 0, Nat.zero_le _, rfl, hb4, hWn, Kids.nil _ _ _ _⟩
      case round =>
        obtain ⟨k, cv, hk, rfl, hbr, hWr, hKr⟩ := hrel
        clear hb4 hWn
        by_cases hlt : k < R.length
        · obtain ⟨ad, A1, c1, z, rfl, hz, hcell, hIz⟩ := (hpcs.below hbr).at_ hlt
          have hzp := unhide HP z (List.mem_of_getElem? hz)
          have hz1 : z.length ≤ m + 1 := by have := hzp.2.2.2 (by rw [unhide HL]; omega); rw [unhide HL] at this; omega
          have HI := hide (ih A1 z.length c1 _ z wr (hIz.argP hzp.1) (splitOK_yes hzp.1 hzp.2.1) hz1 (by omega))
          have HZ := hide hz
          clear hz hIz hzp hz1
          go_wp2_with fail
          refine (unhide HI).mono ?_
          rintro e w4 ⟨v, rfl, hG, hb4⟩
          obtain ⟨gv, rfl⟩ := hG.ptr
          obtain ⟨Ak, ck, rfl⟩ := hKr.shape
          have hW4 := hWr.below hb4 hWr.lt
          have hlt4 := hW4.lt
          have q1 := hW4.cell 1
          have f1 := hW4.frozen 1
          simp only [List.getElem?_toArray, List.getElem?_cons_zero, List.getElem?_cons_succ] at q1
          have hltr := hWr.lt
          obtain ⟨i0, hi, hz0, hz1, hz2⟩ := info_parts ptrInfo
          obtain ⟨vs, hown, hkids⟩ := hKr
          have hown4 := (own_below hown hb4).alloc (.cells #[.pointer (some ⟨gv, 0, none⟩)] 49)
          have hkc : k ≤ 8 := by omega
          have HH := hide (And.intro hG (And.intro hb4 (And.intro hW4 (And.intro (And.intro hown hkids) (And.intro hWr hbr)))))
          clear HI hG hb4 hW4 hown hkids hWr hbr hcell
          go_wp2_with (first
            | (at_builtin; refine wpList_append_own_at _ rfl (.tmp 42) (.tmp 44) 69 rfl (w3.heap.size + 1) 49 i0 (.pointer none) 1 8 Try.underlying69 hi hz0 hz1 hz2 rfl (by decide) _ k vs rfl hown4 ⟨w4.heap.size, 0, none⟩ 1 1 [.pointer (some ⟨gv, 0, none⟩)] rfl rfl (cell_one_new _ _ _) ?_ ?_ ?_ ?_ ?_))
          · intro y hy
            obtain rfl := List.mem_singleton.1 hy
            rfl
          · unfold maxLen; omega
          · omega
          · simp; omega
          · intro v5 w5 own5 gr5 _ hcv5
            obtain ⟨hG, hb4, hW4, ⟨hown, hkids⟩, hWr, hbr⟩ := unhide HH
            have hK5 := Kids.grow hb4 hWr.lt hown hkids hG (unhide HZ) _ own5 gr5 (by rw [World.size_alloc]; exact hcv5)
            obtain ⟨A5, c5, rfl⟩ := hK5.shape
            have hge := fun (b : Nat) (hb : (Value.slice Ak k ck).ownBlock = some b) => (hown.lt b hb).1
            have hW5 := (hW4.alloc (.cells #[.pointer (some ⟨gv, 0, none⟩)] 49)).grown gr5 (fun e => by have := hge _ e.symm; omega)
            have hb5 := ((hbr.trans (hb4.mono hbr.size)).alloc (by omega) (.cells #[.pointer (some ⟨gv, 0, none⟩)] 49)).grown gr5 (by simp; omega) (fun b hb => by have := hge b hb; omega)
            have q5 := hW5.cell 1
            have f5 := hW5.frozen 1
            have hlt5 := hW5.lt
            simp only [List.getElem?_toArray, List.getElem?_cons_zero, List.getElem?_cons_succ] at q5
            have hW6 := hW5.put 1 (.slice A5 (k + 1) c5)
            have hK6 := hK5.aside 1 (.slice A5 (k + 1) c5)
            have hb6 := hb5.setCell (p := ⟨w3.heap.size, 1, none⟩) (Nat.le_refl _) (.slice A5 (k + 1) c5)
            have HF := hide (And.intro hb6 (And.intro hW6 hK6))
            clear hG hb4 hW4 hown hkids hWr hbr hK5 hW5 hb5 hK6 hW6 hb6 own5 gr5 hcv5 hown4 HH q1 f1 hlt4
            go_wp2
            go_roundw
            case rel =>
              exact ⟨k + 1, .slice A5 (k + 1) c5, by omega, by go_num, (unhide HF).1, (unhide HF).2.1, (unhide HF).2.2⟩
            case measure => simp [intOf]; omega
        · obtain rfl : R.length = k := by omega
          obtain ⟨Ak, ck, rfl⟩ := hKr.shape
          have hlt3 := hWr.lt
          have hrr := hrow.below hbr
          have hbw := below_after hb3 hbr
          obtain ⟨vs, hown, hkids⟩ := hKr
          have hsz3 := hb3.size
          have hsz := hbw.size
          have hfin : Grown (m + 1) wr w.heap.size wr.heap.size (.pointer (some ⟨w3.heap.size, 0, none⟩)) zs := by
            refine unhide HG wr _ _ _ Ak ck vs ⟨w3.heap.size, A3, c3, rfl, hsz3, hlt3, hWr, hrr, hrr.until_⟩ (own_low hown (by omega)) (fun b hb => (hown.lt b hb).2) (fun i x z hx hz => ?_)
            obtain ⟨lo, hi, a1, a2, _, a4⟩ := hkids i x z hx hz
            exact a4.wide (by omega) a2
          clear hown hkids hWr
          go_wp2
          go_ret2
          exact ⟨_, rfl, hfin, hbw⟩
end Go.Proofs.Ytffdnpgalpcigaa
