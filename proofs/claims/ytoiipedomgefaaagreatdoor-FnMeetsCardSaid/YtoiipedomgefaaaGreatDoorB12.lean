/-
  Words and contracts that the laws lean on, bundled: PSet, PatsI, LowI, PSetI, SiftM, ClaC, ClaE, MeetK, LaidE.
-/
import Derived.Maps.OwnSet
import Derived.Maps.Views
import Derived.Test.YtoiipedomgefaaaGreatDoorB6
import Derived.Test.YtoiipedomgefaaaGreatDoorB11
import Derived.Test.YtoiipedomgefaaaGreatDoorB2
import Derived.Deep.RegionHeld3
import Derived.Test.YtoiipedomgefaaaGreatDoorB9
import Derived.Test.YtoiipedomgefaaaGreatDoorB3
import Derived.Test.YtoiipedomgefaaaGreatDoorB5
import Derived.Test.YtoiipedomgefaaaGreatDoorB10
import Derived.Test.YtoiipedomgefaaaGreatDoorCards
import Derived.Test.YtoiipedomgefaaaGreatDoorTie
import Derived.Deep.DeepHandedRow
import Derived.Deep.DeepWitnessRowRef
import Derived.Stop.LaidErr

/-
  Maps whose keys are the texts of permutations: what such a map holds, a look-up, a store.
-/

namespace Go.Proofs.YtoiipedomgefaaaGreatDoor
set_option maxRecDepth 100000
open Go.RowKit Go.Maps

theorem strLawT : Keyed Tryz.prog 9 := string_keyed Tryz.underlying9
theorem boolZeroT (w : World) : (zeroValue 4).run Tryz.prog w = .ok (.bool false) w := by kernel_rfl
theorem ptext_max (p : List Int) : (ptext p).size ≤ maxLen := by have := ptext_size p; unfold maxLen; omega
theorem keyT (p : List Int) : keyOf Tryz.prog 9 (.string (ptext p)) = some (.string (ptext p).data.toList) := WideMaps.keyOf_string_mk Tryz.underlying9 (ptext_max p)
theorem keyT_inj {p q : List Int} (hp : isP p = true) (hq : isP q = true) (h : Lit.string (ptext p).data.toList = Lit.string (ptext q).data.toList) : p = q := by
  refine ptext_inj hp hq ?_
  injection h with h
  have h1 : (ptext p).data = (ptext q).data := Array.toList_inj.1 h
  cases h2 : ptext p; cases h3 : ptext q
  rw [h2, h3] at h1
  simp only at h1
  rw [h1]
/-- Block b is a map of at most m entries; of the permutations it has the texts of just those in S. -/
def PSet (w : World) (b m : Nat) (S : List (List Int)) : Prop :=
  ∃ D : DataW Unit, w.ownsMap Tryz.prog 9 (plainElem Tryz.prog 4) b m D ∧
    ∀ p, isP p = true → D.atKey (.string (ptext p).data.toList) (.lit (.bool false)) = .lit (.bool (decide (p ∈ S)))
section
variable {w w' : World} {b m : Nat} {S R : List (List Int)}
theorem PSet.lt (h : PSet w b m S) : b < w.heap.size := by
  obtain ⟨D, h, _⟩ := h
  exact h.lt
theorem PSet.kept {row : Option Nat} (h : PSet w b m S) (hg : w.grownBy w' row) (hne : some b ≠ row) : PSet w' b m S := by
  obtain ⟨D, h1, h2⟩ := h
  exact ⟨D, h1.kept hg hne, h2⟩
theorem PSet.later (h : PSet w b m S) (hb : Below w.heap.size w w') : PSet w' b m S := h.kept (grown_of_below hb none) (by simp)
theorem PSet.drew (h : PSet w b m S) : PSet w.drew b m S := h
theorem PSet.alloc (h : PSet w b m S) (o : Obj) : PSet (w.alloc o) b m S := h.kept (World.grownBy_alloc w o none) (by simp)
theorem PSet.mem (h : PSet w b m S) (hS : ∀ p, isP p = true → (p ∈ S ↔ p ∈ R)) : PSet w b m R := by
  obtain ⟨D, h1, h2⟩ := h
  refine ⟨D, h1, fun p hp => ?_⟩
  rw [h2 p hp]
  have : decide (p ∈ S) = decide (p ∈ R) := by rw [decide_eq_decide]; exact hS p hp
  rw [this]
theorem PSet.mono (h : PSet w b m S) {m' : Nat} (hm : m ≤ m') : PSet w b m' S := by
  obtain ⟨D, h1, h2⟩ := h
  exact ⟨D, h1.mono hm, h2⟩
theorem PSet.new (w : World) : PSet (w.alloc (.map #[] 0)) w.heap.size 0 [] := by
  refine ⟨.map [], World.ownsMap_made w _ _ _, fun p _ => ?_⟩
  rw [atKey_of_not_has (by rfl)]
  simp
theorem bool_invT {v : Value} {c : Bool} {ps : List MemPlace} (h : plainElem (H := Unit) Tryz.prog 4 v = some (.lit (.bool c), ps)) : v = .bool c := by
  unfold plainElem at h
  rw [Tryz.underlying4] at h
  cases v <;> simp at h
  rw [h.1]
theorem PSet.lookup (h : PSet w b m S) {p : List Int} (hp : isP p = true) :
    (Instr.lookup 85 (.map (some b)) (.string (ptext p)) false).run Tryz.prog w = .ok (.bool (decide (p ∈ S))) w := by
  obtain ⟨D, h1, h2⟩ := h
  obtain ⟨v, ps, hrun, hv⟩ := h1.lookup strLawT Tryz.underlying85 (boolZeroT w) (plainElem_bool Tryz.underlying4 false) (keyT p)
  rw [h2 p hp] at hv
  rw [hrun, bool_invT hv]
theorem PSet.store (h : PSet w b m S) (hm : m < maxLen) {p : List Int} (hp : isP p = true) :
    ∃ w', (Instr.mapUpdate 85 (.map (some b)) (.string (ptext p)) (.bool true)).run Tryz.prog w = .ok () w' ∧ PSet w' b (m + 1) (S ++ [p]) ∧ w.grownBy w' (some b) := by
  obtain ⟨D, h1, h2⟩ := h
  obtain ⟨w', hrun, ho, hg⟩ := h1.update strLawT Tryz.underlying85 hm (keyT p) (plainElem_bool Tryz.underlying4 true)
  refine ⟨w', hrun, ⟨_, ho, fun q hq => ?_⟩, hg⟩
  by_cases e : q = p
  · subst e
    rw [atKey_put_same h1.isMap (strLawT.key (keyT q))]
    simp
  · rw [atKey_put_other (fun h3 => e (keyT_inj hq hp h3)), h2 q hq]
    have : decide (q ∈ S) = decide (q ∈ S ++ [p]) := by
      rw [decide_eq_decide, List.mem_append, List.mem_singleton]
      exact ⟨.inl, fun h => h.elim id (fun h => absurd h e)⟩
    rw [this]
/-- The map alone has turned: lists are as they were. -/
theorem PSet.keepI (h : PSet w b m S) (hg : w.grownBy w' (some b)) : KeepI w w' :=
  ⟨hg.os, hg.tape, hg.output, hg.size, fun i cur e fr hi _ => hg.block i (Array.getElem?_eq_some_iff.1 hi).1 (fun e2 => by
    obtain ⟨D, ⟨es, clock, hb, _⟩, _⟩ := h
    injection e2 with e2
    subst e2
    rw [hi] at hb
    cases hb)⟩
theorem PSet.own (h : PSet w b m S) (hg : w.grownBy w' (some b)) {B n : Nat} {e : TypeId} {v : Value} {xs : List Value} (ho : w.ownsRow B e 1 v n xs) : w'.ownsRow B e 1 v n xs := by
  refine ho.kept hg ?_
  rcases ho.2 with ⟨rfl, _⟩ | ⟨g, cap, cur, rfl, _, hgg, _⟩
  · exact .inl rfl
  · refine .inr fun e2 => ?_
    obtain ⟨D, ⟨es, clock, hb, _⟩, _⟩ := h
    simp [Value.ownBlock] at e2
    subst e2
    rw [hgg] at hb
    cases hb
theorem PSet.rows (h : PSet w b m S) (hg : w.grownBy w' (some b)) {B : Nat} {v : Value} {zss : List (List Int)} (ho : IntsS w B v zss) : IntsS w' B v zss := by
  obtain ⟨vs, h1, h2⟩ := ho
  exact ⟨vs, h.own hg h1, h2.keepI (h.keepI hg)⟩
end
end Go.Proofs.YtoiipedomgefaaaGreatDoor


/-
  impl.PatternsIn: the patterns of all choices, in order.
-/

namespace Go.Proofs.YtoiipedomgefaaaGreatDoor
set_option maxRecDepth 100000
open Go.RowKit Go.Shelf
attribute [local go_sem] Oper.semAt_some

/-- 'list = append(list, row)' as a step of a region inside a fence: row was made since world w0. -/
theorem opIn_push_row {F : Fence} {nF : Nat} {o : Oper} {a : Act} {W : World} {K : Act → World → Prop} {Q : Exit → Act → World → Prop} (sl x : Operand)
    (ho : o.op = .call { callee := .builtin .append, args := #[sl, x], argTypes := #[24, 24] })
    (base : Nat) (w0 wr : World) (v u : Value) (zss : List (List Int)) (zs : List Int) (hs : a.eval sl = v) (hx : a.eval x = .slice (some ⟨wr.heap.size, 0, none⟩) 1 1) (hW : W = wr.alloc (.cells #[u] 36))
    (hS : IntsS w0 base v zss) (hb0 : Below w0.heap.size w0 wr) (hu : Ints wr w0.heap.size u zs) (hn : zss.length ≤ 1048576) (hbase : base ≤ w0.heap.size)
    (hK : ∀ v' w', IntsS w' base v' (zss ++ [zs]) → Below base wr w' → K (a.put o.dst v') w') : o.wpIn F nF Tryz.prog a W K Q := by
  obtain ⟨i0, hi, hz0, hz1, hz2⟩ := info_parts rowsInfo
  obtain ⟨vs, hown, hin⟩ := hS
  have hown1 := own_below hown hb0
  have hal := (Below.refl wr.heap.size wr).alloc (Nat.le_refl _) (.cells #[u] 36)
  have hown2 := own_below hown1 hal
  obtain ⟨A1, c1, rfl⟩ := hu.slice
  subst hW
  obtain ⟨v', w', hrun, h1, h2, _, _⟩ := run_append_own_at (P := Tryz.prog) (wr.alloc (.cells #[.slice A1 zs.length c1] 36)) base 24 o.type 36 i0 (.slice none 0 0) 1 24 Tryz.underlying24 hi hz0 hz1 hz2 rfl (by decide) v _ _ hown2 ⟨wr.heap.size, 0, none⟩ 1 1 [.slice A1 zs.length c1] rfl
    (by
      intro j u hj
      match j, hj with
      | 0, hj => simp at hj; subst hj; simp [Addr.add])
    (by
      intro y hy
      obtain rfl := List.mem_singleton.1 hy
      rfl) (by unfold maxLen; omega) (by omega) (by simp; have := hb0.size; omega)
  have hk := (KeepI.of_below hal).trans (KeepI.of_grown hown2 h2)
  have hfin := hK v' w' ⟨vs ++ [.slice A1 zs.length c1], by rw [List.length_append]; exact h1, ((hin.keepI (KeepI.of_below hb0)).keepI hk).push ((hu.low hbase).keepI hk) (hin.away_new hu.since (Nat.le_refl _))⟩
    (((Below.refl base wr).alloc (Nat.le_trans hbase hb0.size) _).grown h2 (by simp; have := hb0.size; omega) (fun k hk => (hown.lt k hk).1))
  unfold Oper.wpIn
  refine ⟨by simp [Oper.about, ho, resolve, Target.leads, Sem.run_pure], ?_⟩
  rw [Oper.semAt_plain F _ _ (by rw [ho]; intro c hc'; cases hc')]
  simp [execOp, ho, resolve, invoke, builtin, hs, hx, hrun, Result.andThen]
  exact hfin

set_option maxRecDepth 100000 in
set_option maxHeartbeats 4000000 in
theorem pats_yes (A : Option Addr) (n c B kk : Nat) (p : List Int) (w : World) (h : Arg w B A n c p) (hp : isP p = true) (hkn : kk ≤ n) :
    Calls Tryz.prog 146 #[.slice A n c, .int .i64 kk] w (GivesSS w (patsR p kk)) := by
  have hn8 : n ≤ 8 := by have := isP_le hp; have := h.len; omega
  have hBu := h.under
  have hlp := h.len
  have hb0 : Below w.heap.size w (w.alloc (.cells #[.slice A n c] 36)) := (Below.refl _ w).alloc (Nat.le_refl _) _
  have hc0 : Boxed (w.alloc (.cells #[.slice A n c] 36)) w.heap.size 36 (.slice A n c) := Boxed.new w _ _
  have hcell0 := hc0.cell
  have H1 := hide (iisperm_any A n c B p true hp _ (h.below hb0).reads (h.below hb0).under h.le h.small)
  have HC := hide (fun w' => icho_any n kk w')
  have hk0 : ¬ ((kk : Int) < 0) := by omega
  have hk1 : ¬ ((n : Int) < (kk : Int)) := by omega
  have hd0 : decide ((kk : Int) < 0) = false := decide_eq_false hk0
  have hd2 : decide (n < kk) = false := decide_eq_false (by omega)
  have HH := hide h
  have HPATS := hide (pats_ordR hp (show kk ≤ p.length by omega))
  have HP := hide hp
  refine (callsIn_wide (n := 4)).1 ?_
  refine callsIn_of_wp_marks Tryz.func146 rfl trivial ?_ rfl
  simp only [Tryz.ntmps146, List.size_toArray, List.length_cons, List.length_nil, Nat.reduceAdd, Nat.reduceSub, Array.replicate_succ, Array.replicate_zero, List.push_toArray, List.append_toArray, List.nil_append, List.cons_append]
  clear h hp hlp
  gi_wp2_with fail
  refine ⟨trivial, ?_⟩
  refine (callsIn_wide.2 (unhide H1)).mono ?_
  rintro e w1 ⟨rfl, d1⟩
  have hc1 := boxed_later hc0 d1
  have hcell1 := hc1.cell
  have d1' := below_after hb0 d1
  clear H1 hcell0
  obtain ⟨w2, hw2⟩ : ∃ w2, w2 = w1.alloc (.cells #[.slice none 0 0] 24) := ⟨_, rfl⟩
  have hcell2 : (w1.alloc (.cells #[.slice none 0 0] 24)).cell? ⟨w.heap.size, 0, none⟩ = some (.slice A n c) := Boxed.cell (Boxed.alloc hc1 _)
  have HW2 := hide hw2
  clear hw2
  gi_wp2_with fail
  refine ⟨trivial, ?_⟩
  rw [← unhide HW2]
  refine (callsIn_wide.2 (unhide HC w2)).mono ?_
  rintro e w3 ⟨rfl, hw3⟩
  have hs2 : w2.heap.size = w1.heap.size + 1 := by rw [unhide HW2]; simp
  have hs3 : w3.heap.size = w2.heap.size + 2 := by rw [hw3]; simp
  have d12 : Below w1.heap.size w1 w2 := by rw [unhide HW2]; exact (Below.refl _ w1).alloc (Nat.le_refl _) _
  have d23 : Below w2.heap.size w2 w3 := by rw [hw3]; exact ((Below.refl _ w2).alloc (Nat.le_refl _) _).alloc (by simp) _
  have hbl2 : Boxed w2 w1.heap.size 24 (.slice none 0 0) := by rw [unhide HW2]; exact Boxed.new w1 _ _
  have hbl3 := boxed_later hbl2 d23
  have hcp3 := boxed_later (boxed_later hc1 d12) d23
  have dw3 := below_after d1' (below_after d12 d23)
  have hbn : Boxed w3 w2.heap.size 3 (.int .i64 n) := by rw [hw3]; exact Boxed.alloc (Boxed.new w2 _ _) _
  have hbk : Boxed w3 (w2.heap.size + 1) 3 (.int .i64 kk) := by
    have := Boxed.new (w2.alloc (.cells #[.int .i64 n] 3)) 3 (.int .i64 kk)
    rw [World.size_alloc] at this
    rw [hw3]; exact this
  have hseq := choices_tell n kk 256 w2.heap.size (w2.heap.size + 1) hn8 (by omega) (chR_room hn8 (by omega)) 3 w3 hbn hbk
  obtain ⟨b, hb⟩ : ∃ b, b = w1.heap.size := ⟨_, rfl⟩
  rw [← hb] at hs2 hbl3 ⊢
  have hwb : w.heap.size < b := by have h1 := d1.size; rw [World.size_alloc] at h1; omega
  have HS := hide (⟨hs2, hs3⟩ : w2.heap.size = b + 1 ∧ w3.heap.size = w2.heap.size + 2)
  clear HC HW2 hcell1 hcell2 d1 d1' d12 d23 hw3 hbl2 hc1 hbn hbk hb hb0 hc0 hs2 hs3
  gi_wp2
  obtain ⟨hs2, hs3⟩ := unhide HS
  refine range_zone rfl (by decide) (gf := 166) (lb := #[.pointer (some ⟨w2.heap.size + 1, 0, none⟩), .pointer (some ⟨w2.heap.size, 0, none⟩)]) rfl trivial (enters_of Tryz.func166 (by kernel_rfl) rfl)
    hseq (fun h k => ⟨Nat.le_trans h.1 k.1, k.2.trans h.2⟩) (fun W r r' hd => ⟨by unfold World.putObj; simp, World.putObj_heap_other (by omega)⟩) (fun _ => rfl) (fun U V x r r' hdU hdV h => ⟨h.1.kept (World.putObj_heap_other (by omega)), h.2⟩)
    (fun pre V => (∃ v, Boxed V b 24 v ∧ IntsS V (b + 6) v (pre.map (patA p))) ∧ Boxed V w.heap.size 36 (.slice A n c) ∧ Below w.heap.size w V ∧ b < V.heap.size)
    (fun _ _ _ => False)
    (fun pre U V h hb' => by
      obtain ⟨⟨v, h1, h2⟩, h3, h4, h5⟩ := h
      exact ⟨⟨v, Boxed.but h1 hb' (by omega), h2.but hb' (by omega)⟩, Boxed.but h3 hb' (by omega), h4.trans (hb'.below (by omega) (by omega)), Nat.lt_of_lt_of_le h5 hb'.size⟩)
    (fun _ _ _ _ h _ => h)
    ⟨⟨_, hbl3, IntsS.nil _ _⟩, hcp3, dw3, by omega⟩
    (fun _ => { tmps := #[.slice A n c, .int .i64 kk, .pointer (some ⟨w.heap.size, 0, none⟩), undef, .slice none 0 0, .pointer (some ⟨b, 0, none⟩), .slice (some ⟨w3.heap.size + 2, 0, none⟩) kk kk, .slice A n c, .bool true, .bool false, .bool false, .int .i64 kk, .bool false, .bool false, .bool false,
      .int .i64 kk, .slice A n c, .int .i64 n, .bool false, .bool false, .slice A n c, .int .i64 n, .int .i64 kk, .func (.func 166) #[] #[.pointer (some ⟨w2.heap.size + 1, 0, none⟩), .pointer (some ⟨w2.heap.size, 0, none⟩)],
      .slice (some ⟨w3.heap.size + 2, 0, none⟩) kk kk, undef, undef, undef, undef, undef, undef, undef, undef], defers := [] }) ?assign ?body ?done ?stop
  case assign =>
    intro l x W K' hK'
    clear hs3 hs2
    gi_wp2
    exact hK'
  case body =>
    rintro l2 pre pl U V ⟨⟨v, hcU, hSU⟩, hcpU, hBU, hbU0⟩ hzU hbU ⟨hbuf, hpl, hok⟩ hlen
    obtain ⟨g, hg⟩ : ∃ g, g = w3.heap.size + 2 := ⟨_, rfl⟩
    rw [← hg] at hbuf ⊢
    have hp := unhide HP
    have hpa := (unhide HH).below (below_after (⟨rfl, rfl, rfl, Nat.le_refl _, fun _ _ => rfl⟩ : Below w.heap.size w w) hBU)
    have e1 := hpa.len
    have hpaV := ((unhide HH).below (hBU.trans (hbU.mono (by have := hBU.size; omega)))).below (below_drew _ V)
    have hsm : Small pl := fun z hz => by have := hok.1 z hz; omega
    have hApl := ((hpl ▸ hbuf.ints : Ints V g (.slice (some ⟨g, 0, none⟩) kk kk) pl).arg (by omega) (Nat.le_refl _) hsm).drew
    have hokp : PlOK p.length pl := e1.symm ▸ hok
    have H1 := hide (ipatat_any A (some ⟨g, 0, none⟩) n c B kk kk _ p pl hp hokp V.drew hpaV hApl)
    have hmx : Tryz.prog.follows .mixedOrders = true := by kernel_rfl
    obtain ⟨zss, hz⟩ : ∃ zss, zss = pre.map (patA p) := ⟨_, rfl⟩
    have hzl : zss.length < 256 := by rw [hz, List.length_map]; exact hlen
    rw [← hz] at hSU
    obtain ⟨Av, cv, rfl⟩ := hSU.slice
    have HZ := hide hz
    have hc : Boxed V b 24 (.slice Av zss.length cv) := boxed_later hcU hbU
    have hcp := boxed_later hcpU hbU
    have hcell : V.drew.cell? ⟨b, 0, none⟩ = some (.slice Av zss.length cv) := hc.cell
    have hcellp : V.drew.cell? ⟨w.heap.size, 0, none⟩ = some (.slice A n c) := hcp.cell
    have hSD : IntsS V.drew (b + 6) (.slice Av zss.length cv) zss := (hSU.below hbU).below (below_drew _ V)
    have hbs := hbU.size
    have hzV : b + 6 ≤ V.drew.heap.size := by show b + 6 ≤ V.heap.size; omega
    have HCB := hide (show ∀ w4, Below V.drew.heap.size V.drew w4 → Boxed w4 b 24 (.slice Av zss.length cv) from fun w4 h => boxed_later (show Boxed V.drew b _ _ from hc) h)
    have HEND := hide (show ∀ (A9 : Option Addr) (c9 : Nat) (w' : World), IntsS w' (b + 6) (.slice A9 (zss.length + 1) c9) (zss ++ [patA p pl]) → Below (b + 6) V w' → (∀ r, Desk w3.heap.size r V → Desk w3.heap.size r (w'.setCell ⟨b, 0, none⟩ (.slice A9 (zss.length + 1) c9))) ∧ (V.heap.size ≤ (w'.setCell ⟨b, 0, none⟩ (.slice A9 (zss.length + 1) c9)).heap.size ∧ (w'.setCell ⟨b, 0, none⟩ (.slice A9 (zss.length + 1) c9)).heap[g]? = V.heap[g]?) ∧
        ((∃ v, Boxed (w'.setCell ⟨b, 0, none⟩ (.slice A9 (zss.length + 1) c9)) b 24 v ∧ IntsS (w'.setCell ⟨b, 0, none⟩ (.slice A9 (zss.length + 1) c9)) (b + 6) v ((pre ++ [pl]).map (patA p))) ∧ Boxed (w'.setCell ⟨b, 0, none⟩ (.slice A9 (zss.length + 1) c9)) w.heap.size 36 (.slice A n c) ∧ Below w.heap.size w (w'.setCell ⟨b, 0, none⟩ (.slice A9 (zss.length + 1) c9)) ∧ b < (w'.setCell ⟨b, 0, none⟩ (.slice A9 (zss.length + 1) c9)).heap.size) from fun A9 c9 w' h1 h2 => by
      have hgr := grownBy_setCell' w' b (.slice A9 (zss.length + 1) c9)
      have hsz := h2.size
      have hsz2 := hgr.size
      have hblk : ∀ k, k < V.heap.size → k < b + 6 → k ≠ b → (w'.setCell ⟨b, 0, none⟩ (.slice A9 (zss.length + 1) c9)).heap[k]? = V.heap[k]? := fun k h3 h4 h5 => (hgr.block k (by omega) (by simp; omega)).trans (h2.block k h4)
      refine ⟨fun r hd => ⟨(hblk _ hd.lt (by omega) (by omega)).trans hd.rec_, (hblk _ (by have := hd.lt; omega) (by omega) (by omega)).trans hd.marks⟩, ⟨by omega, hblk g (by omega) (by omega) (by omega)⟩, ⟨_, Boxed.set _ ((h2.block b (by omega)).trans hc), ?_⟩, (hblk _ (Boxed.lt hcp) (by omega) (by omega)).trans hcp, ?_, by omega⟩
      · rw [List.map_append, ← unhide HZ]
        exact intsS_stored h1 (by omega) _
      · exact ((hBU.trans (hbU.mono (by omega))).trans (h2.mono (by omega))).setCell (p := ⟨b, 0, none⟩) (by show w.heap.size ≤ b; omega) _)
    have HG := hide (⟨hg, hs2, hs3⟩ : g = w3.heap.size + 2 ∧ w2.heap.size = b + 1 ∧ w3.heap.size = w2.heap.size + 2)
    clear hseq hz hc hcp hcU hcpU hSU hBU hApl hpa hpaV hbuf hg hs2 hs3 hpl hlen
    gi_wp2_with fail
    refine region_round l2 rfl (by kernel_rfl) hmx ?_
    change wpAnyIn _ _ _ _ _ _ _ _ _ (World.drew _)
--REGION-PATS
    refine wpAnyIn_take (i := 2) (v := .slice (some ⟨g, 0, none⟩) kk kk) rfl rfl (by kernel_rfl) (by kernel_rfl) (by kernel_rfl) (fun _ _ _ h => h) ⟨Or.inl ⟨by rfl, fun w => by go_simp⟩, fun _ => rfl⟩ ?_
    simp only [Act.put]
    refine wpAnyIn_ready (rs := [0, 1]) (by kernel_rfl) (by simp) ?_
    refine AllReadyIn.cons rfl (fun K hK => ?_) (AllReadyIn.cons rfl (fun K hK => ?_) (AllReadyIn.nil))
    · skip
      go_simp
      refine hK _ _ ?_
      clear hK K
      refine wpAnyIn_ready (rs := [1]) (by kernel_rfl) (by simp) ?_
      refine AllReadyIn.cons rfl (fun K hK => ?_) (AllReadyIn.nil)
      go_simp
      refine hK _ _ ?_
      clear hK K
      refine wpAnyIn_ready (rs := [3]) (by kernel_rfl) (by simp) ?_
      refine AllReadyIn.cons rfl (fun K hK => ?_) (AllReadyIn.nil)
      go_simp
      refine ⟨trivial, ?_⟩
      refine (callsIn_wide.2 (unhide H1)).mono ?_
      rintro e w4 ⟨A4, c4, rfl, o4, d4⟩
      have hb4 := unhide HCB w4 d4
      have hcell4 := hb4.cell
      have hcell4a := (Boxed.alloc hb4 (.cells #[.slice A4 (patA p pl).length c4] 36)).cell
      refine hK _ _ ?_
      clear hK K
      refine wpAnyIn_ready (rs := [4]) (by kernel_rfl) (by simp) ?_
      refine AllReadyIn.cons rfl (fun K hK => ?_) (AllReadyIn.nil)
      go_simp
      refine hK _ _ ?_
      clear hK K
      refine wpAnyIn_ready (rs := [5]) (by kernel_rfl) (by simp) ?_
      refine AllReadyIn.cons rfl (fun K hK => ?_) (AllReadyIn.nil)
      rw [if_pos (by rfl)]
      refine opIn_push_row (.tmp 25) (.tmp 29) rfl (b + 6) V.drew w4 (.slice Av zss.length cv) (.slice A4 (patA p pl).length c4) zss (patA p pl) rfl rfl rfl hSD d4 o4 (by omega) hzV ?_
      intro v' w' hS' hb'
      obtain ⟨A9, c9, rfl⟩ := hS'.slice
      rw [List.length_append, List.length_singleton] at hS'
      have hb9 : Boxed w' b 24 (.slice Av zss.length cv) := (hb'.block b (by omega)).trans hb4
      have hcell9 := hb9.cell
      have hfz9 := hb9.frozen
      have hend := unhide HEND A9 c9 w' hS' (((below_drew (b + 6) V).trans (d4.mono hzV)).trans hb')
      have HEN := hide hend
      refine hK _ _ ?_
      clear hK K hend
      refine wpAnyIn_ready (rs := [6]) (by kernel_rfl) (by simp) ?_
      refine AllReadyIn.cons rfl (fun K hK => ?_) (AllReadyIn.nil)
      go_simp
      refine hK _ _ ?_
      clear hK K
      refine wpAnyIn_done (by kernel_rfl) ?_ _
      gi_wp2
      exact unhide HEN
    · skip
      go_simp
      refine hK _ _ ?_
      clear hK K
      refine wpAnyIn_ready (rs := [0, 3]) (by kernel_rfl) (by simp) ?_
      refine AllReadyIn.cons rfl (fun K hK => ?_) (AllReadyIn.cons rfl (fun K hK => ?_) (AllReadyIn.nil))
      · skip
        go_simp
        refine hK _ _ ?_
        clear hK K
        refine wpAnyIn_ready (rs := [3]) (by kernel_rfl) (by simp) ?_
        refine AllReadyIn.cons rfl (fun K hK => ?_) (AllReadyIn.nil)
        go_simp
        refine ⟨trivial, ?_⟩
        refine (callsIn_wide.2 (unhide H1)).mono ?_
        rintro e w4 ⟨A4, c4, rfl, o4, d4⟩
        have hb4 := unhide HCB w4 d4
        have hcell4 := hb4.cell
        have hcell4a := (Boxed.alloc hb4 (.cells #[.slice A4 (patA p pl).length c4] 36)).cell
        refine hK _ _ ?_
        clear hK K
        refine wpAnyIn_ready (rs := [4]) (by kernel_rfl) (by simp) ?_
        refine AllReadyIn.cons rfl (fun K hK => ?_) (AllReadyIn.nil)
        go_simp
        refine hK _ _ ?_
        clear hK K
        refine wpAnyIn_ready (rs := [5]) (by kernel_rfl) (by simp) ?_
        refine AllReadyIn.cons rfl (fun K hK => ?_) (AllReadyIn.nil)
        rw [if_pos (by rfl)]
        refine opIn_push_row (.tmp 25) (.tmp 29) rfl (b + 6) V.drew w4 (.slice Av zss.length cv) (.slice A4 (patA p pl).length c4) zss (patA p pl) rfl rfl rfl hSD d4 o4 (by omega) hzV ?_
        intro v' w' hS' hb'
        obtain ⟨A9, c9, rfl⟩ := hS'.slice
        rw [List.length_append, List.length_singleton] at hS'
        have hb9 : Boxed w' b 24 (.slice Av zss.length cv) := (hb'.block b (by omega)).trans hb4
        have hcell9 := hb9.cell
        have hfz9 := hb9.frozen
        have hend := unhide HEND A9 c9 w' hS' (((below_drew (b + 6) V).trans (d4.mono hzV)).trans hb')
        have HEN := hide hend
        refine hK _ _ ?_
        clear hK K hend
        refine wpAnyIn_ready (rs := [6]) (by kernel_rfl) (by simp) ?_
        refine AllReadyIn.cons rfl (fun K hK => ?_) (AllReadyIn.nil)
        go_simp
        refine hK _ _ ?_
        clear hK K
        refine wpAnyIn_done (by kernel_rfl) ?_ _
        gi_wp2
        exact unhide HEN
      · skip
        go_simp
        refine ⟨trivial, ?_⟩
        refine (callsIn_wide.2 (unhide H1)).mono ?_
        rintro e w4 ⟨A4, c4, rfl, o4, d4⟩
        have hb4 := unhide HCB w4 d4
        have hcell4 := hb4.cell
        have hcell4a := (Boxed.alloc hb4 (.cells #[.slice A4 (patA p pl).length c4] 36)).cell
        refine hK _ _ ?_
        clear hK K
        refine wpAnyIn_ready (rs := [0, 4]) (by kernel_rfl) (by simp) ?_
        refine AllReadyIn.cons rfl (fun K hK => ?_) (AllReadyIn.cons rfl (fun K hK => ?_) (AllReadyIn.nil))
        · skip
          go_simp
          refine hK _ _ ?_
          clear hK K
          refine wpAnyIn_ready (rs := [4]) (by kernel_rfl) (by simp) ?_
          refine AllReadyIn.cons rfl (fun K hK => ?_) (AllReadyIn.nil)
          go_simp
          refine hK _ _ ?_
          clear hK K
          refine wpAnyIn_ready (rs := [5]) (by kernel_rfl) (by simp) ?_
          refine AllReadyIn.cons rfl (fun K hK => ?_) (AllReadyIn.nil)
          rw [if_pos (by rfl)]
          refine opIn_push_row (.tmp 25) (.tmp 29) rfl (b + 6) V.drew w4 (.slice Av zss.length cv) (.slice A4 (patA p pl).length c4) zss (patA p pl) rfl rfl rfl hSD d4 o4 (by omega) hzV ?_
          intro v' w' hS' hb'
          obtain ⟨A9, c9, rfl⟩ := hS'.slice
          rw [List.length_append, List.length_singleton] at hS'
          have hb9 : Boxed w' b 24 (.slice Av zss.length cv) := (hb'.block b (by omega)).trans hb4
          have hcell9 := hb9.cell
          have hfz9 := hb9.frozen
          have hend := unhide HEND A9 c9 w' hS' (((below_drew (b + 6) V).trans (d4.mono hzV)).trans hb')
          have HEN := hide hend
          refine hK _ _ ?_
          clear hK K hend
          refine wpAnyIn_ready (rs := [6]) (by kernel_rfl) (by simp) ?_
          refine AllReadyIn.cons rfl (fun K hK => ?_) (AllReadyIn.nil)
          go_simp
          refine hK _ _ ?_
          clear hK K
          refine wpAnyIn_done (by kernel_rfl) ?_ _
          gi_wp2
          exact unhide HEN
        · skip
          go_simp
          refine hK _ _ ?_
          clear hK K
          refine wpAnyIn_ready (rs := [0]) (by kernel_rfl) (by simp) ?_
          refine AllReadyIn.cons rfl (fun K hK => ?_) (AllReadyIn.nil)
          go_simp
          refine hK _ _ ?_
          clear hK K
          refine wpAnyIn_ready (rs := [5]) (by kernel_rfl) (by simp) ?_
          refine AllReadyIn.cons rfl (fun K hK => ?_) (AllReadyIn.nil)
          rw [if_pos (by rfl)]
          refine opIn_push_row (.tmp 25) (.tmp 29) rfl (b + 6) V.drew w4 (.slice Av zss.length cv) (.slice A4 (patA p pl).length c4) zss (patA p pl) rfl rfl rfl hSD d4 o4 (by omega) hzV ?_
          intro v' w' hS' hb'
          obtain ⟨A9, c9, rfl⟩ := hS'.slice
          rw [List.length_append, List.length_singleton] at hS'
          have hb9 : Boxed w' b 24 (.slice Av zss.length cv) := (hb'.block b (by omega)).trans hb4
          have hcell9 := hb9.cell
          have hfz9 := hb9.frozen
          have hend := unhide HEND A9 c9 w' hS' (((below_drew (b + 6) V).trans (d4.mono hzV)).trans hb')
          have HEN := hide hend
          refine hK _ _ ?_
          clear hK K hend
          refine wpAnyIn_ready (rs := [6]) (by kernel_rfl) (by simp) ?_
          refine AllReadyIn.cons rfl (fun K hK => ?_) (AllReadyIn.nil)
          go_simp
          refine hK _ _ ?_
          clear hK K
          refine wpAnyIn_done (by kernel_rfl) ?_ _
          gi_wp2
          exact unhide HEN
--END-PATS
  case done =>
    rintro pls W rfl ⟨⟨v, hc, hSS⟩, hcp, hB, hbs⟩ hK9
    have hcell := hc.cell
    obtain ⟨zss, hz⟩ : ∃ zss, zss = (chR n kk).map (patA p) := ⟨_, rfl⟩
    have hord : ordR zss = patsR p kk := by rw [hz, ← (unhide HH).len]; exact unhide HPATS
    have hzl : zss.length ≤ 256 := by rw [hz, List.length_map]; exact chR_room hn8 (by omega)
    rw [← hz] at hSS
    obtain ⟨A9, c9, rfl⟩ := hSS.slice
    have H7 := hide (iord_any A9 _ c9 _ zss W hSS (by omega) (fun z hz9 => by
      rw [hz] at hz9
      obtain ⟨pl, hpl, rfl⟩ := List.mem_map.1 hz9
      have h2 := (mem_chR.1 hpl).2
      have h3 := plOK_le h2
      exact ⟨by unfold patA; rw [patL_length, nums_length]; omega, patA_small (unhide HP) ((unhide HH).len.symm ▸ h2)⟩))
    have HO := hide hord
    have HS9 := hide (show w3.heap.size = b + 3 from by omega)
    have hDl : w3.heap.size < W.heap.size := (Array.getElem?_eq_some_iff.1 hK9).1
    clear hz hord hc hSS hcp hseq hs2 hs3
    gi_wp2_with fail
    refine ⟨trivial, ?_⟩
    refine (callsIn_wide.2 (unhide H7)).mono ?_
    rintro e w5 ⟨A5, c5, rfl, o5, d5⟩
    rw [unhide HO] at o5 ⊢
    have hK5 : w5.heap[w3.heap.size]? = some (.deferred (some [])) := (d5.block _ hDl).trans hK9
    have hwd : w.heap.size ≤ w3.heap.size := by have := unhide HS9; omega
    have o6 := (o5.but (But.putObj w5 (Nat.le_refl w3.heap.size) (Nat.lt_succ_self _) (.deferred none)) hDl).low (show w.heap.size ≤ W.heap.size by omega)
    have d6 : Below w.heap.size w (w5.putObj w3.heap.size (.deferred none)) := (hB.trans (d5.mono hB.size)).trans ((Below.refl _ _).grown (grownBy_putObj' _ _ _) (by have := d5.size; have := hB.size; omega) (fun k e => by cases e; exact hwd))
    clear H7 d5 o5 hB
    gi_wp2
    refine ⟨by simp, .inl ⟨_, _, rfl, run_takeDeferred hK5, ?_⟩⟩
    refine ⟨_, results_tmp rfl _ _ _, ?_⟩
    exact GivesSS.mk o6 d6
  case stop =>
    rintro c pre W _ h _
    exact h.elim
end Go.Proofs.YtoiipedomgefaaaGreatDoor


/-
  impl.PatternsIn at any number; impl.LowersOf.
-/

namespace Go.Proofs.YtoiipedomgefaaaGreatDoor
set_option maxRecDepth 100000
open Go.RowKit

set_option maxHeartbeats 800000 in
theorem ipats_any (A : Option Addr) (n c B : Nat) (zs : List Int) (x : Int) (w : World) (h : Arg w B A n c zs) :
    Calls Tryz.prog 146 #[.slice A n c, .int .i64 x] w (GivesSS w (patsR zs x)) := by
  have hl := h.len
  obtain ⟨b, hp⟩ : ∃ b, isP zs = b := ⟨_, rfl⟩
  have hb0 : Below w.heap.size w (w.alloc (.cells #[.slice A n c] 36)) := (Below.refl _ w).alloc (Nat.le_refl _) _
  have hc0 : Boxed (w.alloc (.cells #[.slice A n c] 36)) w.heap.size 36 (.slice A n c) := Boxed.new w _ _
  have hcell0 := hc0.cell
  have H1 := hide (iisperm_any A n c B zs b hp _ (h.below hb0).reads (h.below hb0).under h.le h.small)
  cases b with
  | false =>
    rw [patsR_no (by unfold patsOK; rw [hp]; rfl)]
    clear h hp hl
    go_enter Tryz.func146, Tryz.ntmps146
    go_wp2_with fail
    refine (unhide H1).mono ?_
    rintro e w1 ⟨rfl, d1⟩
    have d := below_after hb0 d1
    clear H1 hcell0
    go_wp2
    go_ret
    exact GivesSS.mk (IntsS.nil _ _) d
  | true =>
    by_cases hx : 0 ≤ x ∧ x ≤ (n : Int)
    · obtain ⟨kk, rfl⟩ : ∃ kk : Nat, x = (kk : Int) := ⟨x.toNat, by omega⟩
      exact pats_yes A n c B kk zs w h hp (by omega)
    · rw [patsR_no (by unfold patsOK; rw [hp, hl]; simpa using hx)]
      by_cases h0 : x < 0
      · have hd0 : decide (x < 0) = true := decide_eq_true h0
        clear h hp hl hx
        go_enter Tryz.func146, Tryz.ntmps146
        go_wp2_with fail
        refine (unhide H1).mono ?_
        rintro e w1 ⟨rfl, d1⟩
        have d := below_after hb0 d1
        have hcell1 := (boxed_later hc0 d1).cell
        clear H1 hcell0
        go_wp2
        go_ret
        exact GivesSS.mk (IntsS.nil _ _) d
      · have hd0 : decide (x < 0) = false := decide_eq_false h0
        have h1 : (n : Int) < x := by omega
        have hd1 : decide ((n : Int) < x) = true := decide_eq_true h1
        clear h hp hl hx
        go_enter Tryz.func146, Tryz.ntmps146
        go_wp2_with fail
        refine (unhide H1).mono ?_
        rintro e w1 ⟨rfl, d1⟩
        have d := below_after hb0 d1
        have hcell1 := (boxed_later hc0 d1).cell
        clear H1 hcell0
        go_wp2
        go_ret
        exact GivesSS.mk (IntsS.nil _ _) d
theorem ilow_any (A : Option Addr) (n c B : Nat) (zs : List Int) (w : World) (h : Arg w B A n c zs) :
    Calls Tryz.prog 129 #[.slice A n c] w (GivesSS w (lowR zs)) := by
  have hle := h.le
  have H1 := hide (ipats_any A n c B zs ((n : Int) - 1) w h)
  have hw1 : IntKind.i64.wrap ((n : Int) - 1) = (n : Int) - 1 := by rw [IntKind.wrap_i64]; omega
  rw [← pats_low, h.len]
  clear h
  go_enter Tryz.func129, Tryz.ntmps129
  go_wp2_with fail
  refine (unhide H1).mono ?_
  rintro e w1 ⟨A1, c1, rfl, o1, d1⟩
  clear H1
  go_wp2
  go_ret
  exact GivesSS.mk o1 d1
end Go.Proofs.YtoiipedomgefaaaGreatDoor


/-
  impl.permSetOf, permSet's add, has, hasLowers, by their contracts.
-/

namespace Go.Proofs.YtoiipedomgefaaaGreatDoor
set_option maxRecDepth 100000
open Go.RowKit Go.Maps

set_option maxHeartbeats 800000 in
theorem psadd_any (b m : Nat) (S : List (List Int)) (A : Option Addr) (n c B : Nat) (z : List Int) (w : World) (hP : PSet w b m S) (hm : m ≤ 1048576) (h : Arg w B A n c z) (hz : isP z = true) :
    Calls Tryz.prog 94 #[.map (some b), .slice A n c] w fun e w' => e = .returned (.tuple #[]) ∧ PSet w' b (m + 1) (S ++ [z]) ∧ w.grownBy w' (some b) := by
  have H1 := hide (itext_any A n c B z w h)
  have HS := hide (fun (w1 : World) (d : Below w.heap.size w w1) => (hP.later d).store (by unfold maxLen; omega) hz)
  obtain ⟨s, hs⟩ : ∃ s, s = ptext z := ⟨_, rfl⟩
  rw [← hs] at H1
  simp only [← hs] at HS
  clear h hz hP hs
  go_enter Tryz.func94, Tryz.ntmps94
  go_wp2_with fail
  refine (unhide H1).mono ?_
  rintro e w1 ⟨rfl, d1⟩
  obtain ⟨w2, hrun, hP2, hg2⟩ := unhide HS w1 d1
  have HP2 := hide hP2
  have HG2 := hide (grown_then (grown_of_below d1 (some b)) hg2)
  clear H1 HS d1 hP2 hg2
  go_wp2
  go_end0
  exact ⟨rfl, unhide HP2, unhide HG2⟩
set_option maxHeartbeats 800000 in
theorem pshas_any (b m : Nat) (S : List (List Int)) (A : Option Addr) (n c B : Nat) (z : List Int) (w : World) (hP : PSet w b m S) (h : Arg w B A n c z) (hz : isP z = true) :
    Calls Tryz.prog 98 #[.map (some b), .slice A n c] w (GivesB w (decide (z ∈ S))) := by
  have H1 := hide (itext_any A n c B z w h)
  have HS := hide (fun (w1 : World) (d : Below w.heap.size w w1) => (hP.later d).lookup hz)
  obtain ⟨s, hs⟩ : ∃ s, s = ptext z := ⟨_, rfl⟩
  obtain ⟨bb, hbb⟩ : ∃ bb, bb = decide (z ∈ S) := ⟨_, rfl⟩
  rw [← hs] at H1
  rw [← hbb]
  simp only [← hs, ← hbb] at HS
  clear h hz hP hs hbb
  go_enter Tryz.func98, Tryz.ntmps98
  go_wp2_with fail
  refine (unhide H1).mono ?_
  rintro e w1 ⟨rfl, d1⟩
  have hrun := unhide HS w1 d1
  clear H1 HS
  go_wp2
  go_ret
  exact ⟨rfl, d1⟩
theorem lowIn_take {S low : List (List Int)} {i : Nat} {q : List Int} (h : low[i]? = some q) : (low.take (i + 1)).all (fun q => decide (q ∈ S)) = ((low.take i).all (fun q => decide (q ∈ S)) && decide (q ∈ S)) := by rw [List.take_add_one, h]; simp
set_option maxHeartbeats 1600000 in
theorem pslow_any (b m : Nat) (S : List (List Int)) (A : Option Addr) (n c B : Nat) (z : List Int) (w : World) (hP : PSet w b m S) (h : Arg w B A n c z) :
    Calls Tryz.prog 99 #[.map (some b), .slice A n c] w (GivesB w (lowIn S z)) := by
  have H1 := hide (ilow_any A n c B z w h)
  have HPS := hide hP
  have hll := (low_size z).1
  have HPI := hide (fun (i : Nat) (q : List Int) (hq : (lowR z)[i]? = some q) => low_all (List.mem_of_getElem? hq))
  have hdef : lowIn S z = (lowR z).all (fun q => decide (q ∈ S)) := rfl
  rw [hdef]
  obtain ⟨L, hL⟩ : ∃ L, L = lowR z := ⟨_, rfl⟩
  rw [← hL] at H1 hll HPI ⊢
  obtain ⟨N, hN⟩ : ∃ N, N = L.length := ⟨_, rfl⟩
  rw [← hN] at hll
  have HN := hide hN
  clear h hP hdef hL hN
  go_enter Tryz.func99, Tryz.ntmps99
  go_wp2_with fail
  refine (unhide H1).mono ?_
  rintro e w1 ⟨A1, c1, rfl, o1, d1⟩
  have HO := hide o1
  rw [← unhide HN] at HO ⊢
  have hb1 := Below.refl w1.heap.size w1
  have HD := hide d1
  clear H1 o1 d1
  go_wp2
  go_loopw [6, 10] (fun _ i wr => ∃ k : Nat, k ≤ N ∧ i = .int .i64 k ∧ Below w1.heap.size w1 wr ∧ Hid ((L.take k).all (fun q => decide (q ∈ S)) = true)) (fun _ i _ => N - (intOf i).toNat)
  case atStart => exact ⟨0, Nat.zero_le _, rfl, hb1, by exact (by simp : (L.take 0).all (fun q => decide (q ∈ S)) = true)⟩
  case round =>
    obtain ⟨k, hk, rfl, hb, hall⟩ := hrel
    clear hb1
    by_cases hlt : k < N
    · obtain ⟨ad, A6, c6, q, rfl, hq, hcell, hI⟩ := ((unhide HO).below hb).at_ hlt
      have hqp := unhide HPI k q hq
      have H4 := hide (pshas_any b m S A6 q.length c6 _ q wr ((unhide HPS).later (below_after (unhide HD) hb)) (hI.argP hqp) hqp)
      obtain ⟨bq, hbq⟩ : ∃ b, decide (q ∈ S) = b := ⟨_, rfl⟩
      rw [hbq] at H4
      have hst := lowIn_take (S := S) hq
      rw [unhide hall, hbq, Bool.true_and] at hst
      have HST := hide hst
      obtain ⟨lq, hlq⟩ : ∃ l, l = q.length := ⟨_, rfl⟩
      rw [← hlq] at hcell H4
      have HQ := hide (⟨hq, hbq⟩ : _ ∧ _)
      clear hq hqp hI hbq hst hlq hall
      cases bq with
      | true =>
        go_wp2_with fail
        refine (unhide H4).mono ?_
        rintro e w2 ⟨rfl, d2⟩
        have hb2 := below_after hb d2
        clear H4 d2 hcell hb
        go_wp2
        go_roundw
        case rel => exact ⟨k + 1, by omega, by go_num, hb2, HST⟩
        case measure => simp [intOf]; omega
      | false =>
        have HF := hide (show L.all (fun q => decide (q ∈ S)) = false by
          rw [List.all_eq_false]
          exact ⟨q, List.mem_of_getElem? (unhide HQ).1, by rw [(unhide HQ).2]; simp⟩)
        go_wp2_with fail
        refine (unhide H4).mono ?_
        rintro e w2 ⟨rfl, d2⟩
        have hb2 := below_after (unhide HD) (below_after hb d2)
        clear H4 d2 hcell hb
        go_wp2
        go_ret
        exact ⟨ret_bool (unhide HF).symm, hb2⟩
    · obtain rfl : N = k := by omega
      have HF := hide (show L.all (fun q => decide (q ∈ S)) = true by have h := unhide hall; rwa [List.take_of_length_le (by rw [← unhide HN]; exact Nat.le_refl _)] at h)
      have hb2 := below_after (unhide HD) hb
      clear hall hb
      go_wp2
      go_ret
      exact ⟨ret_bool (unhide HF).symm, hb2⟩
set_option maxHeartbeats 1600000 in
theorem psof_any (A : Option Addr) (n c B : Nat) (zss : List (List Int)) (w : World) (hS : IntsS w B (.slice A n c) zss) (hn : n ≤ 1048576) (hz : ∀ z ∈ zss, isP z = true) :
    Calls Tryz.prog 93 #[.slice A n c] w fun e w' => e = .returned (.map (some w.heap.size)) ∧ PSet w' w.heap.size n zss ∧ Below w.heap.size w w' := by
  have hP0 := PSet.new w
  have hb0 : Below w.heap.size w (w.alloc (.map #[] 0)) := (Below.refl _ w).alloc (Nat.le_refl _) _
  have hmk := run_makeMap (P := Tryz.prog) 85 w
  have HS := hide (⟨hS, hz⟩ : IntsS w B (.slice A n c) zss ∧ ∀ z ∈ zss, isP z = true)
  have HL := hide hS.len
  clear hS hz
  go_enter Tryz.func93, Tryz.ntmps93
  go_wp2
  obtain ⟨g, hg⟩ : ∃ g, g = w.heap.size := ⟨_, rfl⟩
  have hPg : PSet (w.alloc (.map #[] 0)) g 0 [] := by rw [hg]; exact hP0
  rw [← hg]
  have HG := hide hg
  clear hP0 hg hmk
  go_loopw [5, 9] (fun _ i wr => ∃ k : Nat, k ≤ n ∧ i = .int .i64 k ∧ Below w.heap.size w wr ∧ PSet wr g k (zss.take k)) (fun _ i _ => n - (intOf i).toNat)
  case atStart => exact ⟨0, Nat.zero_le _, rfl, hb0, by simpa using hPg⟩
  case round =>
    obtain ⟨k, hk, rfl, hb, hP⟩ := hrel
    clear hPg hb0
    by_cases hlt : k < n
    · obtain ⟨ad, A6, c6, z, rfl, hz, hcell, hI⟩ := ((unhide HS).1.below hb).at_ hlt
      have hzp := (unhide HS).2 z (List.mem_of_getElem? hz)
      have H4 := hide (psadd_any g k (zss.take k) A6 z.length c6 _ z wr hP (by omega) (hI.argP hzp) hzp)
      have hnext : zss.take k ++ [z] = zss.take (k + 1) := by rw [List.take_add_one, hz]; rfl
      rw [hnext] at H4
      obtain ⟨lz, hlz⟩ : ∃ l, l = z.length := ⟨_, rfl⟩
      rw [← hlz] at hcell H4
      clear hz hzp hI hnext hlz hP
      go_wp2_with fail
      refine (unhide H4).mono ?_
      rintro e w2 ⟨rfl, hP2, hg2⟩
      have hb2 : Below w.heap.size w w2 := hb.grown hg2 hb.size (fun j e => by injection e with e; have := unhide HG; omega)
      clear H4 hg2 hcell hb
      go_wp2
      go_roundw
      case rel => exact ⟨k + 1, by omega, by go_num, hb2, hP2⟩
      case measure => simp [intOf]; omega
    · obtain rfl : n = k := by omega
      rw [List.take_of_length_le (by rw [unhide HL]; exact Nat.le_refl _)] at hP
      have HP := hide hP
      clear hP
      go_wp2
      go_ret
      exact ⟨by rw [unhide HG]; rfl, by rw [← unhide HG]; exact unhide HP, hb⟩
end Go.Proofs.YtoiipedomgefaaaGreatDoor


/-
  WORDS: a list of rows taken out of another one, beside maps of texts.
-/

namespace Go.Proofs.YtoiipedomgefaaaGreatDoor
set_option maxRecDepth 100000
open Go.RowKit

theorem PSet.same {w w' : World} {b m : Nat} {S : List (List Int)} (h : PSet w b m S) (hb : w'.heap[b]? = w.heap[b]?) : PSet w' b m S := by
  obtain ⟨D, ⟨es, clock, h1, h2⟩, h3⟩ := h
  exact ⟨D, ⟨es, clock, hb.trans h1, h2⟩, h3⟩
/-- Every map of texts is as it was. -/
def KeepT (w w' : World) : Prop := ∀ b m S, PSet w b m S → PSet w' b m S
theorem KeepT.of_own {w w' : World} {B n : Nat} {e : TypeId} {v : Value} {xs : List Value} (ho : w.ownsRow B e 1 v n xs) (hg : w.grownBy w' v.ownBlock) : KeepT w w' := fun b m S h => by
  refine h.kept hg fun e2 => ?_
  rcases ho.2 with ⟨rfl, _⟩ | ⟨g, cap, cur, rfl, _, hgg, _⟩
  · simp [Value.ownBlock] at e2
  · obtain ⟨D, ⟨es, clock, hb, _⟩, _⟩ := h
    simp [Value.ownBlock] at e2
    subst e2
    rw [hgg] at hb
    cases hb
theorem Sib.set {w w' : World} {B C k b m : Nat} {lv ov : Value} {vs us : List Value} {Z U S : List (List Int)} (h : Sib w B C lv vs Z ov us U k) (hP : PSet w b m S) (hg : w.grownBy w' (some b)) : Sib w' B C lv vs Z ov us U k :=
  ⟨hP.own hg h.all, h.alli.keepI (hP.keepI hg), hP.own hg h.out, h.outi.keepI (hP.keepI hg), h.sub, h.since, h.apart⟩
theorem wpList_sift_keep {ops : Array Oper} {rest : List Oper} {o : Oper} {a : Act} {W : World} {Q : Exit → Act → World → Prop} (hgd : o.guard = none) (sl x : Operand)
    (ho : o.op = .call { callee := .builtin .append, args := #[sl, x], argTypes := #[24, 24] })
    (B C : Nat) (W0 wr : World) (lv v u : Value) (vs us : List Value) (Z U : List (List Int)) (k : Nat) (z : List Int) (hs : a.eval sl = v) (hx : a.eval x = .slice (some ⟨wr.heap.size, 0, none⟩) 1 1) (hW : W = wr.alloc (.cells #[u] 36))
    (h : Sib wr B C lv vs Z v us U k) (hu : vs[k]? = some u) (hz : Z[k]? = some z) (hn : U.length ≤ 1048576) (hb : Below B W0 wr) (hbase : B ≤ W0.heap.size)
    (K : ∀ v' w', Sib w' B C lv vs Z v' (us ++ [u]) (U ++ [z]) (k + 1) → Below B W0 w' → KeepT wr w' → wpList Tryz.prog ops Q rest (a.put o.dst v') w') : wpList Tryz.prog ops Q (o :: rest) a W := by
  obtain ⟨i0, hi, hz0, hz1, hz2⟩ := info_parts rowsInfo
  have hal := (Below.refl wr.heap.size wr).alloc (Nat.le_refl _) (.cells #[u] 36)
  have h0 := h.below hal
  have hBw : B ≤ wr.heap.size := Nat.le_trans hbase hb.size
  have hr := h.alli.row k u z hu hz
  obtain ⟨A1, c1, rfl⟩ := hr.slice
  subst hW
  refine wpList_append_own_at _ hgd sl x 24 ho B 36 i0 (.slice none 0 0) 1 24 Tryz.underlying24 hi hz0 hz1 hz2 rfl (by decide) v _ _ hs h0.out ⟨wr.heap.size, 0, none⟩ 1 1 [.slice A1 z.length c1] hx rfl ?_ ?_ (by unfold maxLen; omega) (by omega) (by simp; omega) ?_
  · intro j y hj
    match j, hj with
    | 0, hj => simp at hj; subst hj; simp [Addr.add]
  · intro y hy
    obtain rfl := List.mem_singleton.1 hy
    rfl
  · intro v' w' h1 h2 _ h4
    have hk := KeepI.of_grown h0.out h2
    have hkt : KeepT wr w' := fun b m S hP => (KeepT.of_own h0.out h2) b m S (hP.later hal)
    refine K v' w' ⟨h0.all.kept h2 h0.apart, h0.alli.keepI hk, by rw [List.length_append]; exact h1, ?_, ?_, h.since, ?_⟩ ?_ hkt
    · refine (h0.outi.keepI hk).push ((h0.alli.row k _ z hu hz).keepI hk) fun y hy => ?_
      rcases h.sub y hy with h6 | h6
      · obtain ⟨i, hik, hy2⟩ := mem_take_at h6
        exact pair_at h.alli.away hik hy2 hu
      · exact apart h6 (h.since _ (List.mem_of_getElem? hu)) (Nat.le_refl _)
    · intro y hy
      rcases List.mem_append.1 hy with hy | hy
      · rcases h.sub y hy with h6 | h6
        · rw [List.take_add_one]
          exact .inl (List.mem_append_left _ h6)
        · exact .inr h6
      · obtain rfl := List.mem_singleton.1 hy
        rw [List.take_add_one, hu]
        exact .inl (by simp)
    · rcases h4 with h4 | h4
      · rcases h.apart with ha | ha
        · exact .inl ha
        · exact .inr (by rw [h4]; exact ha)
      · cases hl : lv.ownBlock with
        | none => exact .inl hl
        | some g =>
          refine .inr ?_
          rw [hl, h4]
          intro e
          have h5 := (h.all.lt g hl).2
          have h6 := (h0.all.lt g hl).2
          simp at e
          omega
    · exact (hb.trans (hal.mono hBw)).grown h2 (by simp; omega) (fun g hg => (h.out.lt g hg).1)
end Go.Proofs.YtoiipedomgefaaaGreatDoor


/-
  impl.classUpTo, impl.ClassOf, impl.ClassCounts, by their contracts.
-/

namespace Go.Proofs.YtoiipedomgefaaaGreatDoor
set_option maxRecDepth 100000
open Go.RowKit Go.Maps

set_option maxHeartbeats 1600000 in
theorem iclu_any (A : Option Addr) (n c B m : Nat) (zss : List (List Int)) (w : World) (hS : IntsS w B (.slice A n c) zss) (hbas : basis zss = true) (hm : m ≤ 6) :
    Calls Tryz.prog 52 #[.slice A n c, .int .i64 m] w (GivesSS w (clsU zss m)) := by
  have hL := fun z hz => (basis_isP hbas z hz).1
  have hn8 : n ≤ 8 := by have := basis_le hbas; have := hS.len; omega
  have H1 := hide (psof_any A n c B zss w hS (by omega) hL)
  have HST := hide (fun (k : Nat) (p : List Int) (hp : (allU m)[k]? = some p) => cls_step hL hm hp)
  have HPP := hide (fun (k : Nat) (p : List Int) (hp : (allU m)[k]? = some p) => ((mem_allU hm).1 (List.mem_of_getElem? hp)).1)
  have H2 := hide (fun (w' : World) => iupto_any m hm w')
  have hN0 := allU_len m hm
  rw [clsU_sift]
  obtain ⟨Z, hZ⟩ : ∃ Z, Z = allU m := ⟨_, rfl⟩
  rw [← hZ] at H2 hN0 HST HPP ⊢
  obtain ⟨N, hN⟩ : ∃ N, N = Z.length := ⟨_, rfl⟩
  rw [← hN] at hN0 ⊢
  have HN := hide hN
  clear hS hbas hL hZ hN
  go_enter Tryz.func52, Tryz.ntmps52
  go_wp2_with fail
  refine (unhide H1).mono ?_
  rintro e w1 ⟨rfl, hP1, d1⟩
  have hmk := run_makeMap (P := Tryz.prog) 85 w1
  have hal : Below w1.heap.size w1 (w1.alloc (.map #[] 0)) := (Below.refl _ w1).alloc (Nat.le_refl _) _
  have hP2 := hP1.later hal
  have hK2 := PSet.new w1
  have hb2 := below_after d1 hal
  have hne := hP1.lt
  have H3 := hide (unhide H2 (w1.alloc (.map #[] 0)))
  clear H1 H2 d1 hP1 hal
  go_wp2_with fail
  refine (unhide H3).mono ?_
  rintro e w3 ⟨A3, c3, rfl, o3, d3⟩
  have hb3 := below_after hb2 d3
  obtain ⟨vs, us0, hsib⟩ := Sib.start (B := w.heap.size) (ov := .slice none 0 0) ⟨rfl, .inl ⟨rfl, rfl⟩⟩ d3 o3 hb2.size
  have hP3 := hP2.later d3
  have hK3 := hK2.later d3
  obtain ⟨C, hC⟩ : ∃ C, C = (w1.alloc (.map #[] 0)).heap.size := ⟨_, rfl⟩
  rw [← hC] at hsib
  rw [← unhide HN] at hsib ⊢
  obtain ⟨lb, hlb⟩ : ∃ b, b = w.heap.size := ⟨_, rfl⟩
  obtain ⟨kb, hkb⟩ : ∃ b, b = w1.heap.size := ⟨_, rfl⟩
  rw [← hlb] at hP3 hne
  rw [← hkb] at hK3 hne
  rw [← hlb, ← hkb]
  have HLB := hide (show w.heap.size ≤ lb ∧ w.heap.size ≤ kb by omega)
  clear hC H3 o3 d3 hb2 hP2 hK2 hmk hlb hkb
  go_wp2
  go_loopw [5, 9, 16] (fun ov _ i wr => ∃ (j : Nat) (us : List Value), j ≤ N ∧ i = .int .i64 j ∧ Below w.heap.size w wr ∧ Sib wr w.heap.size C (.slice A3 N c3) vs Z ov us (sift (avo zss) Z j) j ∧ PSet wr lb n zss ∧ PSet wr kb j (sift (avo zss) Z j)) (fun _ _ i _ => N - (intOf i).toNat)
  case atStart => exact ⟨0, us0, Nat.zero_le _, rfl, hb3, hsib, hP3, hK3⟩
  case round =>
    obtain ⟨j, us, hj, rfl, hb, hs, hP, hK⟩ := hrel
    clear hsib hb3 hP3 hK3
    have hle := sift_le (avo zss) Z j
    by_cases hlt : j < N
    · obtain ⟨ad, A6, c6, z, rfl, hz, hvz, hcell, hI⟩ := hs.row rfl hlt
      have hzp := unhide HPP j z hz
      have hstep := unhide HST j z hz
      obtain ⟨b1, hb1⟩ : ∃ b, decide (z ∈ zss) = b := ⟨_, rfl⟩
      obtain ⟨b2, hb2⟩ : ∃ b, lowIn (sift (avo zss) Z j) z = b := ⟨_, rfl⟩
      have H4 := hide (pshas_any lb n zss A6 z.length c6 _ z wr hP (hI.argP hzp) hzp)
      have H5 := hide (fun (w' : World) (d : Below wr.heap.size wr w') => pslow_any kb j (sift (avo zss) Z j) A6 z.length c6 _ z w' (hK.later d) ((hI.argP hzp).below d))
      have H6 := hide (fun (w' : World) (d : Below wr.heap.size wr w') => psadd_any kb j (sift (avo zss) Z j) A6 z.length c6 _ z w' (hK.later d) (by omega) ((hI.argP hzp).below d) hzp)
      rw [hb1] at H4
      rw [hb2] at H5
      rw [hb1, hb2] at hstep
      have HZ := hide (⟨hz, hvz⟩ : _ ∧ _)
      have HS := hide (fun (w' : World) (d : Below wr.heap.size wr w') => hs.below d)
      have HPK := hide (fun (w' : World) (d : Below wr.heap.size wr w') => (⟨hP.later d, hK.later d⟩ : PSet w' lb n zss ∧ PSet w' kb j (sift (avo zss) Z j)))
      have HB := hide hb
      have hcl := World.block_lt_of_cell? wr _ hcell
      obtain ⟨lz, hlz⟩ : ∃ l, l = z.length := ⟨_, rfl⟩
      rw [← hlz] at hcell H4 H5 H6 HZ
      clear hz hvz hzp hI hs hP hK hlz hb1 hb2
      cases b1 with
      | true =>
        have HE := hide (sift_no (g := avo zss) (unhide HZ).1 (by rw [hstep]; rfl))
        clear hstep H5 H6
        go_wp2_with fail
        refine (unhide H4).mono ?_
        rintro e w4 ⟨rfl, d4⟩
        have hb4 := below_after hb d4
        have hs4 := (unhide HS w4 d4).skip
        obtain ⟨hP4, hK4⟩ := unhide HPK w4 d4
        rw [← unhide HE] at hs4 hK4
        have HS4 := hide hs4
        have HK4 := hide (hK4.mono (Nat.le_succ j))
        clear H4 HS HPK d4 hcell hcl hb hs4 hK4
        go_wp2
        go_roundw
        case rel => exact ⟨j + 1, us, by omega, by go_num, hb4, unhide HS4, hP4, unhide HK4⟩
        case measure => simp [intOf]; omega
      | false =>
        cases b2 with
        | false =>
          have HE := hide (sift_no (g := avo zss) (unhide HZ).1 (by rw [hstep]; rfl))
          clear hstep H6
          go_wp2_with fail
          refine (unhide H4).mono ?_
          rintro e w4 ⟨rfl, d4⟩
          have H7 := hide (unhide H5 w4 d4)
          clear H4 H5
          go_wp2_with fail
          refine (unhide H7).mono ?_
          rintro e w5 ⟨rfl, d5⟩
          have d := below_after d4 d5
          have hb4 := below_after hb d
          have hs4 := (unhide HS w5 d).skip
          obtain ⟨hP4, hK4⟩ := unhide HPK w5 d
          rw [← unhide HE] at hs4 hK4
          have HS4 := hide hs4
          have HK4 := hide (hK4.mono (Nat.le_succ j))
          clear H7 HS HPK d4 d5 d hcell hcl hb hs4 hK4
          go_wp2
          go_roundw
          case rel => exact ⟨j + 1, us, by omega, by go_num, hb4, unhide HS4, hP4, unhide HK4⟩
          case measure => simp [intOf]; omega
        | true =>
          have HE := hide (sift_yes (g := avo zss) (unhide HZ).1 (by rw [hstep]; rfl))
          clear hstep
          go_wp2_with fail
          refine (unhide H4).mono ?_
          rintro e w4 ⟨rfl, d4⟩
          have H7 := hide (unhide H5 w4 d4)
          clear H4 H5
          go_wp2_with fail
          refine (unhide H7).mono ?_
          rintro e w5 ⟨rfl, d5⟩
          have d := below_after d4 d5
          have H8 := hide (unhide H6 w5 d)
          have hs5 := unhide HS w5 d
          obtain ⟨hP5, hK5⟩ := unhide HPK w5 d
          have hcell5 := (d.cell hcl).trans hcell
          have hb5 := below_after hb d
          clear H6 H7 HS HPK d4 d5 d hcell hcl hb
          go_wp2_with fail
          refine (unhide H8).mono ?_
          rintro e w6 ⟨rfl, hK6, hg6⟩
          have hs6 := hs5.set hK5 hg6
          have hP6 := hP5.kept hg6 (by simp; omega)
          have hb6 : Below w.heap.size w w6 := hb5.grown hg6 hb5.size (fun g hg => by injection hg with hg; have := unhide HLB; omega)
          have hsl : (sift (avo zss) Z j).length ≤ 1048576 := by omega
          clear H8 hs5 hP5 hK5 hcell5 hb5 hg6
          go_wp2_with (first
            | (at_builtin; refine wpList_sift_keep rfl (.tmp 32) (.tmp 34) rfl w.heap.size C w w6 (.slice (some ad) N c3) _ (.slice A6 lz c6) vs us Z (sift (avo zss) Z j) j z rfl rfl rfl hs6 (unhide HZ).2 (unhide HZ).1 hsl hb6 (Nat.le_refl _) ?_; intro v7 w7 hs7 hb7 hkt7))
          have hP7 := hkt7 _ _ _ hP6
          have hK7 := hkt7 _ _ _ hK6
          rw [← unhide HE] at hs7 hK7
          clear hs6 hb6 hP6 hK6 hkt7 hsl
          go_roundw
          case rel => exact ⟨j + 1, _, by omega, by go_num, hb7, hs7, hP7, hK7⟩
          case measure => simp [intOf]; omega
    · obtain rfl : N = j := by omega
      have hI := hs.outS
      have HI := hide hI
      clear hs hP hK hI
      go_wp2
      go_ret
      exact GivesSS.mk (unhide HI) hb
end Go.Proofs.YtoiipedomgefaaaGreatDoor


/-
  impl.BasisUpTo, by its contract.
-/

namespace Go.Proofs.YtoiipedomgefaaaGreatDoor
set_option maxRecDepth 100000
open Go.RowKit Go.Maps

theorem arg_nil (w : World) : Arg w 0 none 0 0 [] := ⟨Reads.none_, Nat.zero_le _, by omega, Nat.le_refl _, (fun z hz => by cases hz), fun _ => rfl⟩
set_option maxHeartbeats 1600000 in
theorem ibu1_any (kb m bx : Nat) (S : List (List Int)) (A : Option Addr) (n c B : Nat) (z : List Int) (w : World) (hx : w.cell? ⟨bx, 0, none⟩ = some (.map (some kb))) (hP : PSet w kb m S) (h : Arg w B A n c z) (hz : isP z = true) :
    Calls Tryz.prog 97 #[.slice A n c, .pointer (some ⟨bx, 0, none⟩)] w (GivesB w (decide (z ∈ S) || !lowIn S z)) := by
  have H1 := hide (pshas_any kb m S A n c B z w hP h hz)
  have H2 := hide (fun (w' : World) (d : Below w.heap.size w w') => pslow_any kb m S A n c B z w' (hP.later d) (h.below d))
  obtain ⟨b1, hb1⟩ : ∃ b, decide (z ∈ S) = b := ⟨_, rfl⟩
  obtain ⟨b2, hb2⟩ : ∃ b, lowIn S z = b := ⟨_, rfl⟩
  rw [hb1] at H1 ⊢
  rw [hb2] at H2 ⊢
  have hlt := World.block_lt_of_cell? w _ hx
  clear hP h hz hb1 hb2
  cases b1 with
  | true =>
    go_enter Tryz.func97, Tryz.ntmps97
    go_wp2_with fail
    refine (unhide H1).mono ?_
    rintro e w1 ⟨rfl, d1⟩
    clear H1 H2 hx
    go_wp2
    go_ret
    exact ⟨rfl, d1⟩
  | false =>
    go_enter Tryz.func97, Tryz.ntmps97
    go_wp2_with fail
    refine (unhide H1).mono ?_
    rintro e w1 ⟨rfl, d1⟩
    have hx1 := (d1.cell hlt).trans hx
    have H3 := hide (unhide H2 w1 d1)
    clear H1 H2 hx
    go_wp2_with fail
    refine (unhide H3).mono ?_
    rintro e w2 ⟨rfl, d2⟩
    have hb := below_after d1 d2
    clear H3 d1 d2 hx1
    cases b2 with
    | false =>
      go_wp2
      go_ret
      exact ⟨rfl, hb⟩
    | true =>
      go_wp2
      go_ret
      exact ⟨rfl, hb⟩
set_option maxHeartbeats 1600000 in
theorem ibu_any (A : Option Addr) (n c B : Nat) (zss : List (List Int)) (m : Int) (hm : -9223372036854775808 ≤ m ∧ m ≤ 9223372036854775807) (w : World) (hS : IntsS w B (.slice A n c) zss) (hn : n ≤ 1048576) (hsm : ∀ z ∈ zss, z.length ≤ 1048576 ∧ Small z) :
    Calls Tryz.prog 51 #[.slice A n c, .int .i64 m] w (GivesSS w (buR zss m)) := by
  obtain ⟨hm1, hm2⟩ := hm
  have H1 := hide (conNP_any A n c B zss (fun z => !isP z) w hS hn (hide fun w1 d A1 c1 z hz hI => inop_any A1 z.length c1 _ z w1 (hI.arg (hsm z hz).1 hI.cap (hsm z hz).2)))
  obtain ⟨b, hb⟩ : ∃ b, allP zss = b := ⟨_, rfl⟩
  have hany : zss.any (fun z => !isP z) = !b := by rw [← hb]; unfold allP; rw [List.not_all_eq_any_not]
  rw [hany] at H1
  cases b with
  | false =>
    rw [buR_no (fun h => by rw [hb] at h; cases h.1)]
    clear hS hsm hb hany
    go_enter Tryz.func51, Tryz.ntmps51
    go_wp2_with fail
    refine (unhide H1).mono ?_
    rintro e w1 ⟨rfl, d1⟩
    have hI := IntsS.nil w1 w.heap.size
    clear H1
    go_wp2
    go_ret
    exact GivesSS.mk hI d1
  | true =>
    by_cases hin : 0 ≤ m ∧ m ≤ 6
    · obtain ⟨k, rfl⟩ : ∃ k : Nat, m = (k : Int) := ⟨m.toNat, by omega⟩
      have hk6 : k ≤ 6 := by omega
      have hLP := fun z hz => allP_at hb (z := z) hz
      have H2 := hide (fun (w' : World) (d : Below w.heap.size w w') => psof_any A n c B zss w' (hS.below d) hn hLP)
      have HE := hide (show (allU k).filter (fun z => !outU zss z) = buR zss (k : Int) by rw [bu_all zss k hk6, buR_yes hb hk6])
      have H4 := hide (fun (w' : World) => iupto_any k hk6 w')
      have hlen := allU_len k hk6
      have HPP := hide (fun (z : List Int) (hz : z ∈ allU k) => ((mem_allU hk6).1 hz).1)
      have hpos : 0 < (allU k).length := List.length_pos_of_mem ((mem_allU hk6 (x := [])).2 ⟨by decide, by simp⟩)
      obtain ⟨Z, hZ⟩ : ∃ Z, Z = allU k := ⟨_, rfl⟩
      rw [← hZ] at HE H4 hlen HPP hpos
      have hk0 : ¬ (k : Int) < 0 := by omega
      have hk6' : ¬ (6 : Int) < (k : Int) := by omega
      clear hS hsm hin hm1 hm2 hZ hb hany hLP
      go_enter Tryz.func51, Tryz.ntmps51
      go_wp2_with fail
      refine (unhide H1).mono ?_
      rintro e w1 ⟨rfl, d1⟩
      have H5 := hide (unhide H2 w1 d1)
      clear H1 H2
      go_wp2_with fail
      refine (unhide H5).mono ?_
      rintro e w2 ⟨rfl, hP2, d2⟩
      have hb2 := below_after d1 d2
      have hlb := hP2.lt
      have hal : Below w2.heap.size w2 (w2.alloc (.cells #[.map (some w1.heap.size)] 85)) := (Below.refl _ w2).alloc (Nat.le_refl _) _
      have hc3 : Boxed (w2.alloc (.cells #[.map (some w1.heap.size)] 85)) w2.heap.size 85 (.map (some w1.heap.size)) := Boxed.new w2 _ _
      have hP3 := hP2.later hal
      have hb3 := below_after hb2 hal
      have H6 := hide (psadd_any w1.heap.size n zss none 0 0 0 [] _ hP3 hn (arg_nil _) (by decide))
      have hcell3 := hc3.cell
      have hlt1 := d1.size
      clear H5 hP2 hP3 d1 d2 hb2 hal
      go_wp2_with fail
      refine (unhide H6).mono ?_
      rintro e w4 ⟨rfl, hP4, hg4⟩
      have hb4 : Below w.heap.size w w4 := hb3.grown hg4 hb3.size (fun j e => by injection e with e; omega)
      have hc4 := (World.cell?_of_block (hg4.block w2.heap.size (by simp) (fun e => by injection e; omega))).trans hcell3
      have H7 := hide (unhide H4 w4)
      clear H4 H6 hc3 hb3 hcell3 hg4
      go_wp2_with fail
      refine (unhide H7).mono ?_
      rintro e w5 ⟨A5, c5, rfl, o5, d5⟩
      have hb5 := below_after hb4 d5
      have hlt4 := World.block_lt_of_cell? w4 _ hc4
      have hsz4 := hb4.size
      have hlt4' : w2.heap.size < w4.heap.size := hlt4
      have hc5 := (d5.cell hlt4).trans hc4
      have hP5 := hP4.later d5
      have hsz5 := d5.size
      have H8 := hide (delsBU_any w2.heap.size A5 Z.length c5 w4.heap.size Z (outU zss) w5 o5 (by omega) hpos (hide fun w6 g _ hg hgr A9 c9 z hz hI => by
        have hzp := unhide HPP z hz
        have hc6 : w6.cell? ⟨w2.heap.size, 0, none⟩ = some (.map (some w1.heap.size)) := (World.cell?_of_block (hgr.block w2.heap.size (by omega) (fun e => by injection e; omega))).trans hc5
        exact ibu1_any w1.heap.size (n + 1) w2.heap.size (zss ++ [[]]) A9 z.length c9 _ z w6 hc6 (hP5.kept hgr (fun e => by injection e; omega)) (hI.argP hzp) hzp))
      rw [unhide HE] at H8
      obtain ⟨R, hR⟩ : ∃ R, R = buR zss (k : Int) := ⟨_, rfl⟩
      rw [← hR] at H8
      have HR := hide hR
      clear H7 hb4 hP4 hP5 hc4 hc5 hlt4 o5 d5 hR hlen hpos
      go_wp2_with fail
      refine (unhide H8).mono ?_
      rintro e w7 ⟨A7, c7, rfl, o7, g, hg7, hgr7⟩
      have hb7 : Below w.heap.size w w7 := hb5.grown hgr7 hb5.size (fun j e => by injection e with e; omega)
      have HI := hide (show IntsS w7 w.heap.size (.slice A7 R.length c7) (buR zss (k : Int)) by rw [← unhide HR]; exact o7.low hsz4)
      clear H8 o7 hgr7 hb5
      go_wp2
      go_ret
      exact GivesSS.mk (unhide HI) hb7
    · rw [buR_no (fun h => hin h.2)]
      clear hS hsm hb hany
      have hcase : m < 0 ∨ (¬ m < 0 ∧ 6 < m) := by omega
      rcases hcase with h0 | ⟨h0, h6⟩
      · go_enter Tryz.func51, Tryz.ntmps51
        go_wp2_with fail
        refine (unhide H1).mono ?_
        rintro e w1 ⟨rfl, d1⟩
        have hI := IntsS.nil w1 w.heap.size
        clear H1
        go_wp2
        go_ret
        exact GivesSS.mk hI d1
      · go_enter Tryz.func51, Tryz.ntmps51
        go_wp2_with fail
        refine (unhide H1).mono ?_
        rintro e w1 ⟨rfl, d1⟩
        have hI := IntsS.nil w1 w.heap.size
        clear H1
        go_wp2
        go_ret
        exact GivesSS.mk hI d1
end Go.Proofs.YtoiipedomgefaaaGreatDoor


/-
  impl.UnionUpTo, by its contract (where the variable errNoBasis holds an error). (Written by wip/tools/mkmeeti.py.)
-/

namespace Go.Proofs.YtoiipedomgefaaaGreatDoor
set_option maxRecDepth 100000
open Go.RowKit

theorem own_zero {w : World} {B n : Nat} {e : TypeId} {v : Value} {xs : List Value} (h : w.ownsRow B e 1 v n xs) : w.ownsRow 0 e 1 v n xs := by
  refine ⟨h.1, ?_⟩
  rcases h.2 with h0 | ⟨g, cap, cur, hv, _, hr⟩
  · exact .inl h0
  · exact .inr ⟨g, cap, cur, hv, Nat.zero_le _, hr⟩
set_option maxHeartbeats 1600000 in
theorem iuni_any (A A' : Option Addr) (n c B n' c' B' : Nat) (a b : List (List Int)) (m : Int) (hm : -9223372036854775808 ≤ m ∧ m ≤ 9223372036854775807) (w : World) (hS : IntsS w B (.slice A n c) a) (hS' : IntsS w B' (.slice A' n' c') b) (hn : n ≤ 1048576) (hn' : n' ≤ 1048576) (hsm : ∀ z ∈ a, z.length ≤ 1048576 ∧ Small z) (hsm' : ∀ z ∈ b, z.length ≤ 1048576 ∧ Small z) (a0 : Addr) (hE : ErrAt a0 w) :
    Calls Tryz.prog 10 #[.slice A n c, .slice A' n' c', .int .i64 m] w (GivesSS w (uniR a b m)) := by
  have HEE := hide (fun (w2 : World) (d : Below w.heap.size w w2) => (show w2.cell? ⟨0, 0, none⟩ = some (.iface 155 (.pointer (some a0))) from hE.below d))
  have d1 := below_after ((Below.refl w.heap.size w).alloc (Nat.le_refl _) (.cells #[.slice A n c, .slice A' n' c'] 24)) (below_drew _ _)
  have HC := hide (icheck_any w.heap.size 2 [a, b] a0 _ ((ListsAt.two (t := 24) hS hn hsm hS' hn' hsm').below (below_drew _ _)) rfl (by omega) (hE.below d1))
  have hE0 := unhide HEE _ (below_drew _ w)
  have hE1 := unhide HEE _ d1
  have hE9 := unhide HEE _ (Below.refl _ w)
  clear hE
  obtain ⟨ba, hba⟩ : ∃ x, basis a = x := ⟨_, rfl⟩
  obtain ⟨bb, hbb⟩ : ∃ x, basis b = x := ⟨_, rfl⟩
  obtain ⟨ok, hok⟩ : ∃ ok, (ba && bb) = ok := ⟨_, rfl⟩
  rw [show [a, b].all basis = ok by rw [← hok, ← hba, ← hbb]; simp] at HC
  cases ok with
  | false =>
    have HR := hide (uniR_no (a := a) (b := b) (m := m) fun h => by rw [h.1] at hba; rw [h.2.1] at hbb; subst hba hbb; cases hok)
    rw [unhide HR]
    clear hS hS' hsm hsm' hba hbb hok
    go_enter Tryz.func10, Tryz.ntmps10
    go_wp2
    refine wp_region_held_drew (S := (fun wx => wx.cell? ⟨0, 0, none⟩ = some (.iface 155 (.pointer (some a0))))) (by kernel_rfl) ?_ (fun hHeld0 => ?_)
    · exact hE0
    refine wpAnyH_take (i := 0) (v := ?_) rfl (by kernel_rfl) (by kernel_rfl) (by kernel_rfl) (fun _ _ _ h => h) (Or.inl ⟨by rfl, ?_⟩) (by assumption) ?_
    rotate_left
    · intro w9 hSw
      (try dsimp only at hSw)
      go_simp
      all_goals with_reducible rfl
    simp only [Act.put, List.getElem_toArray, List.getElem_cons_zero, List.setIfInBounds_toArray, List.set_cons_zero, List.set_cons_succ]
    refine wpAnyH_take (i := 1) (v := ?_) rfl (by kernel_rfl) (by kernel_rfl) (by kernel_rfl) (fun _ _ _ h => h) (Or.inl ⟨by rfl, ?_⟩) (by assumption) ?_
    rotate_left
    · intro w9 hSw
      (try dsimp only at hSw)
      go_simp
      all_goals with_reducible rfl
    simp only [Act.put, List.getElem_toArray, List.getElem_cons_succ, List.getElem_cons_zero, List.setIfInBounds_toArray, List.set_cons_zero, List.set_cons_succ]
    refine wpAnyH_take (i := 4) (v := ?_) rfl (by kernel_rfl) (by kernel_rfl) (by kernel_rfl) (fun _ _ _ h => h) (Or.inl ⟨by rfl, ?_⟩) (by assumption) ?_
    rotate_left
    · intro w9 hSw
      (try dsimp only at hSw)
      go_simp
      all_goals with_reducible rfl
    simp only [Act.put, List.getElem_toArray, List.getElem_cons_succ, List.getElem_cons_zero, List.setIfInBounds_toArray, List.set_cons_zero, List.set_cons_succ]
    refine wpAnyH_ready (rs := [2]) (by kernel_rfl) (by simp) ?_
    refine AllReadyH.cons rfl (fun K hK => ?_) (AllReadyH.nil)
    go_simp
    refine hK.out _ _ ?_ (fun hHeld2 => ?_)
    · (try dsimp only)
      exact hE1
    clear hK K
    try simp only [Act.put, List.setIfInBounds_toArray, List.set_cons_zero, List.set_cons_succ]
    refine wpAnyH_ready (rs := [3]) (by kernel_rfl) (by simp) ?_
    refine AllReadyH.cons rfl (fun K hK => ?_) (AllReadyH.nil)
    go_simp
    go_at_call 41
    refine (unhide HC).mono ?_
    rintro e w4 ⟨rfl, d4⟩
    have hb4 := below_after d1 d4
    have hE4 := unhide HEE w4 hb4
    have H5 := hide (isSame_any a0 w4)
    clear HC d4
    refine hK.out _ _ ?_ (fun hHeld3 => ?_)
    · (try dsimp only)
      exact hE4
    clear hK K
    try simp only [Act.put, List.setIfInBounds_toArray, List.set_cons_zero, List.set_cons_succ]
    refine wpAnyH_ready (rs := [5]) (by kernel_rfl) (by simp) ?_
    refine AllReadyH.cons rfl (fun K hK => ?_) (AllReadyH.nil)
    go_simp
    go_at_call 40
    refine (unhide H5).mono ?_
    rintro e w5 ⟨rfl, hw5⟩
    replace hw5 := hw5.symm
    subst hw5
    refine hK.out _ _ ?_ (fun hHeld5 => ?_)
    · (try dsimp only)
      exact hE4
    clear hK K
    try simp only [Act.put, List.setIfInBounds_toArray, List.set_cons_zero, List.set_cons_succ]
    refine wpAnyH_take (i := 6) (v := ?_) rfl (by kernel_rfl) (by kernel_rfl) (by kernel_rfl) (fun _ _ _ h => h) (Or.inl ⟨by rfl, ?_⟩) (by assumption) ?_
    rotate_left
    · intro w9 hSw
      (try dsimp only at hSw)
      go_simp
      all_goals with_reducible rfl
    simp only [Act.put, List.getElem_toArray, List.getElem_cons_succ, List.getElem_cons_zero, List.setIfInBounds_toArray, List.set_cons_zero, List.set_cons_succ]
    refine wpAnyH_take (i := 7) (v := undef) rfl (by kernel_rfl) (by kernel_rfl) (by kernel_rfl) (fun _ _ _ h => h) (Or.inr ⟨by rfl, rfl⟩) (by assumption) ?_
    simp only [Act.put, List.getElem_toArray, List.getElem_cons_succ, List.getElem_cons_zero, List.setIfInBounds_toArray, List.set_cons_zero, List.set_cons_succ]
    refine wpAnyH_take (i := 8) (v := undef) rfl (by kernel_rfl) (by kernel_rfl) (by kernel_rfl) (fun _ _ _ h => h) (Or.inr ⟨by rfl, rfl⟩) (by assumption) ?_
    simp only [Act.put, List.getElem_toArray, List.getElem_cons_succ, List.getElem_cons_zero, List.setIfInBounds_toArray, List.set_cons_zero, List.set_cons_succ]
    refine wpAnyH_take (i := 9) (v := ?_) rfl (by kernel_rfl) (by kernel_rfl) (by kernel_rfl) (fun _ _ _ h => h) (Or.inl ⟨by rfl, ?_⟩) (by assumption) ?_
    rotate_left
    · intro w9 hSw
      (try dsimp only at hSw)
      go_simp
      all_goals with_reducible rfl
    simp only [Act.put, List.getElem_toArray, List.getElem_cons_succ, List.getElem_cons_zero, List.setIfInBounds_toArray, List.set_cons_zero, List.set_cons_succ]
    refine wpAnyH_take (i := 10) (v := ?_) rfl (by kernel_rfl) (by kernel_rfl) (by kernel_rfl) (fun _ _ _ h => h) (Or.inl ⟨by rfl, ?_⟩) (by assumption) ?_
    rotate_left
    · intro w9 hSw
      (try dsimp only at hSw)
      go_simp
      all_goals with_reducible rfl
    simp only [Act.put, List.getElem_toArray, List.getElem_cons_succ, List.getElem_cons_zero, List.setIfInBounds_toArray, List.set_cons_zero, List.set_cons_succ]
    refine wpAnyH_take (i := 11) (v := undef) rfl (by kernel_rfl) (by kernel_rfl) (by kernel_rfl) (fun _ _ _ h => h) (Or.inr ⟨by rfl, rfl⟩) (by assumption) ?_
    simp only [Act.put, List.getElem_toArray, List.getElem_cons_succ, List.getElem_cons_zero, List.setIfInBounds_toArray, List.set_cons_zero, List.set_cons_succ]
    refine wpAnyH_take (i := 12) (v := undef) rfl (by kernel_rfl) (by kernel_rfl) (by kernel_rfl) (fun _ _ _ h => h) (Or.inr ⟨by rfl, rfl⟩) (by assumption) ?_
    simp only [Act.put, List.getElem_toArray, List.getElem_cons_succ, List.getElem_cons_zero, List.setIfInBounds_toArray, List.set_cons_zero, List.set_cons_succ]
    refine wpAnyH_take (i := 13) (v := ?_) rfl (by kernel_rfl) (by kernel_rfl) (by kernel_rfl) (fun _ _ _ h => h) (Or.inl ⟨by rfl, ?_⟩) (by assumption) ?_
    rotate_left
    · intro w9 hSw
      (try dsimp only at hSw)
      go_simp
      all_goals with_reducible rfl
    simp only [Act.put, List.getElem_toArray, List.getElem_cons_succ, List.getElem_cons_zero, List.setIfInBounds_toArray, List.set_cons_zero, List.set_cons_succ]
    refine wpAnyH_done (by kernel_rfl) ?_ _
    clear hHeld0 hHeld2 hHeld3 hHeld5 hE0 hE1 hE9 hE4 HEE H5 d1
    go_wp2
    go_ret
    exact GivesSS.mk (IntsS.nil _ _) hb4
  | true =>
    rw [Bool.and_eq_true] at hok
    rw [hok.1] at hba
    rw [hok.2] at hbb
    clear hok
    obtain ⟨hm1, hm2⟩ := hm
    by_cases hlo : m < 0
    · have HR := hide (uniR_no (a := a) (b := b) (m := m) fun h => by omega)
      rw [unhide HR]
      clear hS hS' hsm hsm' hba hbb
      have hcl : decide (m < 0) = true := decide_eq_true hlo
      go_enter Tryz.func10, Tryz.ntmps10
      go_wp2
      refine wp_region_held_drew (S := (fun wx => wx.cell? ⟨0, 0, none⟩ = some (.iface 155 (.pointer (some a0))))) (by kernel_rfl) ?_ (fun hHeld0 => ?_)
      · exact hE0
      refine wpAnyH_take (i := 0) (v := ?_) rfl (by kernel_rfl) (by kernel_rfl) (by kernel_rfl) (fun _ _ _ h => h) (Or.inl ⟨by rfl, ?_⟩) (by assumption) ?_
      rotate_left
      · intro w9 hSw
        (try dsimp only at hSw)
        go_simp
        all_goals with_reducible rfl
      simp only [Act.put, List.getElem_toArray, List.getElem_cons_zero, List.setIfInBounds_toArray, List.set_cons_zero, List.set_cons_succ]
      refine wpAnyH_take (i := 1) (v := ?_) rfl (by kernel_rfl) (by kernel_rfl) (by kernel_rfl) (fun _ _ _ h => h) (Or.inl ⟨by rfl, ?_⟩) (by assumption) ?_
      rotate_left
      · intro w9 hSw
        (try dsimp only at hSw)
        go_simp
        all_goals with_reducible rfl
      simp only [Act.put, List.getElem_toArray, List.getElem_cons_succ, List.getElem_cons_zero, List.setIfInBounds_toArray, List.set_cons_zero, List.set_cons_succ]
      refine wpAnyH_take (i := 4) (v := ?_) rfl (by kernel_rfl) (by kernel_rfl) (by kernel_rfl) (fun _ _ _ h => h) (Or.inl ⟨by rfl, ?_⟩) (by assumption) ?_
      rotate_left
      · intro w9 hSw
        (try dsimp only at hSw)
        go_simp
        all_goals with_reducible rfl
      simp only [Act.put, List.getElem_toArray, List.getElem_cons_succ, List.getElem_cons_zero, List.setIfInBounds_toArray, List.set_cons_zero, List.set_cons_succ]
      refine wpAnyH_ready (rs := [2]) (by kernel_rfl) (by simp) ?_
      refine AllReadyH.cons rfl (fun K hK => ?_) (AllReadyH.nil)
      go_simp
      refine hK.out _ _ ?_ (fun hHeld2 => ?_)
      · (try dsimp only)
        exact hE1
      clear hK K
      try simp only [Act.put, List.setIfInBounds_toArray, List.set_cons_zero, List.set_cons_succ]
      refine wpAnyH_ready (rs := [3]) (by kernel_rfl) (by simp) ?_
      refine AllReadyH.cons rfl (fun K hK => ?_) (AllReadyH.nil)
      go_simp
      go_at_call 41
      refine (unhide HC).mono ?_
      rintro e w4 ⟨rfl, d4⟩
      have hb4 := below_after d1 d4
      have hE4 := unhide HEE w4 hb4
      have H5 := hide (isNil_any a0 w4)
      clear HC d4
      refine hK.out _ _ ?_ (fun hHeld3 => ?_)
      · (try dsimp only)
        exact hE4
      clear hK K
      try simp only [Act.put, List.setIfInBounds_toArray, List.set_cons_zero, List.set_cons_succ]
      refine wpAnyH_ready (rs := [5]) (by kernel_rfl) (by simp) ?_
      refine AllReadyH.cons rfl (fun K hK => ?_) (AllReadyH.nil)
      go_simp
      go_at_call 40
      refine (unhide H5).mono ?_
      rintro e w5 ⟨rfl, hw5⟩
      replace hw5 := hw5.symm
      subst hw5
      refine hK.out _ _ ?_ (fun hHeld5 => ?_)
      · (try dsimp only)
        exact hE4
      clear hK K
      try simp only [Act.put, List.setIfInBounds_toArray, List.set_cons_zero, List.set_cons_succ]
      refine wpAnyH_take (i := 6) (v := ?_) rfl (by kernel_rfl) (by kernel_rfl) (by kernel_rfl) (fun _ _ _ h => h) (Or.inl ⟨by rfl, ?_⟩) (by assumption) ?_
      rotate_left
      · intro w9 hSw
        (try dsimp only at hSw)
        go_simp
        all_goals with_reducible rfl
      simp only [Act.put, List.getElem_toArray, List.getElem_cons_succ, List.getElem_cons_zero, List.setIfInBounds_toArray, List.set_cons_zero, List.set_cons_succ]
      refine wpAnyH_take (i := 7) (v := ?_) rfl (by kernel_rfl) (by kernel_rfl) (by kernel_rfl) (fun _ _ _ h => h) (Or.inl ⟨by rfl, ?_⟩) (by assumption) ?_
      rotate_left
      · intro w9 hSw
        (try dsimp only at hSw)
        go_simp
        all_goals with_reducible rfl
      simp only [Act.put, List.getElem_toArray, List.getElem_cons_succ, List.getElem_cons_zero, List.setIfInBounds_toArray, List.set_cons_zero, List.set_cons_succ]
      refine wpAnyH_take (i := 8) (v := ?_) rfl (by kernel_rfl) (by kernel_rfl) (by kernel_rfl) (fun _ _ _ h => h) (Or.inl ⟨by rfl, ?_⟩) (by assumption) ?_
      rotate_left
      · intro w9 hSw
        (try dsimp only at hSw)
        go_simp
        all_goals with_reducible rfl
      simp only [Act.put, List.getElem_toArray, List.getElem_cons_succ, List.getElem_cons_zero, List.setIfInBounds_toArray, List.set_cons_zero, List.set_cons_succ]
      refine wpAnyH_take (i := 9) (v := ?_) rfl (by kernel_rfl) (by kernel_rfl) (by kernel_rfl) (fun _ _ _ h => h) (Or.inl ⟨by rfl, ?_⟩) (by assumption) ?_
      rotate_left
      · intro w9 hSw
        (try dsimp only at hSw)
        go_simp
        all_goals with_reducible rfl
      simp only [Act.put, List.getElem_toArray, List.getElem_cons_succ, List.getElem_cons_zero, List.setIfInBounds_toArray, List.set_cons_zero, List.set_cons_succ]
      refine wpAnyH_take (i := 10) (v := ?_) rfl (by kernel_rfl) (by kernel_rfl) (by kernel_rfl) (fun _ _ _ h => h) (Or.inl ⟨by rfl, ?_⟩) (by assumption) ?_
      rotate_left
      · intro w9 hSw
        (try dsimp only at hSw)
        go_simp
        all_goals with_reducible rfl
      simp only [Act.put, List.getElem_toArray, List.getElem_cons_succ, List.getElem_cons_zero, List.setIfInBounds_toArray, List.set_cons_zero, List.set_cons_succ]
      refine wpAnyH_take (i := 11) (v := undef) rfl (by kernel_rfl) (by kernel_rfl) (by kernel_rfl) (fun _ _ _ h => h) (Or.inr ⟨by rfl, rfl⟩) (by assumption) ?_
      simp only [Act.put, List.getElem_toArray, List.getElem_cons_succ, List.getElem_cons_zero, List.setIfInBounds_toArray, List.set_cons_zero, List.set_cons_succ]
      refine wpAnyH_take (i := 12) (v := undef) rfl (by kernel_rfl) (by kernel_rfl) (by kernel_rfl) (fun _ _ _ h => h) (Or.inr ⟨by rfl, rfl⟩) (by assumption) ?_
      simp only [Act.put, List.getElem_toArray, List.getElem_cons_succ, List.getElem_cons_zero, List.setIfInBounds_toArray, List.set_cons_zero, List.set_cons_succ]
      refine wpAnyH_take (i := 13) (v := ?_) rfl (by kernel_rfl) (by kernel_rfl) (by kernel_rfl) (fun _ _ _ h => h) (Or.inl ⟨by rfl, ?_⟩) (by assumption) ?_
      rotate_left
      · intro w9 hSw
        (try dsimp only at hSw)
        go_simp
        all_goals with_reducible rfl
      simp only [Act.put, List.getElem_toArray, List.getElem_cons_succ, List.getElem_cons_zero, List.setIfInBounds_toArray, List.set_cons_zero, List.set_cons_succ]
      refine wpAnyH_done (by kernel_rfl) ?_ _
      clear hHeld0 hHeld2 hHeld3 hHeld5 hE0 hE1 hE9 hE4 HEE H5 d1
      go_wp2
      go_ret
      exact GivesSS.mk (IntsS.nil _ _) hb4
    · by_cases hhi : 5 < m
      · have HR := hide (uniR_no (a := a) (b := b) (m := m) fun h => by omega)
        rw [unhide HR]
        clear hS hS' hsm hsm' hba hbb
        have hcl : decide (m < 0) = false := decide_eq_false hlo
        have hch : decide (5 < m) = true := decide_eq_true (by omega)
        go_enter Tryz.func10, Tryz.ntmps10
        go_wp2
        refine wp_region_held_drew (S := (fun wx => wx.cell? ⟨0, 0, none⟩ = some (.iface 155 (.pointer (some a0))))) (by kernel_rfl) ?_ (fun hHeld0 => ?_)
        · exact hE0
        refine wpAnyH_take (i := 0) (v := ?_) rfl (by kernel_rfl) (by kernel_rfl) (by kernel_rfl) (fun _ _ _ h => h) (Or.inl ⟨by rfl, ?_⟩) (by assumption) ?_
        rotate_left
        · intro w9 hSw
          (try dsimp only at hSw)
          go_simp
          all_goals with_reducible rfl
        simp only [Act.put, List.getElem_toArray, List.getElem_cons_zero, List.setIfInBounds_toArray, List.set_cons_zero, List.set_cons_succ]
        refine wpAnyH_take (i := 1) (v := ?_) rfl (by kernel_rfl) (by kernel_rfl) (by kernel_rfl) (fun _ _ _ h => h) (Or.inl ⟨by rfl, ?_⟩) (by assumption) ?_
        rotate_left
        · intro w9 hSw
          (try dsimp only at hSw)
          go_simp
          all_goals with_reducible rfl
        simp only [Act.put, List.getElem_toArray, List.getElem_cons_succ, List.getElem_cons_zero, List.setIfInBounds_toArray, List.set_cons_zero, List.set_cons_succ]
        refine wpAnyH_take (i := 4) (v := ?_) rfl (by kernel_rfl) (by kernel_rfl) (by kernel_rfl) (fun _ _ _ h => h) (Or.inl ⟨by rfl, ?_⟩) (by assumption) ?_
        rotate_left
        · intro w9 hSw
          (try dsimp only at hSw)
          go_simp
          all_goals with_reducible rfl
        simp only [Act.put, List.getElem_toArray, List.getElem_cons_succ, List.getElem_cons_zero, List.setIfInBounds_toArray, List.set_cons_zero, List.set_cons_succ]
        refine wpAnyH_ready (rs := [2]) (by kernel_rfl) (by simp) ?_
        refine AllReadyH.cons rfl (fun K hK => ?_) (AllReadyH.nil)
        go_simp
        refine hK.out _ _ ?_ (fun hHeld2 => ?_)
        · (try dsimp only)
          exact hE1
        clear hK K
        try simp only [Act.put, List.setIfInBounds_toArray, List.set_cons_zero, List.set_cons_succ]
        refine wpAnyH_ready (rs := [3]) (by kernel_rfl) (by simp) ?_
        refine AllReadyH.cons rfl (fun K hK => ?_) (AllReadyH.nil)
        go_simp
        go_at_call 41
        refine (unhide HC).mono ?_
        rintro e w4 ⟨rfl, d4⟩
        have hb4 := below_after d1 d4
        have hE4 := unhide HEE w4 hb4
        have H5 := hide (isNil_any a0 w4)
        clear HC d4
        refine hK.out _ _ ?_ (fun hHeld3 => ?_)
        · (try dsimp only)
          exact hE4
        clear hK K
        try simp only [Act.put, List.setIfInBounds_toArray, List.set_cons_zero, List.set_cons_succ]
        refine wpAnyH_ready (rs := [5]) (by kernel_rfl) (by simp) ?_
        refine AllReadyH.cons rfl (fun K hK => ?_) (AllReadyH.nil)
        go_simp
        go_at_call 40
        refine (unhide H5).mono ?_
        rintro e w5 ⟨rfl, hw5⟩
        replace hw5 := hw5.symm
        subst hw5
        refine hK.out _ _ ?_ (fun hHeld5 => ?_)
        · (try dsimp only)
          exact hE4
        clear hK K
        try simp only [Act.put, List.setIfInBounds_toArray, List.set_cons_zero, List.set_cons_succ]
        refine wpAnyH_take (i := 6) (v := ?_) rfl (by kernel_rfl) (by kernel_rfl) (by kernel_rfl) (fun _ _ _ h => h) (Or.inl ⟨by rfl, ?_⟩) (by assumption) ?_
        rotate_left
        · intro w9 hSw
          (try dsimp only at hSw)
          go_simp
          all_goals with_reducible rfl
        simp only [Act.put, List.getElem_toArray, List.getElem_cons_succ, List.getElem_cons_zero, List.setIfInBounds_toArray, List.set_cons_zero, List.set_cons_succ]
        refine wpAnyH_take (i := 7) (v := ?_) rfl (by kernel_rfl) (by kernel_rfl) (by kernel_rfl) (fun _ _ _ h => h) (Or.inl ⟨by rfl, ?_⟩) (by assumption) ?_
        rotate_left
        · intro w9 hSw
          (try dsimp only at hSw)
          go_simp
          all_goals with_reducible rfl
        simp only [Act.put, List.getElem_toArray, List.getElem_cons_succ, List.getElem_cons_zero, List.setIfInBounds_toArray, List.set_cons_zero, List.set_cons_succ]
        refine wpAnyH_take (i := 8) (v := ?_) rfl (by kernel_rfl) (by kernel_rfl) (by kernel_rfl) (fun _ _ _ h => h) (Or.inl ⟨by rfl, ?_⟩) (by assumption) ?_
        rotate_left
        · intro w9 hSw
          (try dsimp only at hSw)
          go_simp
          all_goals with_reducible rfl
        simp only [Act.put, List.getElem_toArray, List.getElem_cons_succ, List.getElem_cons_zero, List.setIfInBounds_toArray, List.set_cons_zero, List.set_cons_succ]
        refine wpAnyH_take (i := 9) (v := ?_) rfl (by kernel_rfl) (by kernel_rfl) (by kernel_rfl) (fun _ _ _ h => h) (Or.inl ⟨by rfl, ?_⟩) (by assumption) ?_
        rotate_left
        · intro w9 hSw
          (try dsimp only at hSw)
          go_simp
          all_goals with_reducible rfl
        simp only [Act.put, List.getElem_toArray, List.getElem_cons_succ, List.getElem_cons_zero, List.setIfInBounds_toArray, List.set_cons_zero, List.set_cons_succ]
        refine wpAnyH_take (i := 10) (v := ?_) rfl (by kernel_rfl) (by kernel_rfl) (by kernel_rfl) (fun _ _ _ h => h) (Or.inl ⟨by rfl, ?_⟩) (by assumption) ?_
        rotate_left
        · intro w9 hSw
          (try dsimp only at hSw)
          go_simp
          all_goals with_reducible rfl
        simp only [Act.put, List.getElem_toArray, List.getElem_cons_succ, List.getElem_cons_zero, List.setIfInBounds_toArray, List.set_cons_zero, List.set_cons_succ]
        refine wpAnyH_take (i := 11) (v := ?_) rfl (by kernel_rfl) (by kernel_rfl) (by kernel_rfl) (fun _ _ _ h => h) (Or.inl ⟨by rfl, ?_⟩) (by assumption) ?_
        rotate_left
        · intro w9 hSw
          (try dsimp only at hSw)
          go_simp
          all_goals with_reducible rfl
        simp only [Act.put, List.getElem_toArray, List.getElem_cons_succ, List.getElem_cons_zero, List.setIfInBounds_toArray, List.set_cons_zero, List.set_cons_succ]
        refine wpAnyH_take (i := 12) (v := ?_) rfl (by kernel_rfl) (by kernel_rfl) (by kernel_rfl) (fun _ _ _ h => h) (Or.inl ⟨by rfl, ?_⟩) (by assumption) ?_
        rotate_left
        · intro w9 hSw
          (try dsimp only at hSw)
          go_simp
          all_goals with_reducible rfl
        simp only [Act.put, List.getElem_toArray, List.getElem_cons_succ, List.getElem_cons_zero, List.setIfInBounds_toArray, List.set_cons_zero, List.set_cons_succ]
        refine wpAnyH_take (i := 13) (v := ?_) rfl (by kernel_rfl) (by kernel_rfl) (by kernel_rfl) (fun _ _ _ h => h) (Or.inl ⟨by rfl, ?_⟩) (by assumption) ?_
        rotate_left
        · intro w9 hSw
          (try dsimp only at hSw)
          go_simp
          all_goals with_reducible rfl
        simp only [Act.put, List.getElem_toArray, List.getElem_cons_succ, List.getElem_cons_zero, List.setIfInBounds_toArray, List.set_cons_zero, List.set_cons_succ]
        refine wpAnyH_done (by kernel_rfl) ?_ _
        clear hHeld0 hHeld2 hHeld3 hHeld5 hE0 hE1 hE9 hE4 HEE H5 d1
        go_wp2
        go_ret
        exact GivesSS.mk (IntsS.nil _ _) hb4
      · obtain ⟨k, rfl⟩ : ∃ k : Nat, m = (k : Int) := ⟨m.toNat, by omega⟩
        have hk5 : k ≤ 5 := by omega
        have HA := hide (fun (w4 : World) (d : Below w.heap.size w w4) => iclu_any A n c B k a w4 (hS.below d) hba (by omega))
        have HB := hide (fun (w4 : World) (d : Below w.heap.size w w4) => iclu_any A' n' c' B' k b w4 (hS'.below d) hbb (by omega))
        have HR := hide ((uniR_yes hba hbb hk5).trans (uni_join a b hk5).symm)
        have hla := clsU_len a (show k ≤ 6 by omega)
        have hlb := clsU_len b (show k ≤ 6 by omega)
        have HSM := hide (fun (z : List Int) (hz : z ∈ clsU a k ++ clsU b k) => (show z.length ≤ 1048576 ∧ Small z by
          have h1 : isP z = true := by
            rcases List.mem_append.1 hz with hz | hz
            · exact (clsU_mem (by omega) hz).1
            · exact (clsU_mem (by omega) hz).1
          exact ⟨by have := isP_le h1; omega, isP_small h1⟩))
        obtain ⟨X, hX⟩ : ∃ X, X = clsU a k := ⟨_, rfl⟩
        obtain ⟨Y, hY⟩ : ∃ Y, Y = clsU b k := ⟨_, rfl⟩
        rw [← hX] at HA HR hla HSM
        rw [← hY] at HB HR hlb HSM
        obtain ⟨nx, hnx⟩ : ∃ l, l = X.length := ⟨_, rfl⟩
        obtain ⟨ny, hny⟩ : ∃ l, l = Y.length := ⟨_, rfl⟩
        obtain ⟨N, hN⟩ : ∃ N, N = nx + ny := ⟨_, rfl⟩
        have hNl : N = (X ++ Y).length := by rw [List.length_append]; omega
        have HNX := hide (⟨hnx, hny, hN, hNl⟩ : _ ∧ _ ∧ _ ∧ _)
        rw [← hnx] at hla
        rw [← hny] at hlb
        have hN6 : N ≤ 1048576 := by omega
        clear hS hS' hba hbb hsm hsm' hm1 hm2 hX hY hnx hny hNl hN
        go_enter Tryz.func10, Tryz.ntmps10
        go_wp2
        go_region_held3 (fun wx => wx.cell? ⟨0, 0, none⟩ = some (.iface 155 (.pointer (some a0)))) (first | with_reducible exact hE9 | with_reducible exact hE0 | with_reducible exact hE1 | with_reducible exact hE4)
          (first
            | (go_simp; go_at_call 41; refine (unhide HC).mono ?_; rintro e w4 ⟨rfl, d4⟩; have hb4 := below_after d1 d4; have hE4 := unhide HEE w4 hb4; have H5 := hide (isNil_any a0 w4); clear HC d4)
            | (go_simp; go_at_call 40; refine (unhide H5).mono ?_; rintro e w5 ⟨rfl, hw5⟩; replace hw5 := hw5.symm; subst hw5))
        have H6 := hide (unhide HA w4 hb4)
        clear HA HEE hE0 hE1 hE9 hE4 H5 d1
        go_wp2_with fail
        refine (unhide H6).mono ?_
        rintro e w6 ⟨A6, c6, rfl, o6, d6⟩
        have hb6 := below_after hb4 d6
        have H7 := hide (unhide HB w6 hb6)
        rw [← (unhide HNX).1] at o6 ⊢
        clear H6 HB
        go_wp2_with fail
        refine (unhide H7).mono ?_
        rintro e w7 ⟨A7, c7, rfl, o7, d7⟩
        have hb7 := below_after hb6 d7
        rw [← (unhide HNX).2.1] at o7 ⊢
        obtain ⟨vs, v1, v2⟩ := o6
        obtain ⟨us, u1, u2⟩ := o7
        rw [← (unhide HNX).1] at v1
        rw [← (unhide HNX).2.1] at u1
        have dal := (Below.refl w7.heap.size w7).alloc (Nat.le_refl _) (.cells #[.slice A6 nx c6, .slice A7 ny c7] 24)
        have hb8 := below_after hb7 dal
        have HCON := hide (by
          have hW := Whole.new w7 24 #[.slice A6 nx c6, .slice A7 ny c7]
          have r1 : RowsOf w4.heap.size w7 A6 nx c6 vs := ⟨own_below v1 d7, v2.one⟩
          have r2 : RowsOf w6.heap.size w7 A7 ny c7 us := ⟨u1, u2.one⟩
          have h := concatS_any w7.heap.size A6 A7 nx c6 _ ny c7 _ vs us _ (hW.cell 0) (hW.cell 1) (r1.below dal) (r2.below dal) (by omega) (by omega)
          rw [← (unhide HNX).2.2.1] at h
          exact h : Calls Tryz.prog 43 #[.slice (some ⟨w7.heap.size, 0, none⟩) 2 2] (w7.alloc (.cells #[.slice A6 nx c6, .slice A7 ny c7] 24)) _)
        have HJ := hide ((v2.keepI (KeepI.of_below d7)).low (Nat.zero_le _))
        have HJ2 := hide (u2.low (Nat.zero_le _))
        have HAW := hide (fun (x : Value) (hx : x ∈ vs) (y : Value) (hy : y ∈ us) => (show Away x y by
          obtain ⟨z, hz⟩ := u2.mem hy
          exact v2.away_new hz.since (Nat.le_refl _) x hx))
        clear H7 v1 v2 u1 u2 d6 d7 hb4 hb6
        go_wp2_with fail
        refine (unhide HCON).mono ?_
        rintro e w9 ⟨A9, c9, rfl, o9, d9⟩
        have hb9 := below_after hb8 d9
        have dd9 := below_after dal d9
        have HIS : IntsS w9 0 (.slice A9 N c9) (X ++ Y) := ⟨vs ++ us, by rw [← (unhide HNX).2.2.2]; exact own_zero o9, ((unhide HJ).keepI (KeepI.of_below dd9)).join ((unhide HJ2).keepI (KeepI.of_below dd9)) (unhide HAW)⟩
        have H10 := hide (ibu_any A9 N c9 0 (X ++ Y) (k : Int) (by omega) w9 HIS hN6 (unhide HSM))
        clear HCON HIS o9 d9 dd9 dal hb7 hb8 HJ HJ2 HAW
        go_wp2_with fail
        refine (unhide H10).mono ?_
        rintro e w10 ⟨A10, c10, rfl, o10, d10⟩
        have HI := hide (o10.low hb9.size)
        have hb10 := below_after hb9 d10
        clear H10 o10 d10 hb9
        go_wp2
        go_ret
        rw [unhide HR]
        exact GivesSS.mk (unhide HI) hb10
end Go.Proofs.YtoiipedomgefaaaGreatDoor


/-
  WHAT THE VARIABLE errNoBasis GIVES THE WALKS where it is laid, and one world in which it is (for the witness).
-/

namespace Go.Proofs.YtoiipedomgefaaaGreatDoor
set_option maxRecDepth 100000
open Go.ChangeShapes Go.WideShapes Go.ChangeAt Go.RowKit

/-- A variable stands as it stood where nothing below the call's own blocks has turned. -/
theorem var_below {P : Program} {w w' : World} {n : String} {cs : Array Value} (h : w.var? P n = some cs) (hb : Below w.heap.size w w') : w'.var? P n = some cs := by
  unfold World.var? at h ⊢
  cases hg : P.globalNamed n with
  | none => simp [hg] at h
  | some g =>
    simp only [hg, Option.bind_some] at h ⊢
    have hlt : g < w.heap.size := by
      rcases Nat.lt_or_ge g w.heap.size with hl | hl
      · exact hl
      · rw [Array.getElem?_eq_none hl] at h; cases h
    rw [hb.block g hlt]
    exact h
/-- The last step of a law whose row hands on a variable that holds an error. -/
theorem law_endE {H : Type} {enc : TypeId × Value → H} {P : Program} {f : Func} {s : ChangeSpec} {W W' : World} {args : Array Value} {ds gs : List (DataW H)} {before : List MemPlace} {tb ti : TypeId} {n : String} {g : Nat} {ms : Array (String × TypeId)} {x : Value}
    (hl : laidOutB P = true) (hts : ∀ t ∈ f.params.toList, P.readableRec t = true ∧ t < P.types.size) (hb4 : P.underlying tb = some .bool) (hrt : f.resultTypes = #[tb]) (hv : s.vars = [n])
    (hW : DataW.Whole enc P f.params.toList s.vars false W args.toList ds gs before)
    (hg : P.globalNamed n = some g) (ht : (P.globals[g]?).map (·.type) = some ti) (hi : P.underlying ti = some (.interface ms)) (h : W.var? P n = some #[x]) (ix : IsIface x)
    (hfn : s.fn H (ds ++ gs) = { results := [.lit (.bool true)], args := ds, vars := gs }) (hbel : Below W.heap.size W W') :
    s.post enc P f false true false false W args (.bool true) W' := by
  have hlt : ∀ x ∈ before, x.block < W.heap.size := fun x hx => by simpa using hW.lt x hx
  have hW' := hW
  obtain ⟨p, q, hA, hV, rfl, _, _⟩ := hW
  rw [hv] at hV
  obtain ⟨rfl, rfl⟩ := hV.unique (vars_read1 enc hg ht hi h ix _)
  have hargs := trodAll_below hl hbel _ _ _ _ hts (fun x hx => hlt x (by simp [hx])) hA
  refine ⟨ds, _, _, [] ++ [], p, [.cell g 0], hW', ?_, ?_, ?_, hbel.frame _, fun h => by cases h⟩
  · rw [hfn, hrt]; exact trodAll_mk1 (shut_bool hb4 _)
  · rw [hfn]; exact hargs
  · rw [hfn, hv]; exact vars_read1 enc hg ht hi (var_below h hbel) ix _

theorem gErr : Tryz.prog.globalNamed "loop.example/g03101/impl.errNoBasis" = some 0 := by kernel_rfl
theorem gErrType : (Tryz.prog.globals[0]?).map (·.type) = some 53 := by kernel_rfl
theorem starText : "*" ++ "errors.errorString" = "*errors.errorString" := by decide
theorem rowErr (u : TypeId) (h : Tryz.prog.typeName? 3 u = some "*errors.errorString") : u = 155 :=
  typeName_ptr_named (nm := "errors.errorString") (by rw [starText]; kernel_rfl) (by kernel_rfl) (by decide) u (by rw [starText]; exact h)
theorem cellsErr : Tryz.prog.cellsOf 180 = 1 := by kernel_rfl
theorem cellsStr : Tryz.prog.cellsOf 9 = 1 := by kernel_rfl
theorem err_of_laid {W : World} {r : List (String × DataW Unit)} (h : laidMet Tryz.prog (("loop.example/g03101/impl.errNoBasis", Rows.laid_loop_example_g03101_impl_errNoBasis) :: r) W) : ∃ a, W.var? Tryz.prog "loop.example/g03101/impl.errNoBasis" = some #[.iface 155 (.pointer (some a))] ∧ ErrAt a W := by
  obtain ⟨a, s, hv, _⟩ := laid_sentinel h gErr gErrType Tryz.underlying53 rowErr Tryz.underlying155 Tryz.underlying180 rfl rfl Tryz.underlying9 cellsErr cellsStr
  exact ⟨a, hv, by unfold ErrAt; simpa using World.var?_cell gErr hv 0⟩
def onCells (cs : Array Value) : Obj → Obj
  | .cells _ t frozen => .cells cs t frozen
  | o => o
def errText : ByteArray := { data := #[97, 32, 108, 105, 115, 116, 32, 105, 115, 32, 110, 111, 32, 98, 97, 115, 105, 115] }
noncomputable def low : Nat := (World.holding Tryz.prog default ⟨#[], #[], []⟩).heap.size
/-- THE WORLD FOR THE WITNESS: the settled one, the variable as its initialiser lays it. -/
noncomputable def laidWorldE (os : Os) : World :=
  let w0 := World.holding Tryz.prog os ⟨#[.cells #[.string errText] 180], #[], []⟩
  { w0 with heap := w0.heap.modify 0 (onCells #[.iface 155 (.pointer (some ⟨low, 0, none⟩))]) }
end Go.Proofs.YtoiipedomgefaaaGreatDoor
