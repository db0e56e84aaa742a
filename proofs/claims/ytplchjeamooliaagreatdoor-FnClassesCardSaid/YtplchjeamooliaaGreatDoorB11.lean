/-
  Words and contracts that the laws lean on, bundled: Split, ClaF, PSet, PatsI, LowI, PSetI, SiftM, ClaC, IJoin.
-/
import Derived.Test.YtplchjeamooliaaGreatDoorB10
import Derived.Test.YtplchjeamooliaaGreatDoorShelfS
import Derived.Test.YtplchjeamooliaaGreatDoorB9
import Derived.Maps.OwnSet
import Derived.Maps.Views
import Derived.Test.YtplchjeamooliaaGreatDoorB7
import Derived.Test.YtplchjeamooliaaGreatDoorB3
import Derived.Test.YtplchjeamooliaaGreatDoorB2
import Derived.Deep.RegionHeld3
import Derived.Test.YtplchjeamooliaaGreatDoorB5
import Derived.Test.YtplchjeamooliaaGreatDoorB6
import Derived.Test.YtplchjeamooliaaGreatDoorB1
import Derived.Test.YtplchjeamooliaaGreatDoorShelfJ
import Derived.Lib.Join

/-
  impl.SplitByte, by its contract (the given side: SplitG).
-/

namespace Go.Proofs.YtplchjeamooliaaGreatDoor
set_option maxRecDepth 100000
open Go.RowKit

theorem isplit_any (s : ByteArray) (hs : s.size ≤ 1048576) (b : Int) (m : Int) (w : World) (hm : w.cell? ⟨0, 0, none⟩ = some (.int .i64 m)) :
    Calls Tryz.prog 33 #[.string s, .int .u8 b] w (GivesStrs w (pieces s (byteOf b))) := by
  have hcv := cv_one (P := Tryz.prog) Tryz.underlying22 Tryz.underlying5 Tryz.underlying9 w b
  have H := hide (Any.strings_Split { Tryz.laysM146 with } Tryz.laysM146.i9 s ⟨#[byteOf b]⟩ m (w.alloc (.cells #[.int .u8 b] 5)) (by omega) (by
    rw [World.cell?_alloc_lt]
    · exact hm
    · exact World.block_lt_of_cell? w _ hm) (Nat.le_refl 1))
  rw [splitB_pieces] at H
  clear hm
  go_enter Tryz.func33, Tryz.ntmps33
  go_wp2_with fail
  refine (unhide H).mono ?_
  rintro e w' ⟨rfl, rfl⟩
  clear H hcv
  go_wp2
  go_ret
  have hl := pieces_length s (byteOf b)
  refine ⟨_, rfl, ?_, ?_⟩
  · refine ⟨by simp, .inr ⟨w.heap.size + 1, Lib.countB s ⟨#[byteOf b]⟩ + 1, ((pieces s (byteOf b)).map Value.string).toArray, ?_, by omega, ?_, by omega, ?_, ?_, ?_⟩⟩
    · rw [hl]; simp
    · have h := heap_alloc_new (w.alloc (.cells #[.int .u8 b] 5)) (.cells ((pieces s (byteOf b)).map Value.string).toArray 9)
      rw [show w.heap.size + 1 = (w.alloc (.cells #[.int .u8 b] 5)).heap.size by simp]
      exact h
    · have := pieces_le s (byteOf b); unfold maxLen; omega
    · simp [hl]
    · rw [hl, Nat.mul_one]; exact List.take_of_length_le (by rw [List.length_map, hl]; exact Nat.le_refl _)
  · exact ((Below.refl _ _).alloc (Nat.le_refl _) _).alloc (by simp) _

end Go.Proofs.YtplchjeamooliaaGreatDoor


/-
  impl.ParseBasis, by its contract (where the variable MaxLen stands).
-/

namespace Go.Proofs.YtplchjeamooliaaGreatDoor
set_option maxRecDepth 100000
open Go.RowKit

theorem tail_len (c : UInt8) : ∀ r : List (List UInt8), r.length ≤ (Lib.joinTail [c] r).length
  | [] => Nat.zero_le _
  | x :: r => by
    have ih := tail_len c r
    unfold Lib.joinTail at ih ⊢
    simp only [List.map_cons, List.flatten_cons, List.length_append, List.length_cons, List.length_nil]
    omega
theorem ppOK_some {s : ByteArray} (h : ppOK s = true) : 1 ≤ s.size := by
  unfold ppOK at h
  simp only [Bool.or_eq_true, Bool.and_eq_true, decide_eq_true_eq] at h
  rcases h with h | h
  · rw [h]; decide
  · omega
/-- No more parts than bytes, where none is empty. -/
theorem pieces_few {s : ByteArray} {c : UInt8} (h : (pieces s c).all ppOK = true) : (pieces s c).length ≤ s.size := by
  have hj := congrArg List.length (join_pieces s c)
  rw [size_list'] at hj
  cases hp : pieces s c with
  | nil => exact Nat.zero_le _
  | cons x r =>
    rw [hp] at hj h
    rw [List.map_cons, Lib.join_cons, List.length_append] at hj
    have h1 := tail_len c (r.map (·.data.toList))
    have h2 := ppOK_some (List.all_eq_true.1 h x (by simp))
    have h3 := size_list' x
    rw [List.length_map] at h1
    rw [List.length_cons]
    omega
set_option maxHeartbeats 1600000 in
theorem ipb_any (s : ByteArray) (hs : s.size ≤ 1048576) (m : Int) (w : World) (hm : w.cell? ⟨0, 0, none⟩ = some (.int .i64 m)) :
    Calls Tryz.prog 8 #[.string s] w (GivesSSB w (pbR s) (pbOK s)) := by
  by_cases h0 : s.size = 0
  · rw [pbR_none h0, pbOK_none h0]
    have he := empty_list h0
    have hI := IntsS.nil w w.heap.size
    have hb := Below.refl w.heap.size w
    clear hs h0 hm
    go_enter Tryz.func8, Tryz.ntmps8
    go_wp2
    go_ret2
    exact GivesSSB.mk true hI hb
  · have he := nonempty_list h0
    have H1 := hide (isplit_any s hs 32 m w hm)
    have HP := hide (⟨pieces_le s (byteOf 32), fun p (hp : p ∈ pieces s (byteOf 32)) => (pieces_parts hp).2⟩ : (pieces s (byteOf 32)).length ≤ s.size + 1 ∧ ∀ p ∈ pieces s (byteOf 32), p.size ≤ s.size)
    obtain ⟨P, hP⟩ : ∃ P, P = pieces s (byteOf 32) := ⟨_, rfl⟩
    have HNO := hide (fun (h : (P.all ppOK && basis (P.map ppR)) = false) => pb_no h0 hP h)
    have HFEW := hide (fun (h : P.all ppOK = true) => (show P.length ≤ s.size by rw [hP] at h ⊢; exact pieces_few h))
    have HYES := hide (fun (h : (P.all ppOK && basis (P.map ppR)) = true) => pb_yes h0 hP h)
    rw [← hP] at H1 HP
    obtain ⟨N, hN⟩ : ∃ N, N = P.length := ⟨_, rfl⟩
    rw [← hN] at HP
    have hN1 : N ≤ 1048577 := by have := (unhide HP).1; omega
    have HN := hide hN
    have HZ := hide hs
    clear h0 hP hs hm
    go_enter Tryz.func8, Tryz.ntmps8
    go_wp2_with fail
    refine (unhide H1).mono ?_
    rintro e w2 ⟨v2, rfl, o2, d2⟩
    rw [← hN] at o2
    obtain ⟨A2, c2, rfl, _⟩ := Reads.of_own o2
    have hI2 := IntsS.nil w2 w.heap.size
    obtain ⟨B2, hB2⟩ : ∃ b, b = w.heap.size := ⟨_, rfl⟩
    have o3 := o2
    rw [← hB2] at o3
    clear H1 hN hB2 o2
    go_wp2
    go_loopw [4, 6, 7, 8, 14] (fun ov _ _ _ kv wr => ∃ k : Nat, k ≤ N ∧ kv = .int .i64 k ∧ Below w.heap.size w wr ∧ IntsS wr w.heap.size ov ((P.take k).map ppR) ∧ wr.ownsRow B2 9 1 (.slice A2 N c2) N (P.map Value.string) ∧ Hid ((P.take k).all ppOK = true)) (fun _ _ _ _ kv _ => N - (intOf kv).toNat)
    case atStart => exact ⟨0, Nat.zero_le _, rfl, d2, hI2, o3, by exact (by simp : (P.take 0).all ppOK = true)⟩
    case round =>
      obtain ⟨k, hk, rfl, hb, hI, ho, hall⟩ := hrel
      clear d2 hI2 o3
      by_cases hlt : k < N
      · obtain ⟨ad, u, rfl, _, hu, hc⟩ := (Reads.of_own_at ho).at_ hlt
        obtain ⟨p, hp, rfl⟩ := strs_at hu
        have hps : p.size ≤ 1048576 := by have h1 := (unhide HP).2 p (List.mem_of_getElem? hp); have h2 := unhide HZ; omega
        obtain ⟨b, hbb⟩ : ∃ b, ppOK p = b := ⟨_, rfl⟩
        have H3 := hide (ipp_any p hps b hbb wr)
        have HPP := hide (⟨hp, hbb⟩ : P[k]? = some p ∧ ppOK p = b)
        have hml : ((P.take k).map ppR).length = k := by rw [List.length_map, List.length_take, ← unhide HN]; omega
        have hsz := hb.size
        clear hu hp hps hbb
        go_wp2_with fail
        refine (unhide H3).mono ?_
        rintro e w3 ⟨A3, c3, rfl, o3, d3⟩
        have hb3 := below_after hb d3
        clear H3
        cases b with
        | false =>
          obtain ⟨e1, e2⟩ := unhide HNO (by rw [all_no (unhide HPP).1 (unhide HPP).2]; rfl)
          have hst3 := IntsS.nil w3 w.heap.size
          clear hI ho hb hml d3 o3 hc
          go_wp2
          go_ret2
          rw [e1, e2]; exact GivesSSB.mk false hst3 hb3
        | true =>
          have ho3 := own_below ho d3
          have HA := hide (all_take (unhide HPP).1 (unhide HPP).2 (unhide hall))
          have HM := hide (map_takeX (unhide HPP).1)
          have hlen : ((P.take k).map ppR).length ≤ 1048576 := by rw [hml]; omega
          clear ho hc hml
          go_wp2_with (first
            | (at_builtin; refine wpList_push_row_keep rfl (.tmp 25) (.tmp 27) rfl w.heap.size w wr w3 _ _ ((P.take k).map ppR) (ppR p) rfl rfl rfl hI d3 o3 hlen hb3 hsz ?_; intro v4 w4 hI4 hb4 hk4))
          have ho4 := own_keepStr ho3 hk4
          rw [← unhide HM] at hI4
          clear hI hb ho3 hk4 hb3 o3 d3 hlen
          go_wp2
          go_roundw
          case rel => exact ⟨k + 1, by omega, by go_num, hb4, hI4, ho4, HA⟩
          case measure => simp [intOf]; omega
      · obtain rfl : k = N := by omega
        have ht : P.take k = P := List.take_of_length_le (by rw [← unhide HN]; exact Nat.le_refl _)
        rw [ht] at hI hall
        obtain ⟨Ao, co, rfl⟩ := hI.slice
        have hml : (P.map ppR).length = k := by rw [List.length_map, ← unhide HN]
        rw [hml] at hI ⊢
        obtain ⟨b, hbb⟩ : ∃ b, basis (P.map ppR) = b := ⟨_, rfl⟩
        have hk1 : k ≤ 1048576 := by have h1 := unhide HFEW (unhide hall); have h2 := unhide HZ; rw [← unhide HN] at h1; omega
        have H5 := hide (by have h5 := ibas_any Ao k co w.heap.size (P.map ppR) wr hI hk1 (fun z hz => by obtain ⟨q, _, rfl⟩ := List.mem_map.1 hz; exact ⟨Nat.le_trans (ppR_le q) (by omega), ppR_smallX q⟩); rw [hbb] at h5; exact h5)
        have hE : (P.all ppOK && basis (P.map ppR)) = b := by rw [unhide hall, hbb]; rfl
        have HE := hide hE
        clear hml ht hE hbb ho
        go_wp2_with fail
        refine (unhide H5).mono ?_
        rintro e w6 ⟨rfl, d6⟩
        have hb6 := below_after hb d6
        have hI6 := hI.below d6
        clear H5 hI hb d6
        cases b with
        | false =>
          obtain ⟨e1, e2⟩ := unhide HNO (unhide HE)
          have hst3 := IntsS.nil w6 w.heap.size
          go_wp2
          go_ret2
          rw [e1, e2]; exact GivesSSB.mk false hst3 hb6
        | true =>
          obtain ⟨e1, e2⟩ := unhide HYES (unhide HE)
          go_wp2
          go_ret2
          rw [e1, e2]; exact GivesSSB.mk true hI6 hb6
end Go.Proofs.YtplchjeamooliaaGreatDoor


/-
  Maps whose keys are the texts of permutations: what such a map holds, a look-up, a store.
-/

namespace Go.Proofs.YtplchjeamooliaaGreatDoor
set_option maxRecDepth 100000
open Go.RowKit Go.Maps

theorem strLawT : Keyed Tryz.prog 9 := string_keyed Tryz.underlying9
theorem boolZeroT (w : World) : (zeroValue 4).run Tryz.prog w = .ok (.bool false) w := by kernel_rfl
theorem ptext_max (p : List Int) : (ptext p).size ≤ maxLen := by have := ptext_size p; unfold maxLen; omega
theorem keyT (p : List Int) : keyOf Tryz.prog 9 (.string (ptext p)) = some (.string (ptext p).data.toList) := WideMaps.keyOf_string_mk Tryz.underlying9 (ptext_max p)
theorem keyT_inj {p q : List Int} (hp : isP p = true) (hq : isP q = true) (h : Lit.string (ptext p).data.toList = Lit.string (ptext q).data.toList) : p = q := by
  refine ptext_inj hp hq ?_
  injection h with h
  have h1 : (ptext p).data = (ptext q).data := Array.toList_inj.1 h
  cases h2 : ptext p; cases h3 : ptext q
  rw [h2, h3] at h1
  simp only at h1
  rw [h1]
/-- Block b is a map of at most m entries; of the permutations it has the texts of just those in S. -/
def PSet (w : World) (b m : Nat) (S : List (List Int)) : Prop :=
  ∃ D : DataW Unit, w.ownsMap Tryz.prog 9 (plainElem Tryz.prog 4) b m D ∧
    ∀ p, isP p = true → D.atKey (.string (ptext p).data.toList) (.lit (.bool false)) = .lit (.bool (decide (p ∈ S)))
section
variable {w w' : World} {b m : Nat} {S R : List (List Int)}
theorem PSet.lt (h : PSet w b m S) : b < w.heap.size := by
  obtain ⟨D, h, _⟩ := h
  exact h.lt
theorem PSet.kept {row : Option Nat} (h : PSet w b m S) (hg : w.grownBy w' row) (hne : some b ≠ row) : PSet w' b m S := by
  obtain ⟨D, h1, h2⟩ := h
  exact ⟨D, h1.kept hg hne, h2⟩
theorem PSet.later (h : PSet w b m S) (hb : Below w.heap.size w w') : PSet w' b m S := h.kept (grown_of_below hb none) (by simp)
theorem PSet.drew (h : PSet w b m S) : PSet w.drew b m S := h
theorem PSet.alloc (h : PSet w b m S) (o : Obj) : PSet (w.alloc o) b m S := h.kept (World.grownBy_alloc w o none) (by simp)
theorem PSet.mem (h : PSet w b m S) (hS : ∀ p, isP p = true → (p ∈ S ↔ p ∈ R)) : PSet w b m R := by
  obtain ⟨D, h1, h2⟩ := h
  refine ⟨D, h1, fun p hp => ?_⟩
  rw [h2 p hp]
  have : decide (p ∈ S) = decide (p ∈ R) := by rw [decide_eq_decide]; exact hS p hp
  rw [this]
theorem PSet.mono (h : PSet w b m S) {m' : Nat} (hm : m ≤ m') : PSet w b m' S := by
  obtain ⟨D, h1, h2⟩ := h
  exact ⟨D, h1.mono hm, h2⟩
theorem PSet.new (w : World) : PSet (w.alloc (.map #[] 0)) w.heap.size 0 [] := by
  refine ⟨.map [], World.ownsMap_made w _ _ _, fun p _ => ?_⟩
  rw [atKey_of_not_has (by rfl)]
  simp
theorem bool_invT {v : Value} {c : Bool} {ps : List MemPlace} (h : plainElem (H := Unit) Tryz.prog 4 v = some (.lit (.bool c), ps)) : v = .bool c := by
  unfold plainElem at h
  rw [Tryz.underlying4] at h
  cases v <;> simp at h
  rw [h.1]
theorem PSet.lookup (h : PSet w b m S) {p : List Int} (hp : isP p = true) :
    (Instr.lookup 63 (.map (some b)) (.string (ptext p)) false).run Tryz.prog w = .ok (.bool (decide (p ∈ S))) w := by
  obtain ⟨D, h1, h2⟩ := h
  obtain ⟨v, ps, hrun, hv⟩ := h1.lookup strLawT Tryz.underlying63 (boolZeroT w) (plainElem_bool Tryz.underlying4 false) (keyT p)
  rw [h2 p hp] at hv
  rw [hrun, bool_invT hv]
theorem PSet.store (h : PSet w b m S) (hm : m < maxLen) {p : List Int} (hp : isP p = true) :
    ∃ w', (Instr.mapUpdate 63 (.map (some b)) (.string (ptext p)) (.bool true)).run Tryz.prog w = .ok () w' ∧ PSet w' b (m + 1) (S ++ [p]) ∧ w.grownBy w' (some b) := by
  obtain ⟨D, h1, h2⟩ := h
  obtain ⟨w', hrun, ho, hg⟩ := h1.update strLawT Tryz.underlying63 hm (keyT p) (plainElem_bool Tryz.underlying4 true)
  refine ⟨w', hrun, ⟨_, ho, fun q hq => ?_⟩, hg⟩
  by_cases e : q = p
  · subst e
    rw [atKey_put_same h1.isMap (strLawT.key (keyT q))]
    simp
  · rw [atKey_put_other (fun h3 => e (keyT_inj hq hp h3)), h2 q hq]
    have : decide (q ∈ S) = decide (q ∈ S ++ [p]) := by
      rw [decide_eq_decide, List.mem_append, List.mem_singleton]
      exact ⟨.inl, fun h => h.elim id (fun h => absurd h e)⟩
    rw [this]
/-- The map alone has turned: lists are as they were. -/
theorem PSet.keepI (h : PSet w b m S) (hg : w.grownBy w' (some b)) : KeepI w w' :=
  ⟨hg.os, hg.tape, hg.output, hg.size, fun i cur e fr hi _ => hg.block i (Array.getElem?_eq_some_iff.1 hi).1 (fun e2 => by
    obtain ⟨D, ⟨es, clock, hb, _⟩, _⟩ := h
    injection e2 with e2
    subst e2
    rw [hi] at hb
    cases hb)⟩
theorem PSet.own (h : PSet w b m S) (hg : w.grownBy w' (some b)) {B n : Nat} {e : TypeId} {v : Value} {xs : List Value} (ho : w.ownsRow B e 1 v n xs) : w'.ownsRow B e 1 v n xs := by
  refine ho.kept hg ?_
  rcases ho.2 with ⟨rfl, _⟩ | ⟨g, cap, cur, rfl, _, hgg, _⟩
  · exact .inl rfl
  · refine .inr fun e2 => ?_
    obtain ⟨D, ⟨es, clock, hb, _⟩, _⟩ := h
    simp [Value.ownBlock] at e2
    subst e2
    rw [hgg] at hb
    cases hb
theorem PSet.rows (h : PSet w b m S) (hg : w.grownBy w' (some b)) {B : Nat} {v : Value} {zss : List (List Int)} (ho : IntsS w B v zss) : IntsS w' B v zss := by
  obtain ⟨vs, h1, h2⟩ := ho
  exact ⟨vs, h.own hg h1, h2.keepI (h.keepI hg)⟩
end
end Go.Proofs.YtplchjeamooliaaGreatDoor


/-
  impl.PatternsIn: the patterns of all choices, in order.
-/

namespace Go.Proofs.YtplchjeamooliaaGreatDoor
set_option maxRecDepth 100000
open Go.RowKit Go.Shelf
attribute [local go_sem] Oper.semAt_some

/-- 'list = append(list, row)' as a step of a region inside a fence: row was made since world w0. -/
theorem opIn_push_row {F : Fence} {nF : Nat} {o : Oper} {a : Act} {W : World} {K : Act → World → Prop} {Q : Exit → Act → World → Prop} (sl x : Operand)
    (ho : o.op = .call { callee := .builtin .append, args := #[sl, x], argTypes := #[24, 24] })
    (base : Nat) (w0 wr : World) (v u : Value) (zss : List (List Int)) (zs : List Int) (hs : a.eval sl = v) (hx : a.eval x = .slice (some ⟨wr.heap.size, 0, none⟩) 1 1) (hW : W = wr.alloc (.cells #[u] 27))
    (hS : IntsS w0 base v zss) (hb0 : Below w0.heap.size w0 wr) (hu : Ints wr w0.heap.size u zs) (hn : zss.length ≤ 1048576) (hbase : base ≤ w0.heap.size)
    (hK : ∀ v' w', IntsS w' base v' (zss ++ [zs]) → Below base wr w' → K (a.put o.dst v') w') : o.wpIn F nF Tryz.prog a W K Q := by
  obtain ⟨i0, hi, hz0, hz1, hz2⟩ := info_parts rowsInfo
  obtain ⟨vs, hown, hin⟩ := hS
  have hown1 := own_below hown hb0
  have hal := (Below.refl wr.heap.size wr).alloc (Nat.le_refl _) (.cells #[u] 27)
  have hown2 := own_below hown1 hal
  obtain ⟨A1, c1, rfl⟩ := hu.slice
  subst hW
  obtain ⟨v', w', hrun, h1, h2, _, _⟩ := run_append_own_at (P := Tryz.prog) (wr.alloc (.cells #[.slice A1 zs.length c1] 27)) base 24 o.type 27 i0 (.slice none 0 0) 1 24 Tryz.underlying24 hi hz0 hz1 hz2 rfl (by decide) v _ _ hown2 ⟨wr.heap.size, 0, none⟩ 1 1 [.slice A1 zs.length c1] rfl
    (by
      intro j u hj
      match j, hj with
      | 0, hj => simp at hj; subst hj; simp [Addr.add])
    (by
      intro y hy
      obtain rfl := List.mem_singleton.1 hy
      rfl) (by unfold maxLen; omega) (by omega) (by simp; have := hb0.size; omega)
  have hk := (KeepI.of_below hal).trans (KeepI.of_grown hown2 h2)
  have hfin := hK v' w' ⟨vs ++ [.slice A1 zs.length c1], by rw [List.length_append]; exact h1, ((hin.keepI (KeepI.of_below hb0)).keepI hk).push ((hu.low hbase).keepI hk) (hin.away_new hu.since (Nat.le_refl _))⟩
    (((Below.refl base wr).alloc (Nat.le_trans hbase hb0.size) _).grown h2 (by simp; have := hb0.size; omega) (fun k hk => (hown.lt k hk).1))
  unfold Oper.wpIn
  refine ⟨by simp [Oper.about, ho, resolve, Target.leads, Sem.run_pure], ?_⟩
  rw [Oper.semAt_plain F _ _ (by rw [ho]; intro c hc'; cases hc')]
  simp [execOp, ho, resolve, invoke, builtin, hs, hx, hrun, Result.andThen]
  exact hfin

set_option maxRecDepth 100000 in
set_option maxHeartbeats 4000000 in
theorem pats_yes (A : Option Addr) (n c B kk : Nat) (p : List Int) (w : World) (h : Arg w B A n c p) (hp : isP p = true) (hkn : kk ≤ n) :
    Calls Tryz.prog 108 #[.slice A n c, .int .i64 kk] w (GivesSS w (patsR p kk)) := by
  have hn8 : n ≤ 8 := by have := isP_le hp; have := h.len; omega
  have hBu := h.under
  have hlp := h.len
  have hb0 : Below w.heap.size w (w.alloc (.cells #[.slice A n c] 27)) := (Below.refl _ w).alloc (Nat.le_refl _) _
  have hc0 : Boxed (w.alloc (.cells #[.slice A n c] 27)) w.heap.size 27 (.slice A n c) := Boxed.new w _ _
  have hcell0 := hc0.cell
  have H1 := hide (iisperm_any A n c B p true hp _ (h.below hb0).reads (h.below hb0).under h.le h.small)
  have HC := hide (fun w' => icho_any n kk w')
  have hk0 : ¬ ((kk : Int) < 0) := by omega
  have hk1 : ¬ ((n : Int) < (kk : Int)) := by omega
  have hd0 : decide ((kk : Int) < 0) = false := decide_eq_false hk0
  have hd2 : decide (n < kk) = false := decide_eq_false (by omega)
  have HH := hide h
  have HPATS := hide (pats_ordR hp (show kk ≤ p.length by omega))
  have HP := hide hp
  refine (callsIn_wide (n := 4)).1 ?_
  refine callsIn_of_wp_marks Tryz.func108 rfl trivial ?_ rfl
  simp only [Tryz.ntmps108, List.size_toArray, List.length_cons, List.length_nil, Nat.reduceAdd, Nat.reduceSub, Array.replicate_succ, Array.replicate_zero, List.push_toArray, List.append_toArray, List.nil_append, List.cons_append]
  clear h hp hlp
  gi_wp2_with fail
  refine ⟨trivial, ?_⟩
  refine (callsIn_wide.2 (unhide H1)).mono ?_
  rintro e w1 ⟨rfl, d1⟩
  have hc1 := boxed_later hc0 d1
  have hcell1 := hc1.cell
  have d1' := below_after hb0 d1
  clear H1 hcell0
  obtain ⟨w2, hw2⟩ : ∃ w2, w2 = w1.alloc (.cells #[.slice none 0 0] 24) := ⟨_, rfl⟩
  have hcell2 : (w1.alloc (.cells #[.slice none 0 0] 24)).cell? ⟨w.heap.size, 0, none⟩ = some (.slice A n c) := Boxed.cell (Boxed.alloc hc1 _)
  have HW2 := hide hw2
  clear hw2
  gi_wp2_with fail
  refine ⟨trivial, ?_⟩
  rw [← unhide HW2]
  refine (callsIn_wide.2 (unhide HC w2)).mono ?_
  rintro e w3 ⟨rfl, hw3⟩
  have hs2 : w2.heap.size = w1.heap.size + 1 := by rw [unhide HW2]; simp
  have hs3 : w3.heap.size = w2.heap.size + 2 := by rw [hw3]; simp
  have d12 : Below w1.heap.size w1 w2 := by rw [unhide HW2]; exact (Below.refl _ w1).alloc (Nat.le_refl _) _
  have d23 : Below w2.heap.size w2 w3 := by rw [hw3]; exact ((Below.refl _ w2).alloc (Nat.le_refl _) _).alloc (by simp) _
  have hbl2 : Boxed w2 w1.heap.size 24 (.slice none 0 0) := by rw [unhide HW2]; exact Boxed.new w1 _ _
  have hbl3 := boxed_later hbl2 d23
  have hcp3 := boxed_later (boxed_later hc1 d12) d23
  have dw3 := below_after d1' (below_after d12 d23)
  have hbn : Boxed w3 w2.heap.size 3 (.int .i64 n) := by rw [hw3]; exact Boxed.alloc (Boxed.new w2 _ _) _
  have hbk : Boxed w3 (w2.heap.size + 1) 3 (.int .i64 kk) := by
    have := Boxed.new (w2.alloc (.cells #[.int .i64 n] 3)) 3 (.int .i64 kk)
    rw [World.size_alloc] at this
    rw [hw3]; exact this
  have hseq := choices_tell n kk 256 w2.heap.size (w2.heap.size + 1) hn8 (by omega) (chR_room hn8 (by omega)) 3 w3 hbn hbk
  obtain ⟨b, hb⟩ : ∃ b, b = w1.heap.size := ⟨_, rfl⟩
  rw [← hb] at hs2 hbl3 ⊢
  have hwb : w.heap.size < b := by have h1 := d1.size; rw [World.size_alloc] at h1; omega
  have HS := hide (⟨hs2, hs3⟩ : w2.heap.size = b + 1 ∧ w3.heap.size = w2.heap.size + 2)
  clear HC HW2 hcell1 hcell2 d1 d1' d12 d23 hw3 hbl2 hc1 hbn hbk hb hb0 hc0 hs2 hs3
  gi_wp2
  obtain ⟨hs2, hs3⟩ := unhide HS
  refine range_zone rfl (by decide) (gf := 141) (lb := #[.pointer (some ⟨w2.heap.size + 1, 0, none⟩), .pointer (some ⟨w2.heap.size, 0, none⟩)]) rfl trivial (enters_of Tryz.func141 (by kernel_rfl) rfl)
    hseq (fun h k => ⟨Nat.le_trans h.1 k.1, k.2.trans h.2⟩) (fun W r r' hd => ⟨by unfold World.putObj; simp, World.putObj_heap_other (by omega)⟩) (fun _ => rfl) (fun U V x r r' hdU hdV h => ⟨h.1.kept (World.putObj_heap_other (by omega)), h.2⟩)
    (fun pre V => (∃ v, Boxed V b 24 v ∧ IntsS V (b + 6) v (pre.map (patA p))) ∧ Boxed V w.heap.size 27 (.slice A n c) ∧ Below w.heap.size w V ∧ b < V.heap.size)
    (fun _ _ _ => False)
    (fun pre U V h hb' => by
      obtain ⟨⟨v, h1, h2⟩, h3, h4, h5⟩ := h
      exact ⟨⟨v, Boxed.but h1 hb' (by omega), h2.but hb' (by omega)⟩, Boxed.but h3 hb' (by omega), h4.trans (hb'.below (by omega) (by omega)), Nat.lt_of_lt_of_le h5 hb'.size⟩)
    (fun _ _ _ _ h _ => h)
    ⟨⟨_, hbl3, IntsS.nil _ _⟩, hcp3, dw3, by omega⟩
    (fun _ => { tmps := #[.slice A n c, .int .i64 kk, .pointer (some ⟨w.heap.size, 0, none⟩), undef, .slice none 0 0, .pointer (some ⟨b, 0, none⟩), .slice (some ⟨w3.heap.size + 2, 0, none⟩) kk kk, .slice A n c, .bool true, .bool false, .bool false, .int .i64 kk, .bool false, .bool false, .bool false,
      .int .i64 kk, .slice A n c, .int .i64 n, .bool false, .bool false, .slice A n c, .int .i64 n, .int .i64 kk, .func (.func 141) #[] #[.pointer (some ⟨w2.heap.size + 1, 0, none⟩), .pointer (some ⟨w2.heap.size, 0, none⟩)],
      .slice (some ⟨w3.heap.size + 2, 0, none⟩) kk kk, undef, undef, undef, undef, undef, undef, undef, undef], defers := [] }) ?assign ?body ?done ?stop
  case assign =>
    intro l x W K' hK'
    clear hs3 hs2
    gi_wp2
    exact hK'
  case body =>
    rintro l2 pre pl U V ⟨⟨v, hcU, hSU⟩, hcpU, hBU, hbU0⟩ hzU hbU ⟨hbuf, hpl, hok⟩ hlen
    obtain ⟨g, hg⟩ : ∃ g, g = w3.heap.size + 2 := ⟨_, rfl⟩
    rw [← hg] at hbuf ⊢
    have hp := unhide HP
    have hpa := (unhide HH).below (below_after (⟨rfl, rfl, rfl, Nat.le_refl _, fun _ _ => rfl⟩ : Below w.heap.size w w) hBU)
    have e1 := hpa.len
    have hpaV := ((unhide HH).below (hBU.trans (hbU.mono (by have := hBU.size; omega)))).below (below_drew _ V)
    have hsm : Small pl := fun z hz => by have := hok.1 z hz; omega
    have hApl := ((hpl ▸ hbuf.ints : Ints V g (.slice (some ⟨g, 0, none⟩) kk kk) pl).arg (by omega) (Nat.le_refl _) hsm).drew
    have hokp : PlOK p.length pl := e1.symm ▸ hok
    have H1 := hide (ipatat_any A (some ⟨g, 0, none⟩) n c B kk kk _ p pl hp hokp V.drew hpaV hApl)
    have hmx : Tryz.prog.follows .mixedOrders = true := by kernel_rfl
    obtain ⟨zss, hz⟩ : ∃ zss, zss = pre.map (patA p) := ⟨_, rfl⟩
    have hzl : zss.length < 256 := by rw [hz, List.length_map]; exact hlen
    rw [← hz] at hSU
    obtain ⟨Av, cv, rfl⟩ := hSU.slice
    have HZ := hide hz
    have hc : Boxed V b 24 (.slice Av zss.length cv) := boxed_later hcU hbU
    have hcp := boxed_later hcpU hbU
    have hcell : V.drew.cell? ⟨b, 0, none⟩ = some (.slice Av zss.length cv) := hc.cell
    have hcellp : V.drew.cell? ⟨w.heap.size, 0, none⟩ = some (.slice A n c) := hcp.cell
    have hSD : IntsS V.drew (b + 6) (.slice Av zss.length cv) zss := (hSU.below hbU).below (below_drew _ V)
    have hbs := hbU.size
    have hzV : b + 6 ≤ V.drew.heap.size := by show b + 6 ≤ V.heap.size; omega
    have HCB := hide (show ∀ w4, Below V.drew.heap.size V.drew w4 → Boxed w4 b 24 (.slice Av zss.length cv) from fun w4 h => boxed_later (show Boxed V.drew b _ _ from hc) h)
    have HEND := hide (show ∀ (A9 : Option Addr) (c9 : Nat) (w' : World), IntsS w' (b + 6) (.slice A9 (zss.length + 1) c9) (zss ++ [patA p pl]) → Below (b + 6) V w' → (∀ r, Desk w3.heap.size r V → Desk w3.heap.size r (w'.setCell ⟨b, 0, none⟩ (.slice A9 (zss.length + 1) c9))) ∧ (V.heap.size ≤ (w'.setCell ⟨b, 0, none⟩ (.slice A9 (zss.length + 1) c9)).heap.size ∧ (w'.setCell ⟨b, 0, none⟩ (.slice A9 (zss.length + 1) c9)).heap[g]? = V.heap[g]?) ∧
        ((∃ v, Boxed (w'.setCell ⟨b, 0, none⟩ (.slice A9 (zss.length + 1) c9)) b 24 v ∧ IntsS (w'.setCell ⟨b, 0, none⟩ (.slice A9 (zss.length + 1) c9)) (b + 6) v ((pre ++ [pl]).map (patA p))) ∧ Boxed (w'.setCell ⟨b, 0, none⟩ (.slice A9 (zss.length + 1) c9)) w.heap.size 27 (.slice A n c) ∧ Below w.heap.size w (w'.setCell ⟨b, 0, none⟩ (.slice A9 (zss.length + 1) c9)) ∧ b < (w'.setCell ⟨b, 0, none⟩ (.slice A9 (zss.length + 1) c9)).heap.size) from fun A9 c9 w' h1 h2 => by
      have hgr := grownBy_setCell' w' b (.slice A9 (zss.length + 1) c9)
      have hsz := h2.size
      have hsz2 := hgr.size
      have hblk : ∀ k, k < V.heap.size → k < b + 6 → k ≠ b → (w'.setCell ⟨b, 0, none⟩ (.slice A9 (zss.length + 1) c9)).heap[k]? = V.heap[k]? := fun k h3 h4 h5 => (hgr.block k (by omega) (by simp; omega)).trans (h2.block k h4)
      refine ⟨fun r hd => ⟨(hblk _ hd.lt (by omega) (by omega)).trans hd.rec_, (hblk _ (by have := hd.lt; omega) (by omega) (by omega)).trans hd.marks⟩, ⟨by omega, hblk g (by omega) (by omega) (by omega)⟩, ⟨_, Boxed.set _ ((h2.block b (by omega)).trans hc), ?_⟩, (hblk _ (Boxed.lt hcp) (by omega) (by omega)).trans hcp, ?_, by omega⟩
      · rw [List.map_append, ← unhide HZ]
        exact intsS_stored h1 (by omega) _
      · exact ((hBU.trans (hbU.mono (by omega))).trans (h2.mono (by omega))).setCell (p := ⟨b, 0, none⟩) (by show w.heap.size ≤ b; omega) _)
    have HG := hide (⟨hg, hs2, hs3⟩ : g = w3.heap.size + 2 ∧ w2.heap.size = b + 1 ∧ w3.heap.size = w2.heap.size + 2)
    clear hseq hz hc hcp hcU hcpU hSU hBU hApl hpa hpaV hbuf hg hs2 hs3 hpl hlen
    gi_wp2_with fail
    refine region_round l2 rfl (by kernel_rfl) hmx ?_
    change wpAnyIn _ _ _ _ _ _ _ _ _ (World.drew _)
--REGION-PATS
    refine wpAnyIn_take (i := 2) (v := .slice (some ⟨g, 0, none⟩) kk kk) rfl rfl (by kernel_rfl) (by kernel_rfl) (by kernel_rfl) (fun _ _ _ h => h) ⟨Or.inl ⟨by rfl, fun w => by go_simp⟩, fun _ => rfl⟩ ?_
    simp only [Act.put]
    refine wpAnyIn_ready (rs := [0, 1]) (by kernel_rfl) (by simp) ?_
    refine AllReadyIn.cons rfl (fun K hK => ?_) (AllReadyIn.cons rfl (fun K hK => ?_) (AllReadyIn.nil))
    · skip
      go_simp
      refine hK _ _ ?_
      clear hK K
      refine wpAnyIn_ready (rs := [1]) (by kernel_rfl) (by simp) ?_
      refine AllReadyIn.cons rfl (fun K hK => ?_) (AllReadyIn.nil)
      go_simp
      refine hK _ _ ?_
      clear hK K
      refine wpAnyIn_ready (rs := [3]) (by kernel_rfl) (by simp) ?_
      refine AllReadyIn.cons rfl (fun K hK => ?_) (AllReadyIn.nil)
      go_simp
      refine ⟨trivial, ?_⟩
      refine (callsIn_wide.2 (unhide H1)).mono ?_
      rintro e w4 ⟨A4, c4, rfl, o4, d4⟩
      have hb4 := unhide HCB w4 d4
      have hcell4 := hb4.cell
      have hcell4a := (Boxed.alloc hb4 (.cells #[.slice A4 (patA p pl).length c4] 27)).cell
      refine hK _ _ ?_
      clear hK K
      refine wpAnyIn_ready (rs := [4]) (by kernel_rfl) (by simp) ?_
      refine AllReadyIn.cons rfl (fun K hK => ?_) (AllReadyIn.nil)
      go_simp
      refine hK _ _ ?_
      clear hK K
      refine wpAnyIn_ready (rs := [5]) (by kernel_rfl) (by simp) ?_
      refine AllReadyIn.cons rfl (fun K hK => ?_) (AllReadyIn.nil)
      rw [if_pos (by rfl)]
      refine opIn_push_row (.tmp 25) (.tmp 29) rfl (b + 6) V.drew w4 (.slice Av zss.length cv) (.slice A4 (patA p pl).length c4) zss (patA p pl) rfl rfl rfl hSD d4 o4 (by omega) hzV ?_
      intro v' w' hS' hb'
      obtain ⟨A9, c9, rfl⟩ := hS'.slice
      rw [List.length_append, List.length_singleton] at hS'
      have hb9 : Boxed w' b 24 (.slice Av zss.length cv) := (hb'.block b (by omega)).trans hb4
      have hcell9 := hb9.cell
      have hfz9 := hb9.frozen
      have hend := unhide HEND A9 c9 w' hS' (((below_drew (b + 6) V).trans (d4.mono hzV)).trans hb')
      have HEN := hide hend
      refine hK _ _ ?_
      clear hK K hend
      refine wpAnyIn_ready (rs := [6]) (by kernel_rfl) (by simp) ?_
      refine AllReadyIn.cons rfl (fun K hK => ?_) (AllReadyIn.nil)
      go_simp
      refine hK _ _ ?_
      clear hK K
      refine wpAnyIn_done (by kernel_rfl) ?_ _
      gi_wp2
      exact unhide HEN
    · skip
      go_simp
      refine hK _ _ ?_
      clear hK K
      refine wpAnyIn_ready (rs := [0, 3]) (by kernel_rfl) (by simp) ?_
      refine AllReadyIn.cons rfl (fun K hK => ?_) (AllReadyIn.cons rfl (fun K hK => ?_) (AllReadyIn.nil))
      · skip
        go_simp
        refine hK _ _ ?_
        clear hK K
        refine wpAnyIn_ready (rs := [3]) (by kernel_rfl) (by simp) ?_
        refine AllReadyIn.cons rfl (fun K hK => ?_) (AllReadyIn.nil)
        go_simp
        refine ⟨trivial, ?_⟩
        refine (callsIn_wide.2 (unhide H1)).mono ?_
        rintro e w4 ⟨A4, c4, rfl, o4, d4⟩
        have hb4 := unhide HCB w4 d4
        have hcell4 := hb4.cell
        have hcell4a := (Boxed.alloc hb4 (.cells #[.slice A4 (patA p pl).length c4] 27)).cell
        refine hK _ _ ?_
        clear hK K
        refine wpAnyIn_ready (rs := [4]) (by kernel_rfl) (by simp) ?_
        refine AllReadyIn.cons rfl (fun K hK => ?_) (AllReadyIn.nil)
        go_simp
        refine hK _ _ ?_
        clear hK K
        refine wpAnyIn_ready (rs := [5]) (by kernel_rfl) (by simp) ?_
        refine AllReadyIn.cons rfl (fun K hK => ?_) (AllReadyIn.nil)
        rw [if_pos (by rfl)]
        refine opIn_push_row (.tmp 25) (.tmp 29) rfl (b + 6) V.drew w4 (.slice Av zss.length cv) (.slice A4 (patA p pl).length c4) zss (patA p pl) rfl rfl rfl hSD d4 o4 (by omega) hzV ?_
        intro v' w' hS' hb'
        obtain ⟨A9, c9, rfl⟩ := hS'.slice
        rw [List.length_append, List.length_singleton] at hS'
        have hb9 : Boxed w' b 24 (.slice Av zss.length cv) := (hb'.block b (by omega)).trans hb4
        have hcell9 := hb9.cell
        have hfz9 := hb9.frozen
        have hend := unhide HEND A9 c9 w' hS' (((below_drew (b + 6) V).trans (d4.mono hzV)).trans hb')
        have HEN := hide hend
        refine hK _ _ ?_
        clear hK K hend
        refine wpAnyIn_ready (rs := [6]) (by kernel_rfl) (by simp) ?_
        refine AllReadyIn.cons rfl (fun K hK => ?_) (AllReadyIn.nil)
        go_simp
        refine hK _ _ ?_
        clear hK K
        refine wpAnyIn_done (by kernel_rfl) ?_ _
        gi_wp2
        exact unhide HEN
      · skip
        go_simp
        refine ⟨trivial, ?_⟩
        refine (callsIn_wide.2 (unhide H1)).mono ?_
        rintro e w4 ⟨A4, c4, rfl, o4, d4⟩
        have hb4 := unhide HCB w4 d4
        have hcell4 := hb4.cell
        have hcell4a := (Boxed.alloc hb4 (.cells #[.slice A4 (patA p pl).length c4] 27)).cell
        refine hK _ _ ?_
        clear hK K
        refine wpAnyIn_ready (rs := [0, 4]) (by kernel_rfl) (by simp) ?_
        refine AllReadyIn.cons rfl (fun K hK => ?_) (AllReadyIn.cons rfl (fun K hK => ?_) (AllReadyIn.nil))
        · skip
          go_simp
          refine hK _ _ ?_
          clear hK K
          refine wpAnyIn_ready (rs := [4]) (by kernel_rfl) (by simp) ?_
          refine AllReadyIn.cons rfl (fun K hK => ?_) (AllReadyIn.nil)
          go_simp
          refine hK _ _ ?_
          clear hK K
          refine wpAnyIn_ready (rs := [5]) (by kernel_rfl) (by simp) ?_
          refine AllReadyIn.cons rfl (fun K hK => ?_) (AllReadyIn.nil)
          rw [if_pos (by rfl)]
          refine opIn_push_row (.tmp 25) (.tmp 29) rfl (b + 6) V.drew w4 (.slice Av zss.length cv) (.slice A4 (patA p pl).length c4) zss (patA p pl) rfl rfl rfl hSD d4 o4 (by omega) hzV ?_
          intro v' w' hS' hb'
          obtain ⟨A9, c9, rfl⟩ := hS'.slice
          rw [List.length_append, List.length_singleton] at hS'
          have hb9 : Boxed w' b 24 (.slice Av zss.length cv) := (hb'.block b (by omega)).trans hb4
          have hcell9 := hb9.cell
          have hfz9 := hb9.frozen
          have hend := unhide HEND A9 c9 w' hS' (((below_drew (b + 6) V).trans (d4.mono hzV)).trans hb')
          have HEN := hide hend
          refine hK _ _ ?_
          clear hK K hend
          refine wpAnyIn_ready (rs := [6]) (by kernel_rfl) (by simp) ?_
          refine AllReadyIn.cons rfl (fun K hK => ?_) (AllReadyIn.nil)
          go_simp
          refine hK _ _ ?_
          clear hK K
          refine wpAnyIn_done (by kernel_rfl) ?_ _
          gi_wp2
          exact unhide HEN
        · skip
          go_simp
          refine hK _ _ ?_
          clear hK K
          refine wpAnyIn_ready (rs := [0]) (by kernel_rfl) (by simp) ?_
          refine AllReadyIn.cons rfl (fun K hK => ?_) (AllReadyIn.nil)
          go_simp
          refine hK _ _ ?_
          clear hK K
          refine wpAnyIn_ready (rs := [5]) (by kernel_rfl) (by simp) ?_
          refine AllReadyIn.cons rfl (fun K hK => ?_) (AllReadyIn.nil)
          rw [if_pos (by rfl)]
          refine opIn_push_row (.tmp 25) (.tmp 29) rfl (b + 6) V.drew w4 (.slice Av zss.length cv) (.slice A4 (patA p pl).length c4) zss (patA p pl) rfl rfl rfl hSD d4 o4 (by omega) hzV ?_
          intro v' w' hS' hb'
          obtain ⟨A9, c9, rfl⟩ := hS'.slice
          rw [List.length_append, List.length_singleton] at hS'
          have hb9 : Boxed w' b 24 (.slice Av zss.length cv) := (hb'.block b (by omega)).trans hb4
          have hcell9 := hb9.cell
          have hfz9 := hb9.frozen
          have hend := unhide HEND A9 c9 w' hS' (((below_drew (b + 6) V).trans (d4.mono hzV)).trans hb')
          have HEN := hide hend
          refine hK _ _ ?_
          clear hK K hend
          refine wpAnyIn_ready (rs := [6]) (by kernel_rfl) (by simp) ?_
          refine AllReadyIn.cons rfl (fun K hK => ?_) (AllReadyIn.nil)
          go_simp
          refine hK _ _ ?_
          clear hK K
          refine wpAnyIn_done (by kernel_rfl) ?_ _
          gi_wp2
          exact unhide HEN
--END-PATS
  case done =>
    rintro pls W rfl ⟨⟨v, hc, hSS⟩, hcp, hB, hbs⟩ hK9
    have hcell := hc.cell
    obtain ⟨zss, hz⟩ : ∃ zss, zss = (chR n kk).map (patA p) := ⟨_, rfl⟩
    have hord : ordR zss = patsR p kk := by rw [hz, ← (unhide HH).len]; exact unhide HPATS
    have hzl : zss.length ≤ 256 := by rw [hz, List.length_map]; exact chR_room hn8 (by omega)
    rw [← hz] at hSS
    obtain ⟨A9, c9, rfl⟩ := hSS.slice
    have H7 := hide (iord_any A9 _ c9 _ zss W hSS (by omega) (fun z hz9 => by
      rw [hz] at hz9
      obtain ⟨pl, hpl, rfl⟩ := List.mem_map.1 hz9
      have h2 := (mem_chR.1 hpl).2
      have h3 := plOK_le h2
      exact ⟨by unfold patA; rw [patL_length, nums_length]; omega, patA_small (unhide HP) ((unhide HH).len.symm ▸ h2)⟩))
    have HO := hide hord
    have HS9 := hide (show w3.heap.size = b + 3 from by omega)
    have hDl : w3.heap.size < W.heap.size := (Array.getElem?_eq_some_iff.1 hK9).1
    clear hz hord hc hSS hcp hseq hs2 hs3
    gi_wp2_with fail
    refine ⟨trivial, ?_⟩
    refine (callsIn_wide.2 (unhide H7)).mono ?_
    rintro e w5 ⟨A5, c5, rfl, o5, d5⟩
    rw [unhide HO] at o5 ⊢
    have hK5 : w5.heap[w3.heap.size]? = some (.deferred (some [])) := (d5.block _ hDl).trans hK9
    have hwd : w.heap.size ≤ w3.heap.size := by have := unhide HS9; omega
    have o6 := (o5.but (But.putObj w5 (Nat.le_refl w3.heap.size) (Nat.lt_succ_self _) (.deferred none)) hDl).low (show w.heap.size ≤ W.heap.size by omega)
    have d6 : Below w.heap.size w (w5.putObj w3.heap.size (.deferred none)) := (hB.trans (d5.mono hB.size)).trans ((Below.refl _ _).grown (grownBy_putObj' _ _ _) (by have := d5.size; have := hB.size; omega) (fun k e => by cases e; exact hwd))
    clear H7 d5 o5 hB
    gi_wp2
    refine ⟨by simp, .inl ⟨_, _, rfl, run_takeDeferred hK5, ?_⟩⟩
    refine ⟨_, results_tmp rfl _ _ _, ?_⟩
    exact GivesSS.mk o6 d6
  case stop =>
    rintro c pre W _ h _
    exact h.elim
end Go.Proofs.YtplchjeamooliaaGreatDoor


/-
  impl.PatternsIn at any number; impl.LowersOf.
-/

namespace Go.Proofs.YtplchjeamooliaaGreatDoor
set_option maxRecDepth 100000
open Go.RowKit

set_option maxHeartbeats 800000 in
theorem ipats_any (A : Option Addr) (n c B : Nat) (zs : List Int) (x : Int) (w : World) (h : Arg w B A n c zs) :
    Calls Tryz.prog 108 #[.slice A n c, .int .i64 x] w (GivesSS w (patsR zs x)) := by
  have hl := h.len
  obtain ⟨b, hp⟩ : ∃ b, isP zs = b := ⟨_, rfl⟩
  have hb0 : Below w.heap.size w (w.alloc (.cells #[.slice A n c] 27)) := (Below.refl _ w).alloc (Nat.le_refl _) _
  have hc0 : Boxed (w.alloc (.cells #[.slice A n c] 27)) w.heap.size 27 (.slice A n c) := Boxed.new w _ _
  have hcell0 := hc0.cell
  have H1 := hide (iisperm_any A n c B zs b hp _ (h.below hb0).reads (h.below hb0).under h.le h.small)
  cases b with
  | false =>
    rw [patsR_no (by unfold patsOK; rw [hp]; rfl)]
    clear h hp hl
    go_enter Tryz.func108, Tryz.ntmps108
    go_wp2_with fail
    refine (unhide H1).mono ?_
    rintro e w1 ⟨rfl, d1⟩
    have d := below_after hb0 d1
    clear H1 hcell0
    go_wp2
    go_ret
    exact GivesSS.mk (IntsS.nil _ _) d
  | true =>
    by_cases hx : 0 ≤ x ∧ x ≤ (n : Int)
    · obtain ⟨kk, rfl⟩ : ∃ kk : Nat, x = (kk : Int) := ⟨x.toNat, by omega⟩
      exact pats_yes A n c B kk zs w h hp (by omega)
    · rw [patsR_no (by unfold patsOK; rw [hp, hl]; simpa using hx)]
      by_cases h0 : x < 0
      · have hd0 : decide (x < 0) = true := decide_eq_true h0
        clear h hp hl hx
        go_enter Tryz.func108, Tryz.ntmps108
        go_wp2_with fail
        refine (unhide H1).mono ?_
        rintro e w1 ⟨rfl, d1⟩
        have d := below_after hb0 d1
        have hcell1 := (boxed_later hc0 d1).cell
        clear H1 hcell0
        go_wp2
        go_ret
        exact GivesSS.mk (IntsS.nil _ _) d
      · have hd0 : decide (x < 0) = false := decide_eq_false h0
        have h1 : (n : Int) < x := by omega
        have hd1 : decide ((n : Int) < x) = true := decide_eq_true h1
        clear h hp hl hx
        go_enter Tryz.func108, Tryz.ntmps108
        go_wp2_with fail
        refine (unhide H1).mono ?_
        rintro e w1 ⟨rfl, d1⟩
        have d := below_after hb0 d1
        have hcell1 := (boxed_later hc0 d1).cell
        clear H1 hcell0
        go_wp2
        go_ret
        exact GivesSS.mk (IntsS.nil _ _) d
theorem ilow_any (A : Option Addr) (n c B : Nat) (zs : List Int) (w : World) (h : Arg w B A n c zs) :
    Calls Tryz.prog 93 #[.slice A n c] w (GivesSS w (lowR zs)) := by
  have hle := h.le
  have H1 := hide (ipats_any A n c B zs ((n : Int) - 1) w h)
  have hw1 : IntKind.i64.wrap ((n : Int) - 1) = (n : Int) - 1 := by rw [IntKind.wrap_i64]; omega
  rw [← pats_low, h.len]
  clear h
  go_enter Tryz.func93, Tryz.ntmps93
  go_wp2_with fail
  refine (unhide H1).mono ?_
  rintro e w1 ⟨A1, c1, rfl, o1, d1⟩
  clear H1
  go_wp2
  go_ret
  exact GivesSS.mk o1 d1
end Go.Proofs.YtplchjeamooliaaGreatDoor


/-
  impl.permSetOf, permSet's add, has, hasLowers, by their contracts.
-/

namespace Go.Proofs.YtplchjeamooliaaGreatDoor
set_option maxRecDepth 100000
open Go.RowKit Go.Maps

set_option maxHeartbeats 800000 in
theorem psadd_any (b m : Nat) (S : List (List Int)) (A : Option Addr) (n c B : Nat) (z : List Int) (w : World) (hP : PSet w b m S) (hm : m ≤ 1048576) (h : Arg w B A n c z) (hz : isP z = true) :
    Calls Tryz.prog 57 #[.map (some b), .slice A n c] w fun e w' => e = .returned (.tuple #[]) ∧ PSet w' b (m + 1) (S ++ [z]) ∧ w.grownBy w' (some b) := by
  have H1 := hide (itext_any A n c B z w h)
  have HS := hide (fun (w1 : World) (d : Below w.heap.size w w1) => (hP.later d).store (by unfold maxLen; omega) hz)
  obtain ⟨s, hs⟩ : ∃ s, s = ptext z := ⟨_, rfl⟩
  rw [← hs] at H1
  simp only [← hs] at HS
  clear h hz hP hs
  go_enter Tryz.func57, Tryz.ntmps57
  go_wp2_with fail
  refine (unhide H1).mono ?_
  rintro e w1 ⟨rfl, d1⟩
  obtain ⟨w2, hrun, hP2, hg2⟩ := unhide HS w1 d1
  have HP2 := hide hP2
  have HG2 := hide (grown_then (grown_of_below d1 (some b)) hg2)
  clear H1 HS d1 hP2 hg2
  go_wp2
  go_end0
  exact ⟨rfl, unhide HP2, unhide HG2⟩
set_option maxHeartbeats 800000 in
theorem pshas_any (b m : Nat) (S : List (List Int)) (A : Option Addr) (n c B : Nat) (z : List Int) (w : World) (hP : PSet w b m S) (h : Arg w B A n c z) (hz : isP z = true) :
    Calls Tryz.prog 61 #[.map (some b), .slice A n c] w (GivesB w (decide (z ∈ S))) := by
  have H1 := hide (itext_any A n c B z w h)
  have HS := hide (fun (w1 : World) (d : Below w.heap.size w w1) => (hP.later d).lookup hz)
  obtain ⟨s, hs⟩ : ∃ s, s = ptext z := ⟨_, rfl⟩
  obtain ⟨bb, hbb⟩ : ∃ bb, bb = decide (z ∈ S) := ⟨_, rfl⟩
  rw [← hs] at H1
  rw [← hbb]
  simp only [← hs, ← hbb] at HS
  clear h hz hP hs hbb
  go_enter Tryz.func61, Tryz.ntmps61
  go_wp2_with fail
  refine (unhide H1).mono ?_
  rintro e w1 ⟨rfl, d1⟩
  have hrun := unhide HS w1 d1
  clear H1 HS
  go_wp2
  go_ret
  exact ⟨rfl, d1⟩
theorem lowIn_take {S low : List (List Int)} {i : Nat} {q : List Int} (h : low[i]? = some q) : (low.take (i + 1)).all (fun q => decide (q ∈ S)) = ((low.take i).all (fun q => decide (q ∈ S)) && decide (q ∈ S)) := by rw [List.take_add_one, h]; simp
set_option maxHeartbeats 1600000 in
theorem pslow_any (b m : Nat) (S : List (List Int)) (A : Option Addr) (n c B : Nat) (z : List Int) (w : World) (hP : PSet w b m S) (h : Arg w B A n c z) :
    Calls Tryz.prog 62 #[.map (some b), .slice A n c] w (GivesB w (lowIn S z)) := by
  have H1 := hide (ilow_any A n c B z w h)
  have HPS := hide hP
  have hll := (low_size z).1
  have HPI := hide (fun (i : Nat) (q : List Int) (hq : (lowR z)[i]? = some q) => low_all (List.mem_of_getElem? hq))
  have hdef : lowIn S z = (lowR z).all (fun q => decide (q ∈ S)) := rfl
  rw [hdef]
  obtain ⟨L, hL⟩ : ∃ L, L = lowR z := ⟨_, rfl⟩
  rw [← hL] at H1 hll HPI ⊢
  obtain ⟨N, hN⟩ : ∃ N, N = L.length := ⟨_, rfl⟩
  rw [← hN] at hll
  have HN := hide hN
  clear h hP hdef hL hN
  go_enter Tryz.func62, Tryz.ntmps62
  go_wp2_with fail
  refine (unhide H1).mono ?_
  rintro e w1 ⟨A1, c1, rfl, o1, d1⟩
  have HO := hide o1
  rw [← unhide HN] at HO ⊢
  have hb1 := Below.refl w1.heap.size w1
  have HD := hide d1
  clear H1 o1 d1
  go_wp2
  go_loopw [6, 10] (fun _ i wr => ∃ k : Nat, k ≤ N ∧ i = .int .i64 k ∧ Below w1.heap.size w1 wr ∧ Hid ((L.take k).all (fun q => decide (q ∈ S)) = true)) (fun _ i _ => N - (intOf i).toNat)
  case atStart => exact ⟨0, Nat.zero_le _, rfl, hb1, by exact (by simp : (L.take 0).all (fun q => decide (q ∈ S)) = true)⟩
  case round =>
    obtain ⟨k, hk, rfl, hb, hall⟩ := hrel
    clear hb1
    by_cases hlt : k < N
    · obtain ⟨ad, A6, c6, q, rfl, hq, hcell, hI⟩ := ((unhide HO).below hb).at_ hlt
      have hqp := unhide HPI k q hq
      have H4 := hide (pshas_any b m S A6 q.length c6 _ q wr ((unhide HPS).later (below_after (unhide HD) hb)) (hI.argP hqp) hqp)
      obtain ⟨bq, hbq⟩ : ∃ b, decide (q ∈ S) = b := ⟨_, rfl⟩
      rw [hbq] at H4
      have hst := lowIn_take (S := S) hq
      rw [unhide hall, hbq, Bool.true_and] at hst
      have HST := hide hst
      obtain ⟨lq, hlq⟩ : ∃ l, l = q.length := ⟨_, rfl⟩
      rw [← hlq] at hcell H4
      have HQ := hide (⟨hq, hbq⟩ : _ ∧ _)
      clear hq hqp hI hbq hst hlq hall
      cases bq with
      | true =>
        go_wp2_with fail
        refine (unhide H4).mono ?_
        rintro e w2 ⟨rfl, d2⟩
        have hb2 := below_after hb d2
        clear H4 d2 hcell hb
        go_wp2
        go_roundw
        case rel => exact ⟨k + 1, by omega, by go_num, hb2, HST⟩
        case measure => simp [intOf]; omega
      | false =>
        have HF := hide (show L.all (fun q => decide (q ∈ S)) = false by
          rw [List.all_eq_false]
          exact ⟨q, List.mem_of_getElem? (unhide HQ).1, by rw [(unhide HQ).2]; simp⟩)
        go_wp2_with fail
        refine (unhide H4).mono ?_
        rintro e w2 ⟨rfl, d2⟩
        have hb2 := below_after (unhide HD) (below_after hb d2)
        clear H4 d2 hcell hb
        go_wp2
        go_ret
        exact ⟨ret_bool (unhide HF).symm, hb2⟩
    · obtain rfl : N = k := by omega
      have HF := hide (show L.all (fun q => decide (q ∈ S)) = true by have h := unhide hall; rwa [List.take_of_length_le (by rw [← unhide HN]; exact Nat.le_refl _)] at h)
      have hb2 := below_after (unhide HD) hb
      clear hall hb
      go_wp2
      go_ret
      exact ⟨ret_bool (unhide HF).symm, hb2⟩
set_option maxHeartbeats 1600000 in
theorem psof_any (A : Option Addr) (n c B : Nat) (zss : List (List Int)) (w : World) (hS : IntsS w B (.slice A n c) zss) (hn : n ≤ 1048576) (hz : ∀ z ∈ zss, isP z = true) :
    Calls Tryz.prog 56 #[.slice A n c] w fun e w' => e = .returned (.map (some w.heap.size)) ∧ PSet w' w.heap.size n zss ∧ Below w.heap.size w w' := by
  have hP0 := PSet.new w
  have hb0 : Below w.heap.size w (w.alloc (.map #[] 0)) := (Below.refl _ w).alloc (Nat.le_refl _) _
  have hmk := run_makeMap (P := Tryz.prog) 63 w
  have HS := hide (⟨hS, hz⟩ : IntsS w B (.slice A n c) zss ∧ ∀ z ∈ zss, isP z = true)
  have HL := hide hS.len
  clear hS hz
  go_enter Tryz.func56, Tryz.ntmps56
  go_wp2
  obtain ⟨g, hg⟩ : ∃ g, g = w.heap.size := ⟨_, rfl⟩
  have hPg : PSet (w.alloc (.map #[] 0)) g 0 [] := by rw [hg]; exact hP0
  rw [← hg]
  have HG := hide hg
  clear hP0 hg hmk
  go_loopw [5, 9] (fun _ i wr => ∃ k : Nat, k ≤ n ∧ i = .int .i64 k ∧ Below w.heap.size w wr ∧ PSet wr g k (zss.take k)) (fun _ i _ => n - (intOf i).toNat)
  case atStart => exact ⟨0, Nat.zero_le _, rfl, hb0, by simpa using hPg⟩
  case round =>
    obtain ⟨k, hk, rfl, hb, hP⟩ := hrel
    clear hPg hb0
    by_cases hlt : k < n
    · obtain ⟨ad, A6, c6, z, rfl, hz, hcell, hI⟩ := ((unhide HS).1.below hb).at_ hlt
      have hzp := (unhide HS).2 z (List.mem_of_getElem? hz)
      have H4 := hide (psadd_any g k (zss.take k) A6 z.length c6 _ z wr hP (by omega) (hI.argP hzp) hzp)
      have hnext : zss.take k ++ [z] = zss.take (k + 1) := by rw [List.take_add_one, hz]; rfl
      rw [hnext] at H4
      obtain ⟨lz, hlz⟩ : ∃ l, l = z.length := ⟨_, rfl⟩
      rw [← hlz] at hcell H4
      clear hz hzp hI hnext hlz hP
      go_wp2_with fail
      refine (unhide H4).mono ?_
      rintro e w2 ⟨rfl, hP2, hg2⟩
      have hb2 : Below w.heap.size w w2 := hb.grown hg2 hb.size (fun j e => by injection e with e; have := unhide HG; omega)
      clear H4 hg2 hcell hb
      go_wp2
      go_roundw
      case rel => exact ⟨k + 1, by omega, by go_num, hb2, hP2⟩
      case measure => simp [intOf]; omega
    · obtain rfl : n = k := by omega
      rw [List.take_of_length_le (by rw [unhide HL]; exact Nat.le_refl _)] at hP
      have HP := hide hP
      clear hP
      go_wp2
      go_ret
      exact ⟨by rw [unhide HG]; rfl, by rw [← unhide HG]; exact unhide HP, hb⟩
end Go.Proofs.YtplchjeamooliaaGreatDoor


/-
  WORDS: a list of rows taken out of another one, beside maps of texts.
-/

namespace Go.Proofs.YtplchjeamooliaaGreatDoor
set_option maxRecDepth 100000
open Go.RowKit

theorem PSet.same {w w' : World} {b m : Nat} {S : List (List Int)} (h : PSet w b m S) (hb : w'.heap[b]? = w.heap[b]?) : PSet w' b m S := by
  obtain ⟨D, ⟨es, clock, h1, h2⟩, h3⟩ := h
  exact ⟨D, ⟨es, clock, hb.trans h1, h2⟩, h3⟩
/-- Every map of texts is as it was. -/
def KeepT (w w' : World) : Prop := ∀ b m S, PSet w b m S → PSet w' b m S
theorem KeepT.of_own {w w' : World} {B n : Nat} {e : TypeId} {v : Value} {xs : List Value} (ho : w.ownsRow B e 1 v n xs) (hg : w.grownBy w' v.ownBlock) : KeepT w w' := fun b m S h => by
  refine h.kept hg fun e2 => ?_
  rcases ho.2 with ⟨rfl, _⟩ | ⟨g, cap, cur, rfl, _, hgg, _⟩
  · simp [Value.ownBlock] at e2
  · obtain ⟨D, ⟨es, clock, hb, _⟩, _⟩ := h
    simp [Value.ownBlock] at e2
    subst e2
    rw [hgg] at hb
    cases hb
theorem Sib.set {w w' : World} {B C k b m : Nat} {lv ov : Value} {vs us : List Value} {Z U S : List (List Int)} (h : Sib w B C lv vs Z ov us U k) (hP : PSet w b m S) (hg : w.grownBy w' (some b)) : Sib w' B C lv vs Z ov us U k :=
  ⟨hP.own hg h.all, h.alli.keepI (hP.keepI hg), hP.own hg h.out, h.outi.keepI (hP.keepI hg), h.sub, h.since, h.apart⟩
theorem wpList_sift_keep {ops : Array Oper} {rest : List Oper} {o : Oper} {a : Act} {W : World} {Q : Exit → Act → World → Prop} (hgd : o.guard = none) (sl x : Operand)
    (ho : o.op = .call { callee := .builtin .append, args := #[sl, x], argTypes := #[24, 24] })
    (B C : Nat) (W0 wr : World) (lv v u : Value) (vs us : List Value) (Z U : List (List Int)) (k : Nat) (z : List Int) (hs : a.eval sl = v) (hx : a.eval x = .slice (some ⟨wr.heap.size, 0, none⟩) 1 1) (hW : W = wr.alloc (.cells #[u] 27))
    (h : Sib wr B C lv vs Z v us U k) (hu : vs[k]? = some u) (hz : Z[k]? = some z) (hn : U.length ≤ 1048576) (hb : Below B W0 wr) (hbase : B ≤ W0.heap.size)
    (K : ∀ v' w', Sib w' B C lv vs Z v' (us ++ [u]) (U ++ [z]) (k + 1) → Below B W0 w' → KeepT wr w' → wpList Tryz.prog ops Q rest (a.put o.dst v') w') : wpList Tryz.prog ops Q (o :: rest) a W := by
  obtain ⟨i0, hi, hz0, hz1, hz2⟩ := info_parts rowsInfo
  have hal := (Below.refl wr.heap.size wr).alloc (Nat.le_refl _) (.cells #[u] 27)
  have h0 := h.below hal
  have hBw : B ≤ wr.heap.size := Nat.le_trans hbase hb.size
  have hr := h.alli.row k u z hu hz
  obtain ⟨A1, c1, rfl⟩ := hr.slice
  subst hW
  refine wpList_append_own_at _ hgd sl x 24 ho B 27 i0 (.slice none 0 0) 1 24 Tryz.underlying24 hi hz0 hz1 hz2 rfl (by decide) v _ _ hs h0.out ⟨wr.heap.size, 0, none⟩ 1 1 [.slice A1 z.length c1] hx rfl ?_ ?_ (by unfold maxLen; omega) (by omega) (by simp; omega) ?_
  · intro j y hj
    match j, hj with
    | 0, hj => simp at hj; subst hj; simp [Addr.add]
  · intro y hy
    obtain rfl := List.mem_singleton.1 hy
    rfl
  · intro v' w' h1 h2 _ h4
    have hk := KeepI.of_grown h0.out h2
    have hkt : KeepT wr w' := fun b m S hP => (KeepT.of_own h0.out h2) b m S (hP.later hal)
    refine K v' w' ⟨h0.all.kept h2 h0.apart, h0.alli.keepI hk, by rw [List.length_append]; exact h1, ?_, ?_, h.since, ?_⟩ ?_ hkt
    · refine (h0.outi.keepI hk).push ((h0.alli.row k _ z hu hz).keepI hk) fun y hy => ?_
      rcases h.sub y hy with h6 | h6
      · obtain ⟨i, hik, hy2⟩ := mem_take_at h6
        exact pair_at h.alli.away hik hy2 hu
      · exact apart h6 (h.since _ (List.mem_of_getElem? hu)) (Nat.le_refl _)
    · intro y hy
      rcases List.mem_append.1 hy with hy | hy
      · rcases h.sub y hy with h6 | h6
        · rw [List.take_add_one]
          exact .inl (List.mem_append_left _ h6)
        · exact .inr h6
      · obtain rfl := List.mem_singleton.1 hy
        rw [List.take_add_one, hu]
        exact .inl (by simp)
    · rcases h4 with h4 | h4
      · rcases h.apart with ha | ha
        · exact .inl ha
        · exact .inr (by rw [h4]; exact ha)
      · cases hl : lv.ownBlock with
        | none => exact .inl hl
        | some g =>
          refine .inr ?_
          rw [hl, h4]
          intro e
          have h5 := (h.all.lt g hl).2
          have h6 := (h0.all.lt g hl).2
          simp at e
          omega
    · exact (hb.trans (hal.mono hBw)).grown h2 (by simp; omega) (fun g hg => (h.out.lt g hg).1)
end Go.Proofs.YtplchjeamooliaaGreatDoor


/-
  impl.classUpTo, impl.ClassOf, impl.ClassCounts, by their contracts.
-/

namespace Go.Proofs.YtplchjeamooliaaGreatDoor
set_option maxRecDepth 100000
open Go.RowKit Go.Maps

set_option maxHeartbeats 1600000 in
theorem iclu_any (A : Option Addr) (n c B m : Nat) (zss : List (List Int)) (w : World) (hS : IntsS w B (.slice A n c) zss) (hbas : basis zss = true) (hm : m ≤ 6) :
    Calls Tryz.prog 29 #[.slice A n c, .int .i64 m] w (GivesSS w (clsU zss m)) := by
  have hL := fun z hz => (basis_isP hbas z hz).1
  have hn8 : n ≤ 8 := by have := basis_le hbas; have := hS.len; omega
  have H1 := hide (psof_any A n c B zss w hS (by omega) hL)
  have HST := hide (fun (k : Nat) (p : List Int) (hp : (allU m)[k]? = some p) => cls_step hL hm hp)
  have HPP := hide (fun (k : Nat) (p : List Int) (hp : (allU m)[k]? = some p) => ((mem_allU hm).1 (List.mem_of_getElem? hp)).1)
  have H2 := hide (fun (w' : World) => iupto_any m hm w')
  have hN0 := allU_len m hm
  rw [clsU_sift]
  obtain ⟨Z, hZ⟩ : ∃ Z, Z = allU m := ⟨_, rfl⟩
  rw [← hZ] at H2 hN0 HST HPP ⊢
  obtain ⟨N, hN⟩ : ∃ N, N = Z.length := ⟨_, rfl⟩
  rw [← hN] at hN0 ⊢
  have HN := hide hN
  clear hS hbas hL hZ hN
  go_enter Tryz.func29, Tryz.ntmps29
  go_wp2_with fail
  refine (unhide H1).mono ?_
  rintro e w1 ⟨rfl, hP1, d1⟩
  have hmk := run_makeMap (P := Tryz.prog) 63 w1
  have hal : Below w1.heap.size w1 (w1.alloc (.map #[] 0)) := (Below.refl _ w1).alloc (Nat.le_refl _) _
  have hP2 := hP1.later hal
  have hK2 := PSet.new w1
  have hb2 := below_after d1 hal
  have hne := hP1.lt
  have H3 := hide (unhide H2 (w1.alloc (.map #[] 0)))
  clear H1 H2 d1 hP1 hal
  go_wp2_with fail
  refine (unhide H3).mono ?_
  rintro e w3 ⟨A3, c3, rfl, o3, d3⟩
  have hb3 := below_after hb2 d3
  obtain ⟨vs, us0, hsib⟩ := Sib.start (B := w.heap.size) (ov := .slice none 0 0) ⟨rfl, .inl ⟨rfl, rfl⟩⟩ d3 o3 hb2.size
  have hP3 := hP2.later d3
  have hK3 := hK2.later d3
  obtain ⟨C, hC⟩ : ∃ C, C = (w1.alloc (.map #[] 0)).heap.size := ⟨_, rfl⟩
  rw [← hC] at hsib
  rw [← unhide HN] at hsib ⊢
  obtain ⟨lb, hlb⟩ : ∃ b, b = w.heap.size := ⟨_, rfl⟩
  obtain ⟨kb, hkb⟩ : ∃ b, b = w1.heap.size := ⟨_, rfl⟩
  rw [← hlb] at hP3 hne
  rw [← hkb] at hK3 hne
  rw [← hlb, ← hkb]
  have HLB := hide (show w.heap.size ≤ lb ∧ w.heap.size ≤ kb by omega)
  clear hC H3 o3 d3 hb2 hP2 hK2 hmk hlb hkb
  go_wp2
  go_loopw [5, 9, 16] (fun ov _ i wr => ∃ (j : Nat) (us : List Value), j ≤ N ∧ i = .int .i64 j ∧ Below w.heap.size w wr ∧ Sib wr w.heap.size C (.slice A3 N c3) vs Z ov us (sift (avo zss) Z j) j ∧ PSet wr lb n zss ∧ PSet wr kb j (sift (avo zss) Z j)) (fun _ _ i _ => N - (intOf i).toNat)
  case atStart => exact ⟨0, us0, Nat.zero_le _, rfl, hb3, hsib, hP3, hK3⟩
  case round =>
    obtain ⟨j, us, hj, rfl, hb, hs, hP, hK⟩ := hrel
    clear hsib hb3 hP3 hK3
    have hle := sift_le (avo zss) Z j
    by_cases hlt : j < N
    · obtain ⟨ad, A6, c6, z, rfl, hz, hvz, hcell, hI⟩ := hs.row rfl hlt
      have hzp := unhide HPP j z hz
      have hstep := unhide HST j z hz
      obtain ⟨b1, hb1⟩ : ∃ b, decide (z ∈ zss) = b := ⟨_, rfl⟩
      obtain ⟨b2, hb2⟩ : ∃ b, lowIn (sift (avo zss) Z j) z = b := ⟨_, rfl⟩
      have H4 := hide (pshas_any lb n zss A6 z.length c6 _ z wr hP (hI.argP hzp) hzp)
      have H5 := hide (fun (w' : World) (d : Below wr.heap.size wr w') => pslow_any kb j (sift (avo zss) Z j) A6 z.length c6 _ z w' (hK.later d) ((hI.argP hzp).below d))
      have H6 := hide (fun (w' : World) (d : Below wr.heap.size wr w') => psadd_any kb j (sift (avo zss) Z j) A6 z.length c6 _ z w' (hK.later d) (by omega) ((hI.argP hzp).below d) hzp)
      rw [hb1] at H4
      rw [hb2] at H5
      rw [hb1, hb2] at hstep
      have HZ := hide (⟨hz, hvz⟩ : _ ∧ _)
      have HS := hide (fun (w' : World) (d : Below wr.heap.size wr w') => hs.below d)
      have HPK := hide (fun (w' : World) (d : Below wr.heap.size wr w') => (⟨hP.later d, hK.later d⟩ : PSet w' lb n zss ∧ PSet w' kb j (sift (avo zss) Z j)))
      have HB := hide hb
      have hcl := World.block_lt_of_cell? wr _ hcell
      obtain ⟨lz, hlz⟩ : ∃ l, l = z.length := ⟨_, rfl⟩
      rw [← hlz] at hcell H4 H5 H6 HZ
      clear hz hvz hzp hI hs hP hK hlz hb1 hb2
      cases b1 with
      | true =>
        have HE := hide (sift_no (g := avo zss) (unhide HZ).1 (by rw [hstep]; rfl))
        clear hstep H5 H6
        go_wp2_with fail
        refine (unhide H4).mono ?_
        rintro e w4 ⟨rfl, d4⟩
        have hb4 := below_after hb d4
        have hs4 := (unhide HS w4 d4).skip
        obtain ⟨hP4, hK4⟩ := unhide HPK w4 d4
        rw [← unhide HE] at hs4 hK4
        have HS4 := hide hs4
        have HK4 := hide (hK4.mono (Nat.le_succ j))
        clear H4 HS HPK d4 hcell hcl hb hs4 hK4
        go_wp2
        go_roundw
        case rel => exact ⟨j + 1, us, by omega, by go_num, hb4, unhide HS4, hP4, unhide HK4⟩
        case measure => simp [intOf]; omega
      | false =>
        cases b2 with
        | false =>
          have HE := hide (sift_no (g := avo zss) (unhide HZ).1 (by rw [hstep]; rfl))
          clear hstep H6
          go_wp2_with fail
          refine (unhide H4).mono ?_
          rintro e w4 ⟨rfl, d4⟩
          have H7 := hide (unhide H5 w4 d4)
          clear H4 H5
          go_wp2_with fail
          refine (unhide H7).mono ?_
          rintro e w5 ⟨rfl, d5⟩
          have d := below_after d4 d5
          have hb4 := below_after hb d
          have hs4 := (unhide HS w5 d).skip
          obtain ⟨hP4, hK4⟩ := unhide HPK w5 d
          rw [← unhide HE] at hs4 hK4
          have HS4 := hide hs4
          have HK4 := hide (hK4.mono (Nat.le_succ j))
          clear H7 HS HPK d4 d5 d hcell hcl hb hs4 hK4
          go_wp2
          go_roundw
          case rel => exact ⟨j + 1, us, by omega, by go_num, hb4, unhide HS4, hP4, unhide HK4⟩
          case measure => simp [intOf]; omega
        | true =>
          have HE := hide (sift_yes (g := avo zss) (unhide HZ).1 (by rw [hstep]; rfl))
          clear hstep
          go_wp2_with fail
          refine (unhide H4).mono ?_
          rintro e w4 ⟨rfl, d4⟩
          have H7 := hide (unhide H5 w4 d4)
          clear H4 H5
          go_wp2_with fail
          refine (unhide H7).mono ?_
          rintro e w5 ⟨rfl, d5⟩
          have d := below_after d4 d5
          have H8 := hide (unhide H6 w5 d)
          have hs5 := unhide HS w5 d
          obtain ⟨hP5, hK5⟩ := unhide HPK w5 d
          have hcell5 := (d.cell hcl).trans hcell
          have hb5 := below_after hb d
          clear H6 H7 HS HPK d4 d5 d hcell hcl hb
          go_wp2_with fail
          refine (unhide H8).mono ?_
          rintro e w6 ⟨rfl, hK6, hg6⟩
          have hs6 := hs5.set hK5 hg6
          have hP6 := hP5.kept hg6 (by simp; omega)
          have hb6 : Below w.heap.size w w6 := hb5.grown hg6 hb5.size (fun g hg => by injection hg with hg; have := unhide HLB; omega)
          have hsl : (sift (avo zss) Z j).length ≤ 1048576 := by omega
          clear H8 hs5 hP5 hK5 hcell5 hb5 hg6
          go_wp2_with (first
            | (at_builtin; refine wpList_sift_keep rfl (.tmp 32) (.tmp 34) rfl w.heap.size C w w6 (.slice (some ad) N c3) _ (.slice A6 lz c6) vs us Z (sift (avo zss) Z j) j z rfl rfl rfl hs6 (unhide HZ).2 (unhide HZ).1 hsl hb6 (Nat.le_refl _) ?_; intro v7 w7 hs7 hb7 hkt7))
          have hP7 := hkt7 _ _ _ hP6
          have hK7 := hkt7 _ _ _ hK6
          rw [← unhide HE] at hs7 hK7
          clear hs6 hb6 hP6 hK6 hkt7 hsl
          go_roundw
          case rel => exact ⟨j + 1, _, by omega, by go_num, hb7, hs7, hP7, hK7⟩
          case measure => simp [intOf]; omega
    · obtain rfl : N = j := by omega
      have hI := hs.outS
      have HI := hide hI
      clear hs hP hK hI
      go_wp2
      go_ret
      exact GivesSS.mk (unhide HI) hb
set_option maxHeartbeats 400000 in
theorem icl1_any (A : Option Addr) (n c bx : Nat) (m : Int) (w : World) (hx : w.cell? ⟨bx, 0, none⟩ = some (.int .i64 m)) :
    Calls Tryz.prog 75 #[.slice A n c, .pointer (some ⟨bx, 0, none⟩)] w (GivesB w (decide ((n : Int) < m))) := by
  have hb := Below.refl w.heap.size w
  go_enter Tryz.func75, Tryz.ntmps75
  go_wp2
  go_ret
  exact ⟨rfl, hb⟩
set_option maxHeartbeats 1600000 in
theorem iclo_any (A : Option Addr) (n c B : Nat) (zss : List (List Int)) (m : Int) (hm : -9223372036854775808 ≤ m ∧ m ≤ 9223372036854775807) (w : World) (hS : IntsS w B (.slice A n c) zss) (hn : n ≤ 1048576) (hsm : ∀ z ∈ zss, z.length ≤ 1048576 ∧ Small z) :
    Calls Tryz.prog 27 #[.slice A n c, .int .i64 m] w (GivesSS w (clsO zss m)) := by
  obtain ⟨hm1, hm2⟩ := hm
  have hb0 : Below w.heap.size w (w.alloc (.cells #[.int .i64 m] 3)) := (Below.refl _ w).alloc (Nat.le_refl _) _
  have hc0 : Boxed (w.alloc (.cells #[.int .i64 m] 3)) w.heap.size 3 (.int .i64 m) := Boxed.new w _ _
  obtain ⟨b, hb⟩ : ∃ b, basis zss = b := ⟨_, rfl⟩
  have H1 := hide (ibas_any A n c B zss _ (hS.below hb0) hn hsm)
  rw [hb] at H1
  cases b with
  | false =>
    rw [clsO_no (fun h => by rw [hb] at h; cases h.1)]
    clear hb hS hsm
    go_enter Tryz.func27, Tryz.ntmps27
    go_wp2_with fail
    refine (unhide H1).mono ?_
    rintro e w1 ⟨rfl, d1⟩
    have hb1 := below_after hb0 d1
    have hI := IntsS.nil w1 w.heap.size
    clear H1 d1 hb0 hc0
    go_wp2
    go_ret
    exact GivesSS.mk hI hb1
  | true =>
    by_cases hin : 0 ≤ m ∧ m ≤ 6
    · obtain ⟨k, rfl⟩ : ∃ k : Nat, m = (k : Int) := ⟨m.toNat, by omega⟩
      have hk6 : k ≤ 6 := by omega
      have HE := hide (show (clsU zss k).filter (fun z => !decide ((z.length : Int) < (k : Int))) = clsO zss (k : Int) by
        rw [clsO_yes hb hk6, sift_all, show (permL k).filter (avo zss) = clsN zss k from rfl, ← clsU_top zss hk6]
        refine List.filter_congr fun z _ => ?_
        congr 1
        rw [decide_eq_decide]
        omega)
      have HC := hide (fun (w' : World) (d : Below w.heap.size w w') => iclu_any A n c B k zss w' (hS.below d) hb hk6)
      have hlen := clsU_len zss hk6
      have hpos : 0 < (clsU zss k).length := by
        have h1 : ([] : List Int) ∈ clsU zss k := by
          rw [clsU_all]
          refine (mem_all hk6).2 ⟨by decide, by simp, avo_yes.2 fun q hq => ?_⟩
          cases h2 : hasO [] q with
          | false => rfl
          | true =>
            have h3 := (hasO_len (by decide) (basis_isP hb q hq).1 h2).1
            exact absurd (Nat.le_zero.1 h3) (basis_isP hb q hq).2
        exact List.length_pos_of_mem h1
      obtain ⟨Z, hZ⟩ : ∃ Z, Z = clsU zss k := ⟨_, rfl⟩
      rw [← hZ] at HE HC hlen hpos
      have hk0 : ¬ (k : Int) < 0 := by omega
      have hk6' : ¬ (6 : Int) < (k : Int) := by omega
      clear hb hS hsm hin hm1 hm2 hZ
      go_enter Tryz.func27, Tryz.ntmps27
      go_wp2_with fail
      refine (unhide H1).mono ?_
      rintro e w1 ⟨rfl, d1⟩
      have hb1 := below_after hb0 d1
      have hc1 := boxed_later hc0 d1
      have hcell := hc1.cell
      have H2 := hide (unhide HC w1 hb1)
      clear H1 HC d1 hb0 hc0
      go_wp2_with fail
      refine (unhide H2).mono ?_
      rintro e w2 ⟨A2, c2, rfl, o2, d2⟩
      have hb2 := below_after hb1 d2
      have hc2 := (boxed_later hc1 d2).cell
      have hlt : w.heap.size < w1.heap.size := World.block_lt_of_cell? w1 _ hcell
      have hsz2 := d2.size
      have H3 := hide (delsCO_any w.heap.size A2 Z.length c2 w1.heap.size Z (fun z => decide ((z.length : Int) < (k : Int))) w2 o2 (by omega) hpos (hide fun w3 g _ hg hgr A9 c9 z _ _ => icl1_any A9 z.length c9 w.heap.size (k : Int) w3 (by
        rw [World.cell?_of_block (hgr.block w.heap.size (by omega) (fun e => by injection e; omega))]
        exact hc2)))
      rw [unhide HE] at H3
      obtain ⟨R, hR⟩ : ∃ R, R = clsO zss (k : Int) := ⟨_, rfl⟩
      rw [← hR] at H3
      have HR := hide hR
      clear H2 o2 hR hcell hc1 hlen
      have HSZ := hide hb1.size
      go_wp2_with fail
      refine (unhide H3).mono ?_
      rintro e w4 ⟨A4, c4, rfl, o4, g, hg4, hgr4⟩
      have hb4 : Below w.heap.size w w4 := hb2.grown hgr4 hb2.size (fun j e => by injection e with e; omega)
      have HI := hide (show IntsS w4 w.heap.size (.slice A4 R.length c4) (clsO zss (k : Int)) by rw [← unhide HR]; exact o4.low (by omega : w.heap.size ≤ w1.heap.size))
      clear H3 o4 hgr4
      go_wp2
      go_ret
      exact GivesSS.mk (unhide HI) hb4
    · rw [clsO_no (fun h => hin h.2)]
      clear hb hS hsm
      have hcase : m < 0 ∨ (¬ m < 0 ∧ 6 < m) := by omega
      rcases hcase with h0 | ⟨h0, h6⟩
      · go_enter Tryz.func27, Tryz.ntmps27
        go_wp2_with fail
        refine (unhide H1).mono ?_
        rintro e w1 ⟨rfl, d1⟩
        have hb1 := below_after hb0 d1
        have hcell := (boxed_later hc0 d1).cell
        have hI := IntsS.nil w1 w.heap.size
        clear H1 d1 hb0 hc0
        go_wp2
        go_ret
        exact GivesSS.mk hI hb1
      · go_enter Tryz.func27, Tryz.ntmps27
        go_wp2_with fail
        refine (unhide H1).mono ?_
        rintro e w1 ⟨rfl, d1⟩
        have hb1 := below_after hb0 d1
        have hcell := (boxed_later hc0 d1).cell
        have hI := IntsS.nil w1 w.heap.size
        clear H1 d1 hb0 hc0
        go_wp2
        go_ret
        exact GivesSS.mk hI hb1
set_option maxHeartbeats 1600000 in
theorem iccn_any (A : Option Addr) (n c B : Nat) (zss : List (List Int)) (m : Int) (hm : -9223372036854775808 ≤ m ∧ m ≤ 9223372036854775807) (w : World) (hS : IntsS w B (.slice A n c) zss) (hn : n ≤ 1048576) (hsm : ∀ z ∈ zss, z.length ≤ 1048576 ∧ Small z) :
    Calls Tryz.prog 6 #[.slice A n c, .int .i64 m] w (GivesI w (cntsR zss m)) := by
  obtain ⟨i0, hi, hz0, hz1, hz2⟩ := info_parts intInfo
  obtain ⟨hm1, hm2⟩ := hm
  obtain ⟨b, hb⟩ : ∃ b, basis zss = b := ⟨_, rfl⟩
  have H1 := hide (ibas_any A n c B zss w hS hn hsm)
  rw [hb] at H1
  cases b with
  | false =>
    rw [cntsR_no (fun h => by rw [hb] at h; cases h.1)]
    clear hb hS hsm
    go_enter Tryz.func6, Tryz.ntmps6
    go_wp2_with fail
    refine (unhide H1).mono ?_
    rintro e w1 ⟨rfl, d1⟩
    have hI := Ints.nil w1 w.heap.size
    clear H1
    go_wp2
    go_ret
    exact GivesI.mk hI d1
  | true =>
    by_cases hin : 0 ≤ m ∧ m ≤ 6
    · obtain ⟨k, rfl⟩ : ∃ k : Nat, m = (k : Int) := ⟨m.toNat, by omega⟩
      have hk6 : k ≤ 6 := by omega
      have HC := hide (fun (w' : World) (d : Below w.heap.size w w') => iclu_any A n c B k zss w' (hS.below d) hb hk6)
      have hlen := clsU_len zss hk6
      have HZL := hide (fun (j : Nat) (z : List Int) (hz : (clsU zss k)[j]? = some z) => (clsU_mem hk6 (List.mem_of_getElem? hz)).2)
      have HEND := hide (show tallyU (clsU zss k) k (clsU zss k).length = cntsR zss (k : Int) by rw [tallyU_all zss hk6, cntsR_yes hb hk6])
      obtain ⟨Z, hZ⟩ : ∃ Z, Z = clsU zss k := ⟨_, rfl⟩
      rw [← hZ] at HC hlen HZL HEND
      obtain ⟨N, hN⟩ : ∃ N, N = Z.length := ⟨_, rfl⟩
      rw [← hN] at hlen HEND
      have HN := hide hN
      have hk0 : ¬ (k : Int) < 0 := by omega
      have hk6' : ¬ (6 : Int) < (k : Int) := by omega
      clear hb hS hsm hin hm1 hm2 hZ hN
      go_enter Tryz.func6, Tryz.ntmps6
      go_wp2_with fail
      refine (unhide H1).mono ?_
      rintro e w1 ⟨rfl, d1⟩
      have hs1 := d1.size
      clear H1
      go_wp2_with (first
        | (at_make; refine wpList_make_full _ rfl (.tmp 20) (.tmp 20) 27 rfl w.heap.size 3 i0 (.int .i64 0) 1 Tryz.underlying27 hi hz0 hz1 _ _ _ _ (k + 1) rfl rfl (by first | rfl | omega) (by first | rfl | omega) (by rw [hz2]; omega) (by unfold maxLen; omega) hs1 ?_; intro w2 hown hg))
      have hb2 := d1.grown hg hs1 (by simp)
      have hown2 : w2.ownsRow w.heap.size 3 1 (.slice (some ⟨w1.heap.size, 0, none⟩) (k + 1) (k + 1)) (k + 1) (i64s (tallyU Z k 0)) := by rw [tallyU_zero, ← made_zeros]; exact hown
      obtain ⟨g, hgd⟩ : ∃ g, g = w1.heap.size := ⟨_, rfl⟩
      rw [← hgd] at hown2 ⊢
      have H3 := hide (unhide HC w2 hb2)
      clear HC hown hg d1 hs1 hgd
      go_wp2_with fail
      refine (unhide H3).mono ?_
      rintro e w3 ⟨A3, c3, rfl, o3, d3⟩
      have hown3 := own_below hown2 d3
      have hb3 := below_after hb2 d3
      have HG := hide (hown2.lt g rfl).2
      have HO := hide o3
      rw [← unhide HN] at HO ⊢
      clear H3 hown2 hb2 d3 o3
      go_wp2
      go_loopw [7, 26] (fun _ i wr => ∃ j : Nat, j ≤ N ∧ i = .int .i64 j ∧ Below w.heap.size w wr ∧ w3.grownBy wr (some g) ∧ wr.ownsRow w.heap.size 3 1 (.slice (some ⟨g, 0, none⟩) (k + 1) (k + 1)) (k + 1) (i64s (tallyU Z k j))) (fun _ i _ => N - (intOf i).toNat)
      case atStart => exact ⟨0, Nat.zero_le _, rfl, hb3, World.grownBy.refl w3 _, hown3⟩
      case round =>
        obtain ⟨j, hj, rfl, hb, hgr, hown⟩ := hrel
        clear hb3 hown3
        by_cases hlt : j < N
        · obtain ⟨ad, A6, c6, z, rfl, hz, hcell, hI⟩ := ((unhide HO).off hgr (unhide HG)).at_ hlt
          have hzl := unhide HZL j z hz
          have hcl := tallyU_at (Z := Z) (k := j) hzl
          have hcb : ((Z.take j).countP fun p => decide (p.length = z.length)) ≤ 1048576 := Nat.le_trans List.countP_le_length (by rw [List.length_take]; omega)
          have hst := tallyU_step (n := k) hz
          obtain ⟨lz, hlz⟩ : ∃ l, l = z.length := ⟨_, rfl⟩
          rw [← hlz] at hcell hzl hcl hst hcb
          obtain ⟨cn, hcn⟩ : ∃ l : Nat, l = (Z.take j).countP fun p => decide (p.length = lz) := ⟨_, rfl⟩
          rw [← hcn] at hcl hst hcb
          have hcc : wr.cell? ⟨g, lz, none⟩ = some (.int .i64 (cn : Int)) := by rw [hown.cellAt lz (by omega)]; exact i64_get hcl
          have hfz := hown.frozenAt lz
          have HS2 := hide (show (wr.setCell ⟨g, lz, none⟩ (.int .i64 ((cn : Int) + 1))).ownsRow w.heap.size 3 1 (.slice (some ⟨g, 0, none⟩) (k + 1) (k + 1)) (k + 1) (i64s (tallyU Z k (j + 1))) by
            have h := (hown.stored lz (.int .i64 ((cn : Int) + 1))).1
            have e : i64s (tallyU Z k (j + 1)) = (i64s (tallyU Z k j)).set lz (.int .i64 ((cn : Int) + 1)) := by rw [hst]; unfold i64s; rw [List.map_set]
            rw [e]
            exact h)
          have HG2 := hide (grown_then hgr (hown.stored lz (.int .i64 ((cn : Int) + 1))).2)
          have HB2 := hide (hb.setCell (p := ⟨g, lz, none⟩) (hown.lt g rfl).1 (.int .i64 ((cn : Int) + 1)))
          have hbd : (lz : Int) < (k : Int) + 1 := by omega
          clear hz hI hlz hcn hst hcl hown hgr hb
          go_wp2
          go_roundw
          case rel => exact ⟨j + 1, by omega, by go_num, unhide HB2, unhide HG2, unhide HS2⟩
          case measure => simp [intOf]; omega
        · obtain rfl : N = j := by omega
          have HI := hide (show Ints wr w.heap.size (.slice (some ⟨g, 0, none⟩) (k + 1) (k + 1)) (cntsR zss (k : Int)) by
            rw [← unhide HEND]
            have h := hown
            rw [show k + 1 = (tallyU Z k N).length by rw [tallyU_length]] at h
            rw [show k + 1 = (tallyU Z k N).length by rw [tallyU_length]]
            exact Ints.of_own h)
          clear hown hgr
          go_wp2
          go_ret
          exact GivesI.mk (unhide HI) hb
    · rw [cntsR_no (fun h => hin h.2)]
      clear hb hS hsm
      have hcase : m < 0 ∨ (¬ m < 0 ∧ 6 < m) := by omega
      rcases hcase with h0 | ⟨h0, h6⟩
      · go_enter Tryz.func6, Tryz.ntmps6
        go_wp2_with fail
        refine (unhide H1).mono ?_
        rintro e w1 ⟨rfl, d1⟩
        have hI := Ints.nil w1 w.heap.size
        clear H1
        go_wp2
        go_ret
        exact GivesI.mk hI d1
      · go_enter Tryz.func6, Tryz.ntmps6
        go_wp2_with fail
        refine (unhide H1).mono ?_
        rintro e w1 ⟨rfl, d1⟩
        have hI := Ints.nil w1 w.heap.size
        clear H1
        go_wp2
        go_ret
        exact GivesI.mk hI d1
end Go.Proofs.YtplchjeamooliaaGreatDoor


/-
  impl.Join at a row of the call's own, by its contract: the library's Join.
-/

namespace Go.Proofs.YtplchjeamooliaaGreatDoor
set_option maxRecDepth 100000
open Go.RowKit

theorem ijoin_row (g n c : Nat) (ss : List ByteArray) (sep : ByteArray) (w : World) (base : Nat) (hown : w.ownsRow base 9 1 (.slice (some ⟨g, 0, none⟩) n c) n (ss.map Value.string)) (hn : n ≤ 1099511627776) (hc : n ≤ c)
    (hlen : (Lib.join (ss.map (·.data.toList)) sep.data.toList).length ≤ 4398046511104) :
    Calls Tryz.prog 70 #[.slice (some ⟨g, 0, none⟩) n c, .string sep] w fun e w' => e = .returned (.string ⟨(Lib.join (ss.map (·.data.toList)) sep.data.toList).toArray⟩) ∧ Below w.heap.size w w' := by
  have hl : ss.length = n := by simpa using hown.1
  subst hl
  have hcells : ∀ (j : Nat) x, ss[j]? = some x → w.cell? ⟨g, 0 + j, none⟩ = some (.string x) := fun j x hx => by
    have := hown.cells (g := g) rfl j (.string x) (by rw [List.getElem?_map, hx]; rfl)
    rw [← this]
    congr 1
    unfold Addr.add
    split <;> simp_all
  have H := hide (Tryz.strings_Join g 0 c ss sep w hcells (hown.lt g rfl).2 (by omega) hc (by omega))
  clear hcells hown hlen hn hc
  go_enter Tryz.func70, Tryz.ntmps70
  go_wp2_with fail
  refine (unhide H).mono ?_
  rintro e w' ⟨rfl, hb⟩
  clear H
  go_wp2
  go_ret
  exact ⟨rfl, hb⟩
theorem own_cap {w : World} {base n c g : Nat} {xs : List Value} {e : TypeId} (h : w.ownsRow base e 1 (.slice (some ⟨g, 0, none⟩) n c) n xs) : n ≤ c := by
  rcases h.2 with ⟨h0, _⟩ | ⟨g', cap, cur, hv, _, _, hnc, _⟩
  · cases h0
  · injection hv with _ _ h3
    omega
theorem own_headJ {w : World} {base n : Nat} {v : Value} {xs : List Value} {e : TypeId} (h : w.ownsRow base e 1 v n xs) (hn : 0 < n) : ∃ g c, v = .slice (some ⟨g, 0, none⟩) n c := by
  rcases h.2 with ⟨_, h0⟩ | ⟨g, cap, cur, rfl, _⟩
  · omega
  · exact ⟨g, cap, rfl⟩
end Go.Proofs.YtplchjeamooliaaGreatDoor
