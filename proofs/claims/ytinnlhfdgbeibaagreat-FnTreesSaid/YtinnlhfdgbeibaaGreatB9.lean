/-
  Words and contracts that the laws lean on, bundled: TreeI, TreeL, TreeJ, TreeG, Grow, TreeD, Depth, FmtS, Text.
-/
import Derived.Test.YtinnlhfdgbeibaaGreatB7
import Derived.Test.YtinnlhfdgbeibaaGreatB4
import Derived.Maps.AppendAt
import Derived.Test.YtinnlhfdgbeibaaGreatProg
import Derived.Test.YtinnlhfdgbeibaaGreatB1
import Derived.Lib.ItoaNum
import Derived.Lib.ItoaLen
import Derived.Laws.IdiomStrings
import Derived.WalkSpells
import Derived.WalkLawsBesides
import Derived.Test.YtinnlhfdgbeibaaGreatB2
import Derived.Test.YtinnlhfdgbeibaaGreatB3
import Derived.Laws.BytesString

/-
  impl.lastOfLongest, impl.splitLongest, impl.splitSum, impl.SplitPerm, by their contracts.
-/

namespace Go.Proofs.YtinnlhfdgbeibaaGreat
set_option maxRecDepth 100000
open Go.RowKit

theorem add_none (a : Addr) : a.add 0 = a := by unfold Addr.add; split <;> simp_all
theorem Ints.pair {w : World} {B n c : Nat} {A : Option Addr} {f t : Int} (h : Ints w B (.slice A n c) [f, t]) : ∃ g, A = some ⟨g, 0, none⟩ ∧ w.cell? ⟨g, 0, none⟩ = some (.int .i64 f) ∧ w.cell? ⟨g, 1, none⟩ = some (.int .i64 t) := by
  have hh := h
  rcases h.2 with ⟨hv, hz⟩ | ⟨g, cap, cur, e, hv, _⟩
  · simp at hz
  · injection hv with h1 h2 h3
    subst h1
    exact ⟨g, rfl, (Row.cells hh rfl 0 (by simp)).trans rfl, (Row.cells hh rfl 1 (by simp)).trans rfl⟩
theorem max_if (a b : Int) : (if a < b then b else a) = max a b := by split <;> omega
set_option maxHeartbeats 1600000 in
theorem ilast_any (A : Option Addr) (n c B : Nat) (zs : List Int) (a : Nat) (F : Int) (hF : F = (a : Int) + 1) (w : World) (h : Arg w B A n c zs) (hp : isP zs = true) (ha : a < n) (h2 : 2 ≤ n) :
    Calls Tryz.prog 62 #[.slice A n c, .int .i64 F] w (fun e w' => e = .returned (.int .i64 ((a : Int) + (topK zs a (n - 1 - a) : Nat) + 1)) ∧ Below w.heap.size w w') := by
  have hl := h.len
  have H1 := hide (iivs_any A n c B zs w h)
  have HT := hide (last_top hp (show a < zs.length by omega) (by omega))
  rw [hl, ← hF] at HT
  have hsm := (ivsR_small zs).1
  have HM := hide (fun z (hz : z ∈ ivsR zs) => (mem_ivsR hz).2)
  obtain ⟨R, hR⟩ : ∃ R, ivsR zs = R := ⟨_, rfl⟩
  rw [hR] at H1 HT HM hsm
  obtain ⟨T, hT⟩ : ∃ T : Int, (a : Int) + (topK zs a (n - 1 - a) : Nat) + 1 = T := ⟨_, rfl⟩
  rw [hT] at HT ⊢
  clear hT hR hp h hl hF
  go_enter Tryz.func62, Tryz.ntmps62
  go_wp2_with fail
  refine (unhide H1).mono ?_
  rintro e w1 ⟨A1, c1, rfl, hI1, hb1⟩
  clear H1
  go_wp2
  go_loopw [5, 7, 12] (fun b _ i wr => ∃ k : Nat, k ≤ R.length ∧ i = .int .i64 k ∧ b = .int .i64 (lastF F F (R.take k)) ∧ wr = w1) (fun _ _ i _ => R.length - (intOf i).toNat)
  case atStart => exact ⟨0, Nat.zero_le _, rfl, rfl, rfl⟩
  case round =>
    obtain ⟨k, hk, rfl, rfl, rfl⟩ := hrel
    by_cases hlt : k < R.length
    · obtain ⟨ad, A3, c3, z, rfl, hz, hcell, hIz⟩ := hI1.at_ hlt
      obtain ⟨f, t, rfl, _, f1, f8, t1, t8⟩ := unhide HM z (List.mem_of_getElem? hz)
      obtain ⟨g3, rfl, hc0, hc1⟩ := hIz.pair
      have HS := hide (lastF_snoc (f := F) (b := F) (l := R.take k) (z := [f, t]))
      rw [← take_snoc_r hz] at HS
      have hcap := hIz.cap
      have e0 : at0 [f, t] 0 = f := rfl
      have e1 : at0 [f, t] 1 = t := rfl
      rw [e0, e1] at HS
      clear hz hIz e0 e1
      by_cases hf : f = F
      · have hs2 := unhide HS
        rw [if_pos hf] at hs2
        have HS2 := hide hs2
        subst hf
        obtain ⟨L, hL⟩ : ∃ L, lastF f f (R.take k) = L := ⟨_, rfl⟩
        rw [hL] at HS2 ⊢
        clear hs2 HS
        have hmx := max_if L t
        go_wp2
        go_roundw
        case rel => exact ⟨k + 1, by omega, by go_num, by rw [unhide HS2], trivial⟩
        case measure => simp [intOf]; omega
      · have hs2 := unhide HS
        rw [if_neg hf] at hs2
        have HS2 := hide hs2
        clear hs2 HS
        go_wp2
        go_roundw
        case rel => exact ⟨k + 1, by omega, by go_num, by rw [unhide HS2], trivial⟩
        case measure => simp [intOf]; omega
    · obtain rfl : R.length = k := by omega
      rw [List.take_length, unhide HT]
      go_wp2
      go_ret
      exact ⟨rfl, hb1⟩

theorem ReadsS.rest {w : World} {B n f : Nat} {ad : Addr} {zss : List (List Int)} (h : ReadsS w B (some ad) n zss) (hf : f ≤ n) : ReadsS w B (some (ad.add f)) (n - f) (zss.drop f) :=
  ⟨by rw [List.length_drop, h.1], fun hn => by
    obtain ⟨ad', he, hb, hr⟩ := h.2 (by omega)
    injection he with he
    subst he
    refine ⟨_, rfl, by rw [block_of_add]; exact hb, fun j z hz => ?_⟩
    rw [List.getElem?_drop] at hz
    rw [add_of_add]
    exact hr (f + j) z hz⟩
theorem ijoinsR_any (A : Option Addr) (n c B : Nat) (s : Bool) (zss : List (List Int)) (w : World) (hS : ReadsS w B A n zss) (hB : B ≤ w.heap.size) (hn : n ≤ 1048576) (hsm : ∀ z ∈ zss, z.length ≤ 1048576 ∧ Small z) :
    Calls Tryz.prog 60 #[.slice A n c, .bool s] w (GivesIB w (joinsR s zss) (allFit zss)) := by
  have H1 := hide (sumall_any s A n c B zss w hS hB hn hsm)
  clear hS hsm
  go_enter Tryz.func60, Tryz.ntmps60
  go_wp2_with fail
  refine (unhide H1).mono ?_
  rintro e w1 ⟨A1, c1, rfl, own1, hb1⟩
  clear H1
  go_wp2
  go_ret2
  exact GivesIB.mk _ own1 hb1

/-- A struct of a row and a list of rows is given, whose rows may be older than the call. -/
def GivesXO (w : World) (B : Nat) (root : List Int) (pcs : List (List Int)) (e : Ending) (w' : World) : Prop :=
  ∃ A c A' c', e = .returned (.agg #[.slice A root.length c, .slice A' pcs.length c']) ∧ InfAt w' B (.slice A root.length c) (.slice A' pcs.length c') root pcs ∧ Below w.heap.size w w'
theorem GivesXO.mk {w w' : World} {B : Nat} {rv pv : Value} {root : List Int} {pcs : List (List Int)} (h : InfAt w' B rv pv root pcs) (hb : Below w.heap.size w w') : GivesXO w B root pcs (.returned (.agg #[rv, pv])) w' := by
  obtain ⟨A, c, rfl⟩ := h.row.slice
  obtain ⟨A', c', rfl⟩ := h.pcs.intsS.slice
  exact ⟨A, c, A', c', rfl, h, hb⟩
set_option maxHeartbeats 1600000 in
theorem isplitsum_any (A Ar : Option Addr) (n c cr B : Nat) (s : Bool) (zss : List (List Int)) (root : List Int) (w0 w : World) (hS : IntsS w0 B (.slice A n c) zss) (h0 : Below w0.heap.size w0 w) (hr : Ints w w0.heap.size (.slice Ar root.length cr) root) (hB : B ≤ w0.heap.size)
    (hn : n ≤ 1048576) (h1 : 1 < n) (hsm : ∀ z ∈ zss, z.length ≤ 1048576 ∧ Small z) :
    Calls Tryz.prog 30 #[.slice Ar root.length cr, .slice A n c, .bool s] w (GivesXO w B root (sumPcs s zss)) := by
  obtain ⟨g, rfl⟩ := hS.shape (by omega)
  have hcap := hS.cap
  have hc1 : ¬ c = 1 := by omega
  have hc2 : (1 : Int) ≤ (c : Int) := by omega
  have hn2 : (1 : Int) ≤ (n : Int) := by omega
  have hS1 := hS.below h0
  have hbel := (Below.refl w.heap.size w).alloc (Nat.le_refl _) (.cells #[.slice none 0 0, .slice none 0 0] 28)
  have hS2 := hS1.below hbel
  have hRr := (hS2.readsS).rest (f := 1) (by omega)
  rw [show (⟨g, 0, none⟩ : Addr).add 1 = ⟨g, 1, none⟩ from rfl] at hRr
  have H1 := hide (ijoinsR_any (some ⟨g, 1, none⟩) (n - 1) (c - 1) _ s (zss.drop 1) _ hRr (Nat.le_refl _) (by omega) (fun z hz => hsm z (List.mem_of_mem_drop hz)))
  have hW := Whole.new w 28 #[.slice none 0 0, .slice none 0 0]
  have hz0 : 0 < zss.length := by have := hS.len; omega
  have HP : Hid (sumPcs s zss = [zss.headD [], joinsR s (zss.drop 1)]) := hide rfl
  obtain ⟨ad, A0, c0, z, he, hz, hcell, hI⟩ := hS.at_ (show 0 < n by omega)
  injection he with he
  subst he
  rw [show (⟨g, 0, none⟩ : Addr).add 0 = ⟨g, 0, none⟩ from rfl] at hcell
  have hzz : zss.headD [] = z := by cases zss with | nil => simp at hz0 | cons x r => exact Option.some.inj hz
  rw [hzz] at HP
  have hgl : g < w0.heap.size := by
    obtain ⟨vs, hown, _⟩ := hS
    exact (hown.lt g rfl).2
  have hcell2 := fun (w' : World) (hb : Below w.heap.size w w') => ((h0.trans (hb.mono h0.size)).cell (p := ⟨g, 0, none⟩) hgl).trans hcell
  have hsz0 := h0.size
  obtain ⟨R, hR⟩ : ∃ R, joinsR s (zss.drop 1) = R := ⟨_, rfl⟩
  rw [hR] at H1 HP
  have hA1 : Away (.slice A0 z.length c0) (.slice Ar root.length cr) := apart hI.until_ hr.since (Nat.le_refl _)
  have HI := hide (And.intro (hI.below h0) hA1)
  have HI0 := hide hI.until_
  have HR := hide hr
  clear hS hS1 hS2 hRr hsm hz0 hR hI hcell hz hzz h0 hr hA1
  go_enter Tryz.func30, Tryz.ntmps30
  go_wp2_with fail
  refine (unhide H1).mono ?_
  rintro e w2 ⟨A2, c2, rfl, own2, hb2⟩
  have hW2 := hW.below hb2 (by simp)
  have hb3 := below_after hbel hb2
  have hg2 : w.heap.size < w2.heap.size := hW2.lt
  have q0 := hW2.cell 0
  have q1 := hW2.cell 1
  have f0 := hW2.frozen 0
  have f1 := hW2.frozen 1
  simp only [List.getElem?_toArray, List.getElem?_cons_zero, List.getElem?_cons_succ] at q0 q1
  have hcw := hcell2 w2 hb3
  have HO := hide own2
  have HW := hide (And.intro hW2 hb3)
  clear H1 hW hb2 own2 hW2 hb3 hcell2
  go_wp2
  have hr2 := (unhide HR).below (unhide HW).2
  have hz2 := (unhide HI).1.below (unhide HW).2
  have ho2 := unhide HO
  simp only [World.size_alloc] at ho2
  have hA2 : Away (.slice A0 z.length c0) (.slice A2 R.length c2) := apart (unhide HI0) ho2.since (by omega)
  have hA3 : Away (.slice A2 R.length c2) (.slice Ar root.length cr) := apart' ho2.since (unhide HR).until_ (by omega)
  have hWe := (((unhide HW).1.put 0 (.slice Ar root.length cr)).put 1 (.slice (some ⟨w2.heap.size, 0, none⟩) 2 2)).alloc (.cells #[.slice A0 z.length c0, .slice A2 R.length c2] 24)
  refine bodyPost_ret (v := .agg #[.slice Ar root.length cr, .slice (some ⟨w2.heap.size, 0, none⟩) 2 2]) (results_cell_row Tryz.results30 _ _ w.heap.size 28 _ (0, 0) _ rfl hWe Tryz.underlying28 rfl infInfo) rfl ?_
  have hx5 := hz2.stay (unhide HI0) (((Below.refl w.heap.size w2).setCell (p := ⟨w.heap.size, 0, none⟩) (Nat.le_refl _) (.slice Ar root.length cr)).setCell (p := ⟨w.heap.size, 1, none⟩) (Nat.le_refl _) (.slice (some ⟨w2.heap.size, 0, none⟩) 2 2)) hsz0
  have hr5 := hr2.stay (unhide HR).until_ (((Below.refl w.heap.size w2).setCell (p := ⟨w.heap.size, 0, none⟩) (Nat.le_refl _) (.slice Ar root.length cr)).setCell (p := ⟨w.heap.size, 1, none⟩) (Nat.le_refl _) (.slice (some ⟨w2.heap.size, 0, none⟩) 2 2)) (Nat.le_refl _)
  have hy5 := (ho2.aside (p := ⟨w.heap.size, 0, none⟩) (Nat.lt_succ_self _) (.slice Ar root.length cr)).aside (p := ⟨w.heap.size, 1, none⟩) (Nat.lt_succ_self _) (.slice (some ⟨w2.heap.size, 0, none⟩) 2 2)
  have hF := Fresh.two (r := .slice Ar root.length cr) hx5 (hy5.low (show B ≤ _ by omega)) hA2 (unhide HI).2 hA3 (by simp; omega)
  simp only [World.size_setCell] at hF
  rw [HP]
  refine GivesXO.mk ⟨(hr5.low hB).below ((Below.refl _ _).alloc (Nat.le_refl _) _), hF⟩ ((((unhide HW).2.setCell (Nat.le_refl _) _).setCell (Nat.le_refl _) _).alloc (by simp; omega) _)
end Go.Proofs.YtinnlhfdgbeibaaGreat


/-
  impl.splitLongest, by its contract.
-/

namespace Go.Proofs.YtinnlhfdgbeibaaGreat
set_option maxRecDepth 100000
open Go.RowKit

/-- 'list = append(list, row)', beside a row of integers. -/
theorem wpList_push_beside {ops : Array Oper} {rest : List Oper} {o : Oper} {a : Act} {W : World} {Q : Exit → Act → World → Prop} (hgd : o.guard = none) (sl x : Operand)
    (ho : o.op = .call { callee := .builtin .append, args := #[sl, x], argTypes := #[26, 26] })
    (base : Nat) (w0 wr : World) (v u r : Value) (zss : List (List Int)) (zs : List Int) (hs : a.eval sl = v) (hx : a.eval x = .slice (some ⟨wr.heap.size, 0, none⟩) 1 1) (hW : W = wr.alloc (.cells #[u] 24))
    (hF : Fresh w0 base v zss r) (hb0 : Below w0.heap.size w0 wr) (hu : Ints wr w0.heap.size u zs) (hr : Until w0.heap.size r) (hn : zss.length ≤ 1048576) (hbase : base ≤ w0.heap.size)
    (hK : ∀ v' w', Fresh w' base v' (zss ++ [zs]) r → Below base w0 w' → KeepI w0 w' → wpList Tryz.prog ops Q rest (a.put o.dst v') w') : wpList Tryz.prog ops Q (o :: rest) a W := by
  obtain ⟨vs, hown, hin, ha⟩ := hF
  have hsz := hb0.size
  subst hW
  have hal : Below wr.heap.size wr (wr.alloc (.cells #[u] 24)) := (Below.refl wr.heap.size wr).alloc (Nat.le_refl _) (.cells #[u] 24)
  have hrd : Reads (wr.alloc (.cells #[u] 24)) (wr.heap.size + 1) (some ⟨wr.heap.size, 0, none⟩) 1 [u] := reads_new wr _ _
  have hown1 := own_below hown hb0
  have hown2 := own_below hown1 hal
  obtain ⟨A1, c1, rfl⟩ := hu.slice
  have hball := below_after hb0 hal
  refine wpList_append_rows hgd sl x ho base (wr.heap.size + 1) zss.length 1 1 w0 v (some ⟨wr.heap.size, 0, none⟩) vs [.slice A1 zs.length c1] hs hx hown2 hrd (fun h => by cases h) (fun y hy => by obtain rfl := List.mem_singleton.1 hy; rfl) (by omega) (by omega) (hball.mono hbase) (Nat.le_trans hbase hball.size) fun v' w' h1 h2 h3 _ => ?_
  have hk := (KeepI.of_below hball).trans (KeepI.of_grown hown2 h3)
  have hk1 := (KeepI.of_below hal).trans (KeepI.of_grown hown2 h3)
  refine hK v' w' ⟨vs ++ [.slice A1 zs.length c1], by rw [List.length_append]; exact h1, (hin.keepI hk).push ((hu.low hbase).keepI hk1) (hin.away_new hu.since (Nat.le_refl _)), fun y hy => ?_⟩ h2 hk
  rcases List.mem_append.1 hy with hy | hy
  · exact ha y hy
  · obtain rfl := List.mem_singleton.1 hy
    exact apart' hu.since hr (Nat.le_refl _)

set_option maxHeartbeats 1600000 in
theorem isplitlong_any (A : Option Addr) (n c B : Nat) (zs : List Int) (w : World) (h : Arg w B A n c zs) (hp : isP zs = true) (h2 : 2 ≤ n) :
    Calls Tryz.prog 32 #[.slice A n c] w (GivesX w (patL (topsOf zs (cuts zs 0))) (pcsOf zs (cuts zs 0))) := by
  have hl := h.len
  have hn8 : n ≤ 8 := by have := isP_le hp; omega
  have hbel := (Below.refl w.heap.size w).alloc (Nat.le_refl _) (.cells #[.slice none 0 0, .slice none 0 0] 28)
  have hW := Whole.new w 28 #[.slice none 0 0, .slice none 0 0]
  have HL := hide hl
  have HP := hide hp
  have HA := hide h
  clear hl hp h
  go_enter Tryz.func32, Tryz.ntmps32
  go_wp2_with fail
  go_loopw [3, 4, 5, 6, 7, 8] (fun v pv i _ _ _ wr => ∃ (l : List (Nat × Nat)) (a : Nat), a ≤ n ∧ l.length ≤ a ∧ i = .int .i64 ((a : Int) + 1) ∧ Hid (cuts zs 0 = l ++ cuts zs a) ∧ wr.ownsRow (w.heap.size + 1) 3 1 v l.length (i64s (topsOf zs l)) ∧
    Fresh wr (w.heap.size + 1) pv (pcsOf zs l) v ∧ Below w.heap.size w wr ∧ Whole wr w.heap.size 28 #[.slice none 0 0, .slice none 0 0]) (fun _ _ i _ _ _ _ => n + 1 - (intOf i).toNat)
  case atStart =>
    exact ⟨[], 0, by omega, by simp, rfl, hide rfl, ⟨rfl, .inl ⟨rfl, rfl⟩⟩, ⟨[], ⟨rfl, .inl ⟨rfl, rfl⟩⟩, Inner.nil _ _, fun x hx => by cases hx⟩, hbel, hW⟩
  case round =>
    obtain ⟨l, a, han, hla, rfl, hcut, hT, hF, hbr, hWR⟩ := hrel
    clear hbel hW
    by_cases hlt : a < n
    · have hA := (unhide HA).below hbr
      have hcap := hA.cap
      have HQA := hide hA
      have HK := hide (topK_le zs a (n - 1 - a))
      have HC := hide (cuts_yes (p := zs) (a := a) (by rw [unhide HL]; exact hlt))
      rw [unhide HL] at HC
      have H1 := hide (ilast_any A n c B zs a _ rfl wr hA (unhide HP) hlt h2)
      obtain ⟨k, hk⟩ : ∃ k, topK zs a (n - 1 - a) = k := ⟨_, rfl⟩
      rw [hk] at HK HC H1
      obtain ⟨ad, u, rfl, _⟩ := hA.reads.at_ hlt
      clear hA hk
      have hkn := unhide HK
      have e1 : (a : Int) + 1 ≤ n := by omega
      go_wp2_with fail
      refine (unhide H1).mono ?_
      rintro e w1 ⟨rfl, hb1⟩
      have hA1 := (unhide HQA).below hb1
      have H2 := hide (ipat_any (some (ad.add a)) (k + 1) (c - a) B _ true (patOK_cut (unhide HP) a (k + 1)) w1 (hA1.cut (f := a) (m := k + 1) (by omega)))
      have e3 : IntKind.i64.wrap ((a : Int) + 1 - 1) = a := by rw [IntKind.wrap_i64]; omega
      have e4 : (a : Int) ≤ (a : Int) + (k : Int) + 1 := by omega
      have e5 : (a : Int) + (k : Int) + 1 ≤ (c : Int) := by omega
      have e6 : ((a : Int) + (k : Int) + 1).toNat = a + k + 1 := by omega
      have e7 : a + k + 1 - a = k + 1 := by omega
      have e8 : (0 : Int) ≤ (a : Int) := by omega
      have e9 : ¬ c = a := by omega
      have hbr1 := below_after hbr hb1
      have HX := hide (And.intro hF (And.intro hT (And.intro hWR hb1)))
      clear H1 hF hT hWR hb1 hbr hA1
      go_wp2_with fail
      refine (unhide H2).mono ?_
      rintro e w2 ⟨A2, c2, rfl, own2, hb2⟩
      rw [patR_yes (patOK_cut (unhide HP) a (k + 1))] at own2 ⊢
      have hF1 := (unhide HX).1.below (unhide HX).2.2.2
      have hT1 := own_below (unhide HX).2.1 (unhide HX).2.2.2
      have hun := (Ints.of_own (zs := topsOf zs l) (unhide HX).2.1).until_
      have hsz1 := (unhide HX).2.2.2.size
      have hlw := (unhide HX).2.2.1.lt
      have hWR1 := (unhide HX).2.2.1.below (unhide HX).2.2.2 hlw
      have hT2 := own_below hT1 hb2
      have hpl : (pcsOf zs l).length ≤ 1048576 := by simp [pcsOf]; omega
      clear H2
      go_wp2_with (first
        | (at_builtin; refine wpList_push_beside rfl (.tmp 27) (.tmp 29) rfl (w.heap.size + 1) w1 w2 _ _ _ (pcsOf zs l) _ rfl rfl rfl hF1 hb2 own2 (hun.mono hsz1) hpl (by omega) ?_))
      intro v4 w4 hF4 hb4 hk4
      have hT4 := own_keepI hT1 hk4
      have hWR4 := hWR1.below hb4 (Nat.lt_succ_self _)
      have hbr4 := hbr1.trans (hb4.mono (by omega))
      have hA4 := (unhide HA).below hbr4
      obtain ⟨ad', u', hA', _, hu', hc7⟩ := hA4.reads.at_ hlt
      injection hA' with hA'
      subst hA'
      obtain ⟨z', hz', rfl⟩ := i64_at hu'
      have HZ' := hide (at0_of hz')
      have hsz4 : w.heap.size + 1 ≤ w4.heap.size := hWR4.lt
      clear hu' hz' hA4 hF1 hT1 hWR1 hT2 hb2 own2 hun hpl
      go_wp2_with (first
        | (at_builtin; refine wpList_append_beside rfl (.tmp 31) (.tmp 37) rfl (w.heap.size + 1) l.length w4 _ _ (topsOf zs l) z' _ rfl rfl rfl hT4 hF4 (by omega) hsz4 ?_))
      intro v8 w8 hT8 hF8 hb8
      have hcut2 : cuts zs 0 = (l ++ [(a, k)]) ++ cuts zs (a + k + 1) := by rw [unhide hcut, unhide HC]; simp
      have HCUT2 := hide hcut2
      have hbr8 := hbr4.trans (hb8.mono (by omega))
      have hWR8 := hWR4.below hb8 (Nat.lt_succ_self _)
      have HY := hide (And.intro hT8 (And.intro hF8 (And.intro hbr8 hWR8)))
      clear hcut2 hT8 hF8 hbr8 hWR8 hb8 hT4 hF4 hb4 hk4 hbr4 hWR4 hc7
      go_wp2
      go_roundw
      case rel =>
        refine ⟨l ++ [(a, k)], a + k + 1, by omega, by simp; omega, by go_num, HCUT2, ?_, ?_, (unhide HY).2.2.1, (unhide HY).2.2.2⟩
        · rw [tops_snoc, List.length_append, unhide HZ']; exact (unhide HY).1
        · rw [pcs_snoc]; exact (unhide HY).2.1
      case measure => simp [intOf]; omega
    · obtain rfl : n = a := by omega
      have hcl : cuts zs 0 = l := by rw [unhide hcut, cuts_no (by rw [unhide HL]; omega), List.append_nil]
      have HCL := hide hcl
      have hll : (topsOf zs l).length = l.length := by simp [topsOf]
      have hTI := Ints.of_own (zs := topsOf zs l) hT
      have hsm : Small (topsOf zs l) := fun z hz => by
        obtain ⟨c, hc, rfl⟩ := List.mem_map.1 hz
        have h1 := (mem_cuts 0 (by rw [hcl]; exact hc)).2.1
        have h2 := isP_range (unhide HP) (at0_some (l := zs) (show c.1 < zs.length by omega))
        have h3 := isP_le (unhide HP)
        omega
      obtain ⟨A7, c7, rfl⟩ := hTI.slice
      obtain ⟨A8, c8, rfl⟩ := hF.intsS.slice
      have hok : patOK (topsOf zs l) = true := by rw [← hcl]; exact tops_ok (unhide HP)
      have H9 := hide (ipat_any A7 (topsOf zs l).length c7 _ _ true hok wr (hTI.arg (by omega) hTI.cap hsm))
      rw [patR_yes hok] at H9
      have HPS := hide hF.intsS
      have e1 : ¬ (n : Int) + 1 ≤ n := by omega
      clear hT hTI hsm hF hcl hll hok
      go_wp2_with fail
      refine (unhide H9).mono ?_
      rintro e w5 ⟨A5, c5, rfl, own5, hb5⟩
      have hWR5 := hWR.below hb5 hWR.lt
      have hbr5 := hbr.trans (hb5.mono hbr.size)
      have r0 := hWR5.cell 0
      have r1 := hWR5.cell 1
      have g0 := hWR5.frozen 0
      have g1 := hWR5.frozen 1
      have hltr := hWR5.lt
      simp only [List.getElem?_toArray, List.getElem?_cons_zero, List.getElem?_cons_succ] at r0 r1
      have HO := hide (And.intro own5 hb5)
      clear H9 own5 hb5
      go_wp2_with fail
      have hWe := (hWR5.put 0 (.slice A5 (patL (topsOf zs l)).length c5)).put 1 (.slice A8 (pcsOf zs l).length c8)
      refine bodyPost_ret (v := .agg #[.slice A5 (patL (topsOf zs l)).length c5, .slice A8 (pcsOf zs l).length c8]) (results_cell_row Tryz.results32 _ _ w.heap.size 28 _ (0, 0) _ rfl hWe Tryz.underlying28 rfl infInfo) rfl ?_
      rw [unhide HCL]
      obtain ⟨vs, ho, hin⟩ := unhide HPS
      have hIn : InfAt w5 (w.heap.size + 1) (.slice A5 (patL (topsOf zs l)).length c5) (.slice A8 (pcsOf zs l).length c8) (patL (topsOf zs l)) (pcsOf zs l) :=
        ⟨(unhide HO).1.low hWR.lt, ⟨vs, own_below ho (unhide HO).2, hin.keepI (KeepI.of_below (unhide HO).2), hin.away_new (unhide HO).1.since (Nat.le_refl _)⟩⟩
      exact inf_end hIn (Nat.lt_succ_self _) hbr5
end Go.Proofs.YtinnlhfdgbeibaaGreat


/-
  impl.SplitPerm, by its contract.
-/

namespace Go.Proofs.YtinnlhfdgbeibaaGreat
set_option maxRecDepth 100000
open Go.RowKit

set_option maxHeartbeats 1600000 in
theorem isplit_any (A : Option Addr) (n c B : Nat) (zs : List Int) (w : World) (h : Arg w B A n c zs) :
    Calls Tryz.prog 6 #[.slice A n c] w (GivesXB w (rootR zs) (pcsR zs) (splitOK zs)) := by
  have hl := h.len
  obtain ⟨b, hb⟩ : ∃ b, isP zs = b := ⟨_, rfl⟩
  have hbel := (Below.refl w.heap.size w).alloc (Nat.le_refl _) (.cells #[.slice none 0 0, .slice none 0 0] 28)
  have hW := Whole.new w 28 #[.slice none 0 0, .slice none 0 0]
  have H0 := hide (fun w' (hb' : Below w.heap.size w w') => iisperm_any A n c B zs b hb w' (h.below hb').reads (h.below hb').under h.le h.small)
  cases b with
  | false =>
    rw [rootR_no (splitOK_no1 hb), pcsR_no (splitOK_no1 hb), splitOK_no1 hb]
    clear hb h hl
    go_enter Tryz.func6, Tryz.ntmps6
    go_wp2_with fail
    refine (unhide H0 _ hbel).mono ?_
    rintro e w1 ⟨rfl, hd⟩
    have hW1 := hW.below hd (by simp)
    have hb1 := below_after hbel hd
    have r0 := hW1.cell 0
    have r1 := hW1.cell 1
    have g0 := hW1.frozen 0
    have g1 := hW1.frozen 1
    have hltr := hW1.lt
    simp only [List.getElem?_toArray, List.getElem?_cons_zero, List.getElem?_cons_succ] at r0 r1
    clear hd H0 hW hbel
    go_wp2_with fail
    have hWe := (hW1.put 0 (.slice none 0 0)).put 1 (.slice none 0 0)
    refine bodyPost_ret (v := .tuple #[.agg #[.slice none 0 0, .slice none 0 0], .bool false]) (results_row_tmp Tryz.results6 _ _ w.heap.size 28 _ (0, 0) _ rfl hWe Tryz.underlying28 rfl infInfo) rfl ?_
    exact infB_end false (inf_nil w1 (w.heap.size + 1)) (by omega) hb1
  | true =>
    by_cases h0 : n = 0
    · subst h0
      rw [rootR_no (splitOK_no2 hl), pcsR_no (splitOK_no2 hl), splitOK_no2 hl]
      clear hb h hl
      go_enter Tryz.func6, Tryz.ntmps6
      go_wp2_with fail
      refine (unhide H0 _ hbel).mono ?_
      rintro e w1 ⟨rfl, hd⟩
      have hW1 := hW.below hd (by simp)
      have hb1 := below_after hbel hd
      have r0 := hW1.cell 0
      have r1 := hW1.cell 1
      have g0 := hW1.frozen 0
      have g1 := hW1.frozen 1
      have hltr := hW1.lt
      simp only [List.getElem?_toArray, List.getElem?_cons_zero, List.getElem?_cons_succ] at r0 r1
      clear hd H0 hW hbel
      go_wp2_with fail
      have hWe := (hW1.put 0 (.slice none 0 0)).put 1 (.slice none 0 0)
      refine bodyPost_ret (v := .tuple #[.agg #[.slice none 0 0, .slice none 0 0], .bool false]) (results_row_tmp Tryz.results6 _ _ w.heap.size 28 _ (0, 0) _ rfl hWe Tryz.underlying28 rfl infInfo) rfl ?_
      exact infB_end false (inf_nil w1 (w.heap.size + 1)) (by omega) hb1
    · have hok := splitOK_yes hb (by omega)
      rw [rootR_yes hok, pcsR_yes hok, hok]
      have hn8 : n ≤ 8 := by have := isP_le hb; omega
      clear hok
      by_cases h1 : n = 1
      · subst h1
        have HQ : Hid (rootP zs = [1] ∧ pcsP zs = [[1]]) := hide ⟨by unfold rootP; rw [if_pos hl], by unfold pcsP; rw [if_pos hl]⟩
        clear hb h hl
        go_enter Tryz.func6, Tryz.ntmps6
        go_wp2_with fail
        refine (unhide H0 _ hbel).mono ?_
        rintro e w1 ⟨rfl, hd⟩
        have hW1 := hW.below hd (by simp)
        have hb1 := below_after hbel hd
        have hW3 := ((hW1.alloc (.cells #[.int .i64 1] 3)).alloc (.cells #[.int .i64 1] 3)).alloc (.cells #[.slice (some ⟨w1.heap.size + 1, 0, none⟩) 1 1] 24)
        have hIn := inf_one w1 (w.heap.size + 1) hW1.lt
        have hb3 := ((hb1.alloc hb1.size (.cells #[.int .i64 1] 3)).alloc (by have := hb1.size; simp; omega) (.cells #[.int .i64 1] 3)).alloc (by have := hb1.size; simp; omega) (.cells #[.slice (some ⟨w1.heap.size + 1, 0, none⟩) 1 1] 24)
        have r0 := hW3.cell 0
        have r1 := hW3.cell 1
        have g0 := hW3.frozen 0
        have g1 := hW3.frozen 1
        have hltr := hW1.lt
        have hltr3 := hW3.lt
        have HH := hide (And.intro hIn (And.intro hb3 hW3))
        simp only [List.getElem?_toArray, List.getElem?_cons_zero, List.getElem?_cons_succ] at r0 r1
        clear hd H0 hW hbel hIn hb3 hW3 hb1 hW1
        go_wp2_with fail
        have hWe := ((unhide HH).2.2.put 0 (.slice (some ⟨w1.heap.size, 0, none⟩) 1 1)).put 1 (.slice (some ⟨w1.heap.size + 1 + 1, 0, none⟩) 1 1)
        refine bodyPost_ret (v := .tuple #[.agg #[.slice (some ⟨w1.heap.size, 0, none⟩) 1 1, .slice (some ⟨w1.heap.size + 1 + 1, 0, none⟩) 1 1], .bool true]) (results_row_tmp Tryz.results6 _ _ w.heap.size 28 _ (0, 0) _ rfl hWe Tryz.underlying28 rfl infInfo) rfl ?_
        rw [(unhide HQ).1, (unhide HQ).2]
        exact infB_end true (unhide HH).1 (by omega) (unhide HH).2.1
      · have H1 := hide (fun w' (hb : Below w.heap.size w w') => iparts_any A n c B zs w' (h.below hb))
        have H2 := hide (fun w' (hb : Below w.heap.size w w') => iskews_any A n c B zs w' (h.below hb))
        by_cases h2 : 1 < (partsR zs).length
        · have HQ : Hid (rootP zs = sumRoot false ∧ pcsP zs = sumPcs false (partsR zs)) := hide ⟨by unfold rootP; rw [if_neg (by omega), if_pos h2], by unfold pcsP; rw [if_neg (by omega), if_pos h2]⟩
          clear hb h hl
          go_enter Tryz.func6, Tryz.ntmps6
          go_wp2_with fail
          refine (unhide H0 _ hbel).mono ?_
          rintro e w1 ⟨rfl, hd⟩
          have hW1 := hW.below hd (by simp)
          have hb1 := below_after hbel hd
          clear hd H0 hW hbel
          go_wp2_with fail
          refine (unhide H1 _ hb1).mono ?_
          rintro e w2 ⟨A2, c2, rfl, own2, hb2⟩
          have hW2 := hW1.below hb2 hW1.lt
          have hb3 := below_after hb1 hb2
          have hg2 : w.heap.size + 1 ≤ w2.heap.size := hW2.lt
          have hal := (Below.refl w2.heap.size w2).alloc (Nat.le_refl _) (.cells #[.int .i64 1, .int .i64 2] 3)
          have H3 := hide (isplitsum_any A2 (some ⟨w2.heap.size, 0, none⟩) (partsR zs).length c2 2 (w.heap.size + 1) false (partsR zs) (sumRoot false) w2 (w2.alloc (.cells #[.int .i64 1, .int .i64 2] 3)) (own2.low (by have := hW1.lt; omega)) hal (Ints.made2 w2 w2.heap.size 1 2 (Nat.le_refl _)) hg2
            (by have := (partsR_small zs).1; omega) h2 (fun z hz => ⟨by have := isP_le (partsR_isP hz); omega, isP_small (partsR_isP hz)⟩))
          obtain ⟨N2, hN2⟩ : ∃ N2, (partsR zs).length = N2 := ⟨_, rfl⟩
          have h2i : (1 : Int) < (N2 : Int) := by omega
          rw [hN2] at H3
          rw [hN2]
          have hb4 := below_after hb3 hal
          have hW3 := hW2.alloc (.cells #[.int .i64 1, .int .i64 2] 3)
          clear H1 H2 own2 hb2 hN2 hb1 hb3 hal hW1 hW2
          rw [show (sumRoot false).length = 2 from rfl] at H3
          go_wp2_with fail
          refine (unhide H3).mono ?_
          rintro e w3 ⟨A3, c3, A4, c4, rfl, hIn, hb5⟩
          have hW5 := hW3.below hb5 hW3.lt
          have hbw5 := hb4.trans (hb5.mono hb4.size)
          have hlt5 := hW5.lt
          have q0 := hW5.cell 0
          have q1 := hW5.cell 1
          have f0 := hW5.frozen 0
          have f1 := hW5.frozen 1
          simp only [List.getElem?_toArray, List.getElem?_cons_zero, List.getElem?_cons_succ] at q0 q1
          have HI := hide (And.intro hIn (And.intro hbw5 hW5))
          clear H3 hIn hb5 hb4 hbw5 hW3 hW5
          go_wp2_with fail
          have hWe := ((unhide HI).2.2.put 0 (.slice A3 (sumRoot false).length c3)).put 1 (.slice A4 (sumPcs false (partsR zs)).length c4)
          refine bodyPost_ret (v := .tuple #[.agg #[.slice A3 (sumRoot false).length c3, .slice A4 (sumPcs false (partsR zs)).length c4], .bool true]) (results_row_tmp Tryz.results6 _ _ w.heap.size 28 _ (0, 0) _ rfl hWe Tryz.underlying28 rfl infInfo) rfl ?_
          rw [(unhide HQ).1, (unhide HQ).2]
          exact infB_end true (unhide HI).1 (Nat.lt_succ_self _) (unhide HI).2.1
        · by_cases h3 : 1 < (skewsR zs).length
          · have HQ : Hid (rootP zs = sumRoot true ∧ pcsP zs = sumPcs true (skewsR zs)) := hide ⟨by unfold rootP; rw [if_neg (by omega), if_neg h2, if_pos h3], by unfold pcsP; rw [if_neg (by omega), if_neg h2, if_pos h3]⟩
            obtain ⟨N1, hN1⟩ : ∃ N1, (partsR zs).length = N1 := ⟨_, rfl⟩
            have hn1 : ¬ (1 : Int) < (N1 : Int) := by omega
            clear hb h hl
            go_enter Tryz.func6, Tryz.ntmps6
            go_wp2_with fail
            refine (unhide H0 _ hbel).mono ?_
            rintro e w1 ⟨rfl, hd⟩
            have hW1 := hW.below hd (by simp)
            have hb1 := below_after hbel hd
            clear hd H0 hW hbel
            go_wp2_with fail
            refine (unhide H1 _ hb1).mono ?_
            rintro e wp ⟨Ap, cp, rfl, ownp, hbp⟩
            have hW1 := hW1.below hbp hW1.lt
            have hb1 := below_after hb1 hbp
            rw [hN1]
            clear H1 ownp hbp hN1
            go_wp2_with fail
            refine (unhide H2 _ hb1).mono ?_
            rintro e w2 ⟨A2, c2, rfl, own2, hb2⟩
            have hW2 := hW1.below hb2 hW1.lt
            have hb3 := below_after hb1 hb2
            have hg2 : w.heap.size + 1 ≤ w2.heap.size := hW2.lt
            have hal := (Below.refl w2.heap.size w2).alloc (Nat.le_refl _) (.cells #[.int .i64 2, .int .i64 1] 3)
            have H3 := hide (isplitsum_any A2 (some ⟨w2.heap.size, 0, none⟩) (skewsR zs).length c2 2 (w.heap.size + 1) true (skewsR zs) (sumRoot true) w2 (w2.alloc (.cells #[.int .i64 2, .int .i64 1] 3)) (own2.low (by have := hW1.lt; omega)) hal (Ints.made2 w2 w2.heap.size 2 1 (Nat.le_refl _)) hg2
              (by have := (skewsR_small zs).1; omega) h3 (fun z hz => ⟨by have := isP_le (skewsR_isP hz); omega, isP_small (skewsR_isP hz)⟩))
            obtain ⟨N2, hN2⟩ : ∃ N2, (skewsR zs).length = N2 := ⟨_, rfl⟩
            have h2i : (1 : Int) < (N2 : Int) := by omega
            rw [hN2] at H3
            rw [hN2]
            have hb4 := below_after hb3 hal
            have hW3 := hW2.alloc (.cells #[.int .i64 2, .int .i64 1] 3)
            clear H2 own2 hb2 hN2 hb1 hb3 hal hW1 hW2
            rw [show (sumRoot true).length = 2 from rfl] at H3
            go_wp2_with fail
            refine (unhide H3).mono ?_
            rintro e w3 ⟨A3, c3, A4, c4, rfl, hIn, hb5⟩
            have hW5 := hW3.below hb5 hW3.lt
            have hbw5 := hb4.trans (hb5.mono hb4.size)
            have hlt5 := hW5.lt
            have q0 := hW5.cell 0
            have q1 := hW5.cell 1
            have f0 := hW5.frozen 0
            have f1 := hW5.frozen 1
            simp only [List.getElem?_toArray, List.getElem?_cons_zero, List.getElem?_cons_succ] at q0 q1
            have HI := hide (And.intro hIn (And.intro hbw5 hW5))
            clear H3 hIn hb5 hb4 hbw5 hW3 hW5
            go_wp2_with fail
            have hWe := ((unhide HI).2.2.put 0 (.slice A3 (sumRoot true).length c3)).put 1 (.slice A4 (sumPcs true (skewsR zs)).length c4)
            refine bodyPost_ret (v := .tuple #[.agg #[.slice A3 (sumRoot true).length c3, .slice A4 (sumPcs true (skewsR zs)).length c4], .bool true]) (results_row_tmp Tryz.results6 _ _ w.heap.size 28 _ (0, 0) _ rfl hWe Tryz.underlying28 rfl infInfo) rfl ?_
            rw [(unhide HQ).1, (unhide HQ).2]
            exact infB_end true (unhide HI).1 (Nat.lt_succ_self _) (unhide HI).2.1
          · have HQ : Hid (rootP zs = patL (topsOf zs (cuts zs 0)) ∧ pcsP zs = pcsOf zs (cuts zs 0)) := hide ⟨by unfold rootP; rw [if_neg (by omega), if_neg h2, if_neg h3], by unfold pcsP; rw [if_neg (by omega), if_neg h2, if_neg h3]⟩
            have H3 := hide (fun w' (hb' : Below w.heap.size w w') => isplitlong_any A n c B zs w' (h.below hb') hb (by omega))
            obtain ⟨N1, hN1⟩ : ∃ N1, (partsR zs).length = N1 := ⟨_, rfl⟩
            have hn1 : ¬ (1 : Int) < (N1 : Int) := by omega
            obtain ⟨N2, hN2⟩ : ∃ N2, (skewsR zs).length = N2 := ⟨_, rfl⟩
            have hn2 : ¬ (1 : Int) < (N2 : Int) := by omega
            clear hb h hl
            go_enter Tryz.func6, Tryz.ntmps6
            go_wp2_with fail
            refine (unhide H0 _ hbel).mono ?_
            rintro e w1 ⟨rfl, hd⟩
            have hW1 := hW.below hd (by simp)
            have hb1 := below_after hbel hd
            clear hd H0 hW hbel
            go_wp2_with fail
            refine (unhide H1 _ hb1).mono ?_
            rintro e wp ⟨Ap, cp, rfl, ownp, hbp⟩
            have hW1 := hW1.below hbp hW1.lt
            have hb1 := below_after hb1 hbp
            rw [hN1]
            clear H1 ownp hbp hN1
            go_wp2_with fail
            refine (unhide H2 _ hb1).mono ?_
            rintro e wq ⟨Aq, cq, rfl, ownq, hbq⟩
            have hW1 := hW1.below hbq hW1.lt
            have hb1 := below_after hb1 hbq
            rw [hN2]
            clear H2 ownq hbq hN2
            go_wp2_with fail
            refine (unhide H3 _ hb1).mono ?_
            rintro e w3 ⟨A3, c3, A4, c4, rfl, hIn, hb5⟩
            have hW5 := hW1.below hb5 hW1.lt
            have hbw5 := below_after hb1 hb5
            have hlt5 := hW5.lt
            have hIn := hIn.low (show w.heap.size + 1 ≤ wq.heap.size from hW1.lt)
            have q0 := hW5.cell 0
            have q1 := hW5.cell 1
            have f0 := hW5.frozen 0
            have f1 := hW5.frozen 1
            simp only [List.getElem?_toArray, List.getElem?_cons_zero, List.getElem?_cons_succ] at q0 q1
            have HI := hide (And.intro hIn (And.intro hbw5 hW5))
            clear H3 hIn hb5 hbw5 hW1 hW5 hb1
            go_wp2_with fail
            have hWe := ((unhide HI).2.2.put 0 (.slice A3 (patL (topsOf zs (cuts zs 0))).length c3)).put 1 (.slice A4 (pcsOf zs (cuts zs 0)).length c4)
            refine bodyPost_ret (v := .tuple #[.agg #[.slice A3 (patL (topsOf zs (cuts zs 0))).length c3, .slice A4 (pcsOf zs (cuts zs 0)).length c4], .bool true]) (results_row_tmp Tryz.results6 _ _ w.heap.size 28 _ (0, 0) _ rfl hWe Tryz.underlying28 rfl infInfo) rfl ?_
            rw [(unhide HQ).1, (unhide HQ).2]
            exact infB_end true (unhide HI).1 (Nat.lt_succ_self _) (unhide HI).2.1
end Go.Proofs.YtinnlhfdgbeibaaGreat


/-
  WORDS: a tree of nodes behind pointers, that stands for a permutation: its blocks lie from lo on, before hi. Nothing here speaks of a function of the program.
-/

namespace Go.Proofs.YtinnlhfdgbeibaaGreat
set_option maxRecDepth 100000
open Go.RowKit

/-- A node: its root, its children. -/
def NodeAt (w : World) (lo hi : Nat) (v : Value) (root : List Int) (cv : Value) : Prop :=
  ∃ g A c, v = .pointer (some ⟨g, 0, none⟩) ∧ lo ≤ g ∧ g < hi ∧ Whole w g 80 #[.slice A root.length c, cv] ∧ Ints w lo (.slice A root.length c) root ∧ Until hi (.slice A root.length c)
def Grown : Nat → World → Nat → Nat → Value → List Int → Prop
  | 0, w, lo, hi, v, zs => zs.length = 1 ∧ NodeAt w lo hi v (rootP zs) (.slice none 0 0)
  | m + 1, w, lo, hi, v, zs => (zs.length = 1 ∧ NodeAt w lo hi v (rootP zs) (.slice none 0 0)) ∨
    (zs.length ≠ 1 ∧ ∃ A c vs, NodeAt w lo hi v (rootP zs) (.slice A (pcsP zs).length c) ∧ w.ownsRow lo 50 1 (.slice A (pcsP zs).length c) (pcsP zs).length vs ∧ Until hi (.slice A (pcsP zs).length c) ∧
      ∀ (i : Nat) (x : Value) (z : List Int), vs[i]? = some x → (pcsP zs)[i]? = some z → Grown m w lo hi x z)
/-- The blocks from lo on, before hi, have not turned. -/
def Same (w w' : World) (lo hi : Nat) : Prop := ∀ k, lo ≤ k → k < hi → w'.heap[k]? = w.heap[k]?
theorem Same.of_below {w w' : World} {B lo hi : Nat} (h : Below B w w') (hB : hi ≤ B) : Same w w' lo hi := fun k _ hk => h.block k (by omega)
theorem Same.trans {a b c : World} {lo hi : Nat} (h : Same a b lo hi) (k : Same b c lo hi) : Same a c lo hi := fun j h1 h2 => (k j h1 h2).trans (h j h1 h2)
theorem own_same {w w' : World} {lo hi n : Nat} {e : TypeId} {v : Value} {xs : List Value} (h : w.ownsRow lo e 1 v n xs) (hu : Until hi v) (hs : Same w w' lo hi) : w'.ownsRow lo e 1 v n xs := by
  refine ⟨h.1, ?_⟩
  rcases h.2 with hn | ⟨g, cap, cur, rfl, hb, hgg, hr⟩
  · exact .inl hn
  · exact .inr ⟨g, cap, cur, rfl, hb, (hs g hb (hu g rfl)).trans hgg, hr⟩
theorem ints_same {w w' : World} {lo hi : Nat} {v : Value} {zs : List Int} (h : Ints w lo v zs) (hu : Until hi v) (hs : Same w w' lo hi) : Ints w' lo v zs := by
  refine ⟨h.1, ?_⟩
  rcases h.2 with hn | ⟨g, cap, cur, e, rfl, hb, hgg, hr⟩
  · exact .inl hn
  · exact .inr ⟨g, cap, cur, e, rfl, hb, (hs g hb (hu g rfl)).trans hgg, hr⟩
theorem NodeAt.same {w w' : World} {lo hi : Nat} {v cv : Value} {root : List Int} (h : NodeAt w lo hi v root cv) (hs : Same w w' lo hi) : NodeAt w' lo hi v root cv := by
  obtain ⟨g, A, c, h1, h2, h3, h4, h5, h6⟩ := h
  exact ⟨g, A, c, h1, h2, h3, (hs g h2 h3).trans h4, ints_same h5 h6 hs, h6⟩
theorem NodeAt.wide {w : World} {lo hi lo' hi' : Nat} {v cv : Value} {root : List Int} (h : NodeAt w lo hi v root cv) (hl : lo' ≤ lo) (hh : hi ≤ hi') : NodeAt w lo' hi' v root cv := by
  obtain ⟨g, A, c, h1, h2, h3, h4, h5, h6⟩ := h
  exact ⟨g, A, c, h1, by omega, by omega, h4, h5.low hl, h6.mono hh⟩
theorem own_low {w : World} {B B' n : Nat} {e : TypeId} {v : Value} {xs : List Value} (h : w.ownsRow B e 1 v n xs) (hB : B' ≤ B) : w.ownsRow B' e 1 v n xs := by
  refine ⟨h.1, ?_⟩
  rcases h.2 with hn | ⟨g, cap, cur, rfl, hb, hr⟩
  · exact .inl hn
  · exact .inr ⟨g, cap, cur, rfl, by omega, hr⟩
theorem Grown.same {w w' : World} {lo hi : Nat} (hs : Same w w' lo hi) : ∀ (m : Nat) (v : Value) (zs : List Int), Grown m w lo hi v zs → Grown m w' lo hi v zs
  | 0, v, zs, h => ⟨h.1, h.2.same hs⟩
  | m + 1, v, zs, h => by
    rcases h with ⟨h1, h2⟩ | ⟨h1, A, c, vs, h2, h3, h4, h5⟩
    · exact .inl ⟨h1, h2.same hs⟩
    · exact .inr ⟨h1, A, c, vs, h2.same hs, own_same h3 h4 hs, h4, fun i x z hx hz => Grown.same hs m x z (h5 i x z hx hz)⟩
theorem Grown.wide {w : World} {lo hi lo' hi' : Nat} (hl : lo' ≤ lo) (hh : hi ≤ hi') : ∀ (m : Nat) (v : Value) (zs : List Int), Grown m w lo hi v zs → Grown m w lo' hi' v zs
  | 0, v, zs, h => ⟨h.1, h.2.wide hl hh⟩
  | m + 1, v, zs, h => by
    rcases h with ⟨h1, h2⟩ | ⟨h1, A, c, vs, h2, h3, h4, h5⟩
    · exact .inl ⟨h1, h2.wide hl hh⟩
    · exact .inr ⟨h1, A, c, vs, h2.wide hl hh, own_low h3 hl, h4.mono hh, fun i x z hx hz => Grown.wide hl hh m x z (h5 i x z hx hz)⟩
theorem Grown.below {w w' : World} {m lo hi : Nat} {v : Value} {zs : List Int} (h : Grown m w lo hi v zs) (hb : Below w.heap.size w w') (hh : hi ≤ w.heap.size) : Grown m w' lo hi v zs := Grown.same (Same.of_below hb hh) m v zs h
theorem Grown.ptr {m : Nat} {w : World} {lo hi : Nat} {v : Value} {zs : List Int} (h : Grown m w lo hi v zs) : ∃ g, v = .pointer (some ⟨g, 0, none⟩) := by
  cases m with
  | zero => obtain ⟨_, g, A, c, h1, _⟩ := h; exact ⟨g, h1⟩
  | succ m => rcases h with ⟨_, g, A, c, h1, _⟩ | ⟨_, _, _, _, ⟨g, A, c, h1, _⟩, _⟩ <;> exact ⟨g, h1⟩

/-- The children of a node of block g so far: the row of pointers and the trees lie apart from each other, behind g. -/
def Kids (w : World) (g m k : Nat) (cv : Value) (R : List (List Int)) : Prop :=
  ∃ vs, w.ownsRow (g + 1) 50 1 cv k vs ∧ ∀ (i : Nat) (x : Value) (z : List Int), vs[i]? = some x → R[i]? = some z → ∃ lo hi, g + 1 ≤ lo ∧ hi ≤ w.heap.size ∧ (∀ b, cv.ownBlock = some b → b < lo ∨ hi ≤ b) ∧ Grown m w lo hi x z
theorem Kids.nil (w : World) (g m : Nat) (R : List (List Int)) : Kids w g m 0 (.slice none 0 0) R := ⟨[], ⟨rfl, .inl ⟨rfl, rfl⟩⟩, fun i x z hx => by simp at hx⟩
theorem Kids.aside {w : World} {g m k : Nat} {cv : Value} {R : List (List Int)} (h : Kids w g m k cv R) (i : Nat) (u : Value) : Kids (w.setCell ⟨g, i, none⟩ u) g m k cv R := by
  obtain ⟨vs, h1, h2⟩ := h
  refine ⟨vs, own_aside h1 (Nat.lt_succ_self _) u, fun i x z hx hz => ?_⟩
  obtain ⟨lo, hi, a1, a2, a3, a4⟩ := h2 i x z hx hz
  exact ⟨lo, hi, a1, by simpa using a2, a3, Grown.same (fun k hk _ => Below.heap_setCell w _ u k (by simp; omega)) m x z a4⟩
theorem Kids.shape {w : World} {g m k : Nat} {cv : Value} {R : List (List Int)} (h : Kids w g m k cv R) : ∃ A c, cv = .slice A k c := by
  obtain ⟨vs, h1, _⟩ := h
  obtain ⟨A, c, h2, _⟩ := Reads.of_own h1
  exact ⟨A, c, h2⟩
theorem ptrInfo : (Tryz.prog.info? 50).map (fun i => (i.zero, i.size, i.bytes)) = some (some (.pointer none), 1, 8) := by kernel_rfl
/-- 'x.children = append(x.children, child)': the child's tree was made since world w0. -/
theorem Kids.grow {w0 wr w' : World} {g m k : Nat} {cv cv' x : Value} {R : List (List Int)} {z : List Int} {vs : List Value} (hb0 : Below w0.heap.size w0 wr) (hg : g + 1 ≤ w0.heap.size)
    (hown : w0.ownsRow (g + 1) 50 1 cv k vs) (hkids : ∀ (i : Nat) (x : Value) (z : List Int), vs[i]? = some x → R[i]? = some z → ∃ lo hi, g + 1 ≤ lo ∧ hi ≤ w0.heap.size ∧ (∀ b, cv.ownBlock = some b → b < lo ∨ hi ≤ b) ∧ Grown m w0 lo hi x z)
    (hx : Grown m wr w0.heap.size wr.heap.size x z) (hz : R[k]? = some z) (o : Obj)
    (hown' : w'.ownsRow (g + 1) 50 1 cv' (k + 1) (vs ++ [x])) (hgr : (wr.alloc o).grownBy w' cv.ownBlock) (hcv : cv'.ownBlock = cv.ownBlock ∨ cv'.ownBlock = some (wr.alloc o).heap.size) :
    Kids w' g m (k + 1) cv' R := by
  have hsz := hb0.size
  have hvl : vs.length = k := by simpa using hown.1
  have hsw := hgr.size
  simp only [World.size_alloc] at hsw hcv
  have hst : ∀ lo hi, hi ≤ wr.heap.size → (∀ b, cv.ownBlock = some b → b < lo ∨ hi ≤ b) → Same wr w' lo hi := fun lo hi hh hoff j h1 h2 => by
    refine (hgr.block j (by simp; omega) fun e => ?_).trans (Below.heap_alloc wr o j (by omega))
    have := hoff j e.symm
    omega
  have hoff' : ∀ lo hi, hi ≤ wr.heap.size → (∀ b, cv.ownBlock = some b → b < lo ∨ hi ≤ b) → ∀ b, cv'.ownBlock = some b → b < lo ∨ hi ≤ b := fun lo hi hh hoff b hb => by
    rcases hcv with h | h
    · exact hoff b (h.symm.trans hb)
    · rw [h] at hb; injection hb with hb; omega
  refine ⟨vs ++ [x], hown', fun i y u hy hu => ?_⟩
  by_cases hi : i < k
  · rw [List.getElem?_append_left (by omega)] at hy
    obtain ⟨lo, hh, a1, a2, a3, a4⟩ := hkids i y u hy hu
    exact ⟨lo, hh, a1, by omega, hoff' lo hh (by omega) a3, Grown.same (hst lo hh (by omega) a3) m y u (a4.below hb0 a2)⟩
  · have hik : i = k := by
      have := (List.getElem?_eq_some_iff.1 hy).1
      rw [List.length_append, hvl, List.length_singleton] at this
      omega
    subst hik
    rw [List.getElem?_append_right (by omega), hvl, Nat.sub_self] at hy
    injection hy with hy
    subst hy
    rw [hz] at hu
    injection hu with hu
    subst hu
    have hoff : ∀ b, cv.ownBlock = some b → b < w0.heap.size ∨ wr.heap.size ≤ b := fun b hb => .inl (hown.lt b hb).2
    exact ⟨w0.heap.size, wr.heap.size, hg, by omega, hoff' _ _ (Nat.le_refl _) hoff, Grown.same (hst _ _ (Nat.le_refl _) hoff) m x z hx⟩
end Go.Proofs.YtinnlhfdgbeibaaGreat


/-
  impl.growTree, by its contract.
-/

namespace Go.Proofs.YtinnlhfdgbeibaaGreat
set_option maxRecDepth 100000
open Go.RowKit

set_option maxHeartbeats 1600000 in
theorem grow_no (A : Option Addr) (n c B : Nat) (zs : List Int) (w : World) (h : Arg w B A n c zs) (hs : splitOK zs = false) :
    Calls Tryz.prog 41 #[.slice A n c] w (fun e w' => e = .returned (.tuple #[.pointer none, .bool false]) ∧ Below w.heap.size w w') := by
  have H0 := hide (isplit_any A n c B zs w h)
  rw [hs] at H0
  clear h hs
  go_enter Tryz.func41, Tryz.ntmps41
  go_wp2_with fail
  refine (unhide H0).mono ?_
  rintro e w2 ⟨A3, c3, A4, c4, rfl, hIn, hb2⟩
  have hb3 := below_after hb2 ((Below.refl _ w2).alloc (Nat.le_refl _) (.cells #[.slice A3 (rootR zs).length c3, .slice A4 (pcsR zs).length c4] 28))
  clear H0 hIn hb2
  go_wp2
  go_ret2
  exact ⟨rfl, hb3⟩
def GrowsTo (m : Nat) (zs : List Int) (w : World) (e : Ending) (w' : World) : Prop :=
  ∃ v, e = .returned (.tuple #[v, .bool true]) ∧ Grown m w' w.heap.size w'.heap.size v zs ∧ Below w.heap.size w w'
set_option maxHeartbeats 1600000 in
theorem grow_one (m : Nat) (A : Option Addr) (c B : Nat) (zs : List Int) (w : World) (h : Arg w B A 1 c zs) (hs : splitOK zs = true) :
    Calls Tryz.prog 41 #[.slice A 1 c] w (GrowsTo m zs w) := by
  have H0 := hide (isplit_any A 1 c B zs w h)
  have hl := h.len
  rw [hs, rootR_yes hs] at H0
  have HL := hide hl
  obtain ⟨R, hR⟩ : ∃ R, pcsR zs = R := ⟨_, rfl⟩
  rw [hR] at H0
  clear h hs hl hR
  go_enter Tryz.func41, Tryz.ntmps41
  go_wp2_with fail
  refine (unhide H0).mono ?_
  rintro e w2 ⟨A3, c3, A4, c4, rfl, hIn, hb2⟩
  have hal := ((Below.refl _ w2).alloc (Nat.le_refl _) (.cells #[.slice A3 (rootP zs).length c3, .slice A4 R.length c4] 28))
  have hal2 := hal.alloc (by simp) (.cells #[.slice A3 (rootP zs).length c3, .slice none 0 0] 80)
  have hb3 := below_after hb2 hal2
  have hrow := hIn.row.below hal2
  have hun := hIn.row.until_
  have hW := Whole.new (w2.alloc (.cells #[.slice A3 (rootP zs).length c3, .slice A4 R.length c4] 28)) 80 #[.slice A3 (rootP zs).length c3, .slice none 0 0]
  have hsz := hb2.size
  clear H0 hIn hb2 hal hal2
  go_wp2
  go_ret2
  have hN : NodeAt ((w2.alloc (.cells #[.slice A3 (rootP zs).length c3, .slice A4 R.length c4] 28)).alloc (.cells #[.slice A3 (rootP zs).length c3, .slice none 0 0] 80))
    w.heap.size (w2.heap.size + 1 + 1) (.pointer (some ⟨w2.heap.size + 1, 0, none⟩)) (rootP zs) (.slice none 0 0) :=
    ⟨w2.heap.size + 1, A3, c3, rfl, by omega, by omega, by simpa using hW, hrow, hun.mono (by omega)⟩
  refine ⟨_, rfl, ?_, hb3⟩
  simp only [World.size_alloc]
  cases m with
  | zero => exact ⟨unhide HL, hN⟩
  | succ m => exact .inl ⟨unhide HL, hN⟩

set_option maxHeartbeats 1600000 in
theorem grow_any : ∀ (m : Nat) (A : Option Addr) (n c B : Nat) (zs : List Int) (w : World) (_ : Arg w B A n c zs) (_ : splitOK zs = true) (_ : n ≤ m + 1) (_ : m ≤ 1000),
    Calls Tryz.prog 41 #[.slice A n c] w (GrowsTo m zs w) := by
  intro m
  induction m with
  | zero =>
    intro A n c B zs w h hs hn hm
    obtain rfl : n = 1 := by have := (splitOK_all hs).2; have := h.len; omega
    exact grow_one 0 A c B zs w h hs
  | succ m ih =>
    intro A n c B zs w h hs hn hm
    by_cases h1 : n = 1
    · subst h1; exact grow_one _ A c B zs w h hs
    · have hl := h.len
      have hp := (splitOK_all hs).1
      have H0 := hide (isplit_any A n c B zs w h)
      rw [pcsR_yes hs, rootR_yes hs, hs] at H0
      have HP := hide (fun z hz => pcsP_at hp z hz)
      have h2n : (1 : Int) < (n : Int) := by have := (splitOK_all hs).2; omega
      have hpc := pcsP_len hp
      have hg : ∀ w', ∀ lo hi v A c vs, NodeAt w' lo hi v (rootP zs) (.slice A (pcsP zs).length c) → w'.ownsRow lo 50 1 (.slice A (pcsP zs).length c) (pcsP zs).length vs → Until hi (.slice A (pcsP zs).length c) →
        (∀ (i : Nat) (x : Value) (z : List Int), vs[i]? = some x → (pcsP zs)[i]? = some z → Grown m w' lo hi x z) → Grown (m + 1) w' lo hi v zs := fun w' lo hi v A c vs a1 a2 a3 a4 => .inr ⟨by omega, A, c, vs, a1, a2, a3, a4⟩
      have HG := hide hg
      obtain ⟨R, hR⟩ : ∃ R, pcsP zs = R := ⟨_, rfl⟩
      rw [hR] at H0 HP hpc HG
      have HL := hide hl
      have h1i : ((n : Int) == 1) = false := by simp; omega
      clear hR hs hp h hl hg
      go_enter Tryz.func41, Tryz.ntmps41
      go_wp2_with fail
      refine (unhide H0).mono ?_
      rintro e w2 ⟨A3, c3, A4, c4, rfl, hIn, hb2⟩
      have hal := ((Below.refl _ w2).alloc (Nat.le_refl _) (.cells #[.slice A3 (rootP zs).length c3, .slice A4 R.length c4] 28))
      obtain ⟨w3, hw3⟩ : ∃ w3, w2.alloc (.cells #[.slice A3 (rootP zs).length c3, .slice A4 R.length c4] 28) = w3 := ⟨_, rfl⟩
      have hlt3 : w2.heap.size < w3.heap.size := by rw [← hw3]; simp
      have hWs : Whole w3 w2.heap.size 28 #[.slice A3 (rootP zs).length c3, .slice A4 R.length c4] := by rw [← hw3]; exact Whole.new w2 _ _
      have s0 := hWs.cell 0
      have s1 := hWs.cell 1
      simp only [List.getElem?_toArray, List.getElem?_cons_zero, List.getElem?_cons_succ] at s0 s1
      rw [hw3] at hal
      have hb3 := below_after hb2 hal
      have hrow := hIn.row.below hal
      have hpcs := hIn.pcs.intsS.below hal
      have hun := hIn.row.until_
      clear H0 hIn hb2 hal
      have hWn := Whole.new w3 80 #[.slice A3 (rootP zs).length c3, .slice none 0 0]
      have hb4 := (Below.refl _ w3).alloc (Nat.le_refl _) (.cells #[.slice A3 (rootP zs).length c3, .slice none 0 0] 80)
      go_wp2
      clear s0 s1 hWs hlt3 hw3
      go_loopw [8, 9, 10, 29] (fun _ _ _ i wr => ∃ (k : Nat) (cv : Value), k ≤ R.length ∧ i = .int .i64 k ∧ Below w3.heap.size w3 wr ∧ Whole wr w3.heap.size 80 #[.slice A3 (rootP zs).length c3, cv] ∧ Kids wr w3.heap.size m k cv R) (fun _ _ _ i _ => R.length - (intOf i).toNat)
      case atStart => exact ⟨0, .slice none 0 0, Nat.zero_le _, rfl, hb4, hWn, Kids.nil _ _ _ _⟩
      case round =>
        obtain ⟨k, cv, hk, rfl, hbr, hWr, hKr⟩ := hrel
        clear hb4 hWn
        by_cases hlt : k < R.length
        · obtain ⟨ad, A1, c1, z, rfl, hz, hcell, hIz⟩ := (hpcs.below hbr).at_ hlt
          have hzp := unhide HP z (List.mem_of_getElem? hz)
          have hz1 : z.length ≤ m + 1 := by have := hzp.2.2.2 (by rw [unhide HL]; omega); rw [unhide HL] at this; omega
          have HI := hide (ih A1 z.length c1 _ z wr (hIz.argP hzp.1) (splitOK_yes hzp.1 hzp.2.1) hz1 (by omega))
          have HZ := hide hz
          clear hz hIz hzp hz1
          go_wp2_with fail
          refine (unhide HI).mono ?_
          rintro e w4 ⟨v, rfl, hG, hb4⟩
          obtain ⟨gv, rfl⟩ := hG.ptr
          obtain ⟨Ak, ck, rfl⟩ := hKr.shape
          have hW4 := hWr.below hb4 hWr.lt
          have hlt4 := hW4.lt
          have q1 := hW4.cell 1
          have f1 := hW4.frozen 1
          simp only [List.getElem?_toArray, List.getElem?_cons_zero, List.getElem?_cons_succ] at q1
          have hltr := hWr.lt
          obtain ⟨i0, hi, hz0, hz1, hz2⟩ := info_parts ptrInfo
          obtain ⟨vs, hown, hkids⟩ := hKr
          have hown4 := (own_below hown hb4).alloc (.cells #[.pointer (some ⟨gv, 0, none⟩)] 50)
          have hkc : k ≤ 8 := by omega
          have HH := hide (And.intro hG (And.intro hb4 (And.intro hW4 (And.intro (And.intro hown hkids) (And.intro hWr hbr)))))
          clear HI hG hb4 hW4 hown hkids hWr hbr hcell
          go_wp2_with (first
            | (at_builtin; refine wpList_append_own_at _ rfl (.tmp 42) (.tmp 44) 78 rfl (w3.heap.size + 1) 50 i0 (.pointer none) 1 8 Tryz.underlying78 hi hz0 hz1 hz2 rfl (by decide) _ k vs rfl hown4 ⟨w4.heap.size, 0, none⟩ 1 1 [.pointer (some ⟨gv, 0, none⟩)] rfl rfl (cell_one_new _ _ _) ?_ ?_ ?_ ?_ ?_))
          · intro y hy
            obtain rfl := List.mem_singleton.1 hy
            rfl
          · unfold maxLen; omega
          · omega
          · simp; omega
          · intro v5 w5 own5 gr5 _ hcv5
            obtain ⟨hG, hb4, hW4, ⟨hown, hkids⟩, hWr, hbr⟩ := unhide HH
            have hK5 := Kids.grow hb4 hWr.lt hown hkids hG (unhide HZ) _ own5 gr5 (by rw [World.size_alloc]; exact hcv5)
            obtain ⟨A5, c5, rfl⟩ := hK5.shape
            have hge := fun (b : Nat) (hb : (Value.slice Ak k ck).ownBlock = some b) => (hown.lt b hb).1
            have hW5 := (hW4.alloc (.cells #[.pointer (some ⟨gv, 0, none⟩)] 50)).grown gr5 (fun e => by have := hge _ e.symm; omega)
            have hb5 := ((hbr.trans (hb4.mono hbr.size)).alloc (by omega) (.cells #[.pointer (some ⟨gv, 0, none⟩)] 50)).grown gr5 (by simp; omega) (fun b hb => by have := hge b hb; omega)
            have q5 := hW5.cell 1
            have f5 := hW5.frozen 1
            have hlt5 := hW5.lt
            simp only [List.getElem?_toArray, List.getElem?_cons_zero, List.getElem?_cons_succ] at q5
            have hW6 := hW5.put 1 (.slice A5 (k + 1) c5)
            have hK6 := hK5.aside 1 (.slice A5 (k + 1) c5)
            have hb6 := hb5.setCell (p := ⟨w3.heap.size, 1, none⟩) (Nat.le_refl _) (.slice A5 (k + 1) c5)
            have HF := hide (And.intro hb6 (And.intro hW6 hK6))
            clear hG hb4 hW4 hown hkids hWr hbr hK5 hW5 hb5 hK6 hW6 hb6 own5 gr5 hcv5 hown4 HH q1 f1 hlt4
            go_wp2
            go_roundw
            case rel =>
              exact ⟨k + 1, .slice A5 (k + 1) c5, by omega, by go_num, (unhide HF).1, (unhide HF).2.1, (unhide HF).2.2⟩
            case measure => simp [intOf]; omega
        · obtain rfl : R.length = k := by omega
          obtain ⟨Ak, ck, rfl⟩ := hKr.shape
          have hlt3 := hWr.lt
          have hrr := hrow.below hbr
          have hbw := below_after hb3 hbr
          obtain ⟨vs, hown, hkids⟩ := hKr
          have hsz3 := hb3.size
          have hsz := hbw.size
          have hfin : Grown (m + 1) wr w.heap.size wr.heap.size (.pointer (some ⟨w3.heap.size, 0, none⟩)) zs := by
            refine unhide HG wr _ _ _ Ak ck vs ⟨w3.heap.size, A3, c3, rfl, hsz3, hlt3, hWr, hrr, hrr.until_⟩ (own_low hown (by omega)) (fun b hb => (hown.lt b hb).2) (fun i x z hx hz => ?_)
            obtain ⟨lo, hi, a1, a2, _, a4⟩ := hkids i x z hx hz
            exact a4.wide (by omega) a2
          clear hown hkids hWr
          go_wp2
          go_ret2
          exact ⟨_, rfl, hfin, hbw⟩
end Go.Proofs.YtinnlhfdgbeibaaGreat


/-
  spec.TreeDepth, by its contract.
-/

namespace Go.Proofs.YtinnlhfdgbeibaaGreat
set_option maxRecDepth 100000
open Go.RowKit

/-- The depth of a tree, of the parts' depths; m is enough when it is not less than the length less one. -/
def maxL : List Int → Int
  | [] => 0
  | z :: r => max z (maxL r)
def depF : Nat → List Int → Int
  | 0, p => if splitOK p then 0 else -1
  | m + 1, p => if splitOK p then (if p.length = 1 then 0 else (pcsP p).foldl (fun b z => max b (1 + depF m z)) 0) else -1
def foldD (m : Nat) (l : List (List Int)) : Int := l.foldl (fun b z => max b (1 + depF m z)) 0
theorem foldD_snoc {m : Nat} {l : List (List Int)} {z : List Int} : foldD m (l ++ [z]) = max (foldD m l) (1 + depF m z) := by simp [foldD]
theorem foldD_ge (m : Nat) (l : List (List Int)) (b : Int) : b ≤ l.foldl (fun b z => max b (1 + depF m z)) b := by
  induction l generalizing b with
  | nil => simp
  | cons z r ih => rw [List.foldl_cons]; have := ih (max b (1 + depF m z)); omega
theorem fold_le {m : Nat} {l : List (List Int)} {c : Int} (h : ∀ z ∈ l, 1 + depF m z ≤ c) : ∀ b, b ≤ c → l.foldl (fun b z => max b (1 + depF m z)) b ≤ c := by
  induction l with
  | nil => intro b hb; simpa using hb
  | cons z r ih =>
    intro b hb
    rw [List.foldl_cons]
    exact ih (fun y hy => h y (List.mem_cons_of_mem _ hy)) _ (by have := h z (by simp); omega)
theorem dep_rng : ∀ (m : Nat) (p : List Int), -1 ≤ depF m p ∧ depF m p ≤ m
  | 0, p => by rw [depF]; split <;> omega
  | m + 1, p => by
    rw [depF]
    split
    · split
      · omega
      · have h1 := foldD_ge m (pcsP p) 0
        have h2 := fold_le (m := m) (l := pcsP p) (c := (m : Int) + 1) (fun z _ => by have := (dep_rng m z).2; omega) 0 (by omega)
        omega
    · omega
theorem foldD_rng (m : Nat) (l : List (List Int)) : 0 ≤ foldD m l ∧ foldD m l ≤ (m : Int) + 1 :=
  ⟨foldD_ge m l 0, fold_le (fun z _ => by have := (dep_rng m z).2; omega) 0 (by omega)⟩
theorem depF_no {m : Nat} {p : List Int} (h : splitOK p = false) : depF m p = -1 := by cases m <;> simp [depF, h]
theorem depF_one {m : Nat} {p : List Int} (h : splitOK p = true) (h1 : p.length = 1) : depF m p = 0 := by cases m <;> simp [depF, h, h1]
theorem depF_many {m : Nat} {p : List Int} (h : splitOK p = true) (h1 : p.length ≠ 1) : depF (m + 1) p = foldD m (pcsP p) := by simp [depF, h, h1, foldD]

set_option maxHeartbeats 1600000 in
theorem sdepth_low (A : Option Addr) (n c B : Nat) (zs : List Int) (w : World) (h : Arg w B A n c zs) (hn : n = 1 ∨ splitOK zs = false) (d : Int) (hd : d = if splitOK zs then 0 else -1) :
    Calls Tryz.prog 15 #[.slice A n c] w (fun e w' => e = .returned (.int .i64 d) ∧ Below w.heap.size w w') := by
  have hl := h.len
  have H0 := hide (ssplit_any A n c B zs w h)
  obtain ⟨b, hb⟩ : ∃ b, splitOK zs = b := ⟨_, rfl⟩
  rw [hb] at H0 hd
  cases b with
  | false =>
    subst hd
    rw [rootR_no hb, pcsR_no hb] at H0
    clear hb h hl hn
    go_enter Tryz.func15, Tryz.ntmps15
    go_wp2_with fail
    refine (unhide H0).mono ?_
    rintro e w2 ⟨A3, c3, A4, c4, rfl, hIn, hb2⟩
    clear H0
    go_wp2
    go_ret
    exact ⟨rfl, below_after hb2 ((Below.refl _ w2).alloc (Nat.le_refl _) _)⟩
  | true =>
    subst hd
    obtain rfl : n = 1 := by simpa [hb] using hn
    have hpl : (pcsR zs).length = 1 := by rw [pcsR_yes hb, pcsP, if_pos hl]; rfl
    have HPL := hide hpl
    clear hb h hl hn hpl
    go_enter Tryz.func15, Tryz.ntmps15
    go_wp2_with fail
    refine (unhide H0).mono ?_
    rintro e w2 ⟨A3, c3, A4, c4, rfl, hIn, hb2⟩
    rw [unhide HPL]
    have hb3 := below_after hb2 ((Below.refl _ w2).alloc (Nat.le_refl _) (.cells #[.slice A3 (rootR zs).length c3, .slice A4 1 c4] 28))
    clear H0 hIn hb2
    have hW := Whole.new w2 28 #[.slice A3 (rootR zs).length c3, .slice A4 1 c4]
    have q1 := hW.cell 1
    simp only [List.getElem?_toArray, List.getElem?_cons_zero, List.getElem?_cons_succ] at q1
    go_wp2
    go_loopw [5, 6] (fun b i wr => b = .int .i64 0 ∧ i = .int .i64 0 ∧ wr = w2.alloc (.cells #[.slice A3 (rootR zs).length c3, .slice A4 1 c4] 28)) (fun _ _ _ => 0)
    case atStart => exact ⟨rfl, rfl, rfl⟩
    case round =>
      obtain ⟨rfl, rfl, rfl⟩ := hrel
      go_wp2
      go_ret
      exact ⟨rfl, hb3⟩

set_option maxHeartbeats 1600000 in
theorem sdepth_any : ∀ (m : Nat) (A : Option Addr) (n c B : Nat) (zs : List Int) (w : World) (_ : Arg w B A n c zs) (_ : n ≤ m + 1) (_ : m ≤ 1000),
    Calls Tryz.prog 15 #[.slice A n c] w (fun e w' => e = .returned (.int .i64 (depF m zs)) ∧ Below w.heap.size w w') := by
  intro m
  induction m with
  | zero =>
    intro A n c B zs w h hn hm
    refine sdepth_low A n c B zs w h ?_ _ rfl
    by_cases h1 : n = 1
    · exact .inl h1
    · exact .inr (splitOK_no2 (by rw [h.len]; omega))
  | succ m ih =>
    intro A n c B zs w h hn hm
    by_cases hlow : n = 1 ∨ splitOK zs = false
    · refine sdepth_low A n c B zs w h hlow _ ?_
      rcases hlow with h1 | h1
      · cases hs : splitOK zs with
        | false => rw [depF_no hs]; rfl
        | true => rw [depF_one hs (by rw [h.len]; exact h1)]; rfl
      · rw [depF_no h1, h1]; rfl
    · obtain ⟨hn1, hs⟩ := not_or.1 hlow
      have hs : splitOK zs = true := by simpa using hs
      have hl := h.len
      have hp := (splitOK_all hs).1
      have H0 := hide (ssplit_any A n c B zs w h)
      rw [pcsR_yes hs, hs] at H0
      have HP := hide (fun z hz => pcsP_at hp z hz)
      have h8 := isP_le hp
      have hD := depF_many (m := m) hs (by omega)
      rw [hD]
      have HF := hide (foldD_rng m)
      have HG := hide (dep_rng m)
      have h2n : (1 : Int) < (n : Int) := by have := (splitOK_all hs).2; omega
      have hpc := pcsP_len hp
      obtain ⟨R, hR⟩ : ∃ R, pcsP zs = R := ⟨_, rfl⟩
      rw [hR] at H0 HP hpc ⊢
      have HL := hide hl
      clear hD hR hs hlow hp h hl h8
      go_enter Tryz.func15, Tryz.ntmps15
      go_wp2_with fail
      refine (unhide H0).mono ?_
      rintro e w2 ⟨A3, c3, A4, c4, rfl, hIn, hb2⟩
      have hb3 := below_after hb2 ((Below.refl _ w2).alloc (Nat.le_refl _) (.cells #[.slice A3 (rootR zs).length c3, .slice A4 R.length c4] 28))
      have hW := Whole.new w2 28 #[.slice A3 (rootR zs).length c3, .slice A4 R.length c4]
      have hS := hIn.pcs.intsS.below ((Below.refl _ w2).alloc (Nat.le_refl _) (.cells #[.slice A3 (rootR zs).length c3, .slice A4 R.length c4] 28))
      clear H0 hIn hb2
      go_wp2
      go_loopw [5, 6] (fun b i wr => ∃ k : Nat, k ≤ R.length ∧ i = .int .i64 k ∧ b = .int .i64 (foldD m (R.take k)) ∧ Below w.heap.size w wr ∧ Whole wr w2.heap.size 28 #[.slice A3 (rootR zs).length c3, .slice A4 R.length c4] ∧ IntsS wr w.heap.size (.slice A4 R.length c4) R) (fun _ i _ => R.length - (intOf i).toNat)
      case atStart => exact ⟨0, Nat.zero_le _, rfl, rfl, hb3, hW, hS⟩
      case round =>
        obtain ⟨k, hk, rfl, rfl, hbr, hWr, hSr⟩ := hrel
        clear hb3 hW hS
        have q1 := hWr.cell 1
        simp only [List.getElem?_toArray, List.getElem?_cons_zero, List.getElem?_cons_succ] at q1
        have hf := unhide HF (R.take k)
        by_cases hlt : k < R.length
        · obtain ⟨ad, A1, c1, z, rfl, hz, hcell, hIz⟩ := hSr.at_ hlt
          have hzp := unhide HP z (List.mem_of_getElem? hz)
          have hz1 : z.length ≤ m + 1 := by have := hzp.2.2.2 (by rw [unhide HL]; omega); rw [unhide HL] at this; omega
          have HI := hide (ih A1 z.length c1 _ z wr (hIz.argP hzp.1) hz1 (by omega))
          have HT := hide (take_snoc_r hz)
          have hd := unhide HG z
          clear hz hIz hzp hz1
          obtain ⟨D, hD⟩ : ∃ D, depF m z = D := ⟨_, rfl⟩
          have HD := hide hD
          rw [hD] at HI hd
          obtain ⟨F, hF⟩ : ∃ F, foldD m (R.take k) = F := ⟨_, rfl⟩
          have HFF := hide hF
          rw [hF] at hf ⊢
          clear hD hF
          go_wp2_with fail
          refine (unhide HI).mono ?_
          rintro e w4 ⟨rfl, hb4⟩
          go_wp2_with fail
          refine (max_any _ _ _).mono ?_
          rintro e w5 ⟨rfl, rfl⟩
          have hb5 := below_after hbr hb4
          have hW5 := hWr.below hb4 hWr.lt
          have hS5 := hSr.below hb4
          have hE : Hid (max F (1 + D) = foldD m (R.take (k + 1))) := hide (by rw [unhide HT, foldD_snoc, unhide HFF, unhide HD])
          clear HI hb4 hbr hWr hSr hcell q1
          go_wp2
          go_roundw
          case rel => exact ⟨k + 1, by omega, by go_num, by rw [unhide hE], hb5, hW5, hS5⟩
          case measure => simp [intOf]; omega
        · obtain rfl : R.length = k := by omega
          rw [List.take_length]
          clear hSr
          go_wp2
          go_ret
          exact ⟨rfl, hbr⟩
end Go.Proofs.YtinnlhfdgbeibaaGreat


/-
  (*impl.node).depth, impl.TreeDepth, by their contracts.
-/

namespace Go.Proofs.YtinnlhfdgbeibaaGreat
set_option maxRecDepth 100000
open Go.RowKit

theorem Grown.leaf {m : Nat} {w : World} {lo hi : Nat} {v : Value} {zs : List Int} (h : Grown m w lo hi v zs) (h1 : zs.length = 1) : NodeAt w lo hi v (rootP zs) (.slice none 0 0) := by
  cases m with
  | zero => exact h.2
  | succ m =>
    rcases h with ⟨_, h⟩ | ⟨h0, _⟩
    · exact h
    · exact absurd h1 h0
theorem Grown.tree {m : Nat} {w : World} {lo hi : Nat} {v : Value} {zs : List Int} (h : Grown m w lo hi v zs) (h1 : zs.length ≠ 1) : ∃ k A c vs, m = k + 1 ∧ NodeAt w lo hi v (rootP zs) (.slice A (pcsP zs).length c) ∧ w.ownsRow lo 50 1 (.slice A (pcsP zs).length c) (pcsP zs).length vs ∧ Until hi (.slice A (pcsP zs).length c) ∧
      ∀ (i : Nat) (x : Value) (z : List Int), vs[i]? = some x → (pcsP zs)[i]? = some z → Grown k w lo hi x z := by
  cases m with
  | zero => exact absurd h.1 h1
  | succ m =>
    rcases h with ⟨h0, _⟩ | ⟨_, A, c, vs, h2, h3, h4, h5⟩
    · exact absurd h0 h1
    · exact ⟨m, A, c, vs, rfl, h2, h3, h4, h5⟩
theorem NodeAt.cells {w : World} {lo hi : Nat} {v cv : Value} {root : List Int} (h : NodeAt w lo hi v root cv) : ∃ g A c, v = .pointer (some ⟨g, 0, none⟩) ∧ g < hi ∧ w.cell? ⟨g, 0, none⟩ = some (.slice A root.length c) ∧ w.cell? ⟨g, 1, none⟩ = some cv ∧ Ints w lo (.slice A root.length c) root := by
  obtain ⟨g, A, c, h1, h2, h3, h4, h5, h6⟩ := h
  exact ⟨g, A, c, h1, h3, h4.cell 0, h4.cell 1, h5⟩

set_option maxHeartbeats 1600000 in
theorem depth_any : ∀ (m : Nat) (v : Value) (lo hi : Nat) (zs : List Int) (w : World) (_ : Grown m w lo hi v zs) (_ : hi ≤ w.heap.size) (_ : splitOK zs = true) (_ : m ≤ 1000),
    Calls Tryz.prog 45 #[v] w (fun e w' => e = .returned (.int .i64 (depF m zs)) ∧ Below w.heap.size w w') := by
  intro m
  induction m with
  | zero =>
    intro v lo hi zs w h hh hs hm
    obtain ⟨g, A, c, rfl, _, q0, q1, _⟩ := (h.leaf h.1).cells
    rw [depF_one hs h.1]
    clear h hs
    go_enter Tryz.func45, Tryz.ntmps45
    go_wp2
    go_loopw [3, 5, 11] (fun b _ i wr => b = .int .i64 0 ∧ i = .int .i64 0 ∧ wr = w) (fun _ _ _ _ => 0)
    case atStart => exact ⟨rfl, rfl, rfl⟩
    case round =>
      obtain ⟨rfl, rfl, rfl⟩ := hrel
      go_wp2
      go_ret
      exact ⟨rfl, Below.refl _ _⟩
  | succ m ih =>
    intro v lo hi zs w h hh hs hm
    by_cases h1 : zs.length = 1
    · obtain ⟨g, A, c, rfl, _, q0, q1, _⟩ := (h.leaf h1).cells
      rw [depF_one hs h1]
      clear h hs
      go_enter Tryz.func45, Tryz.ntmps45
      go_wp2
      go_loopw [3, 5, 11] (fun b _ i wr => b = .int .i64 0 ∧ i = .int .i64 0 ∧ wr = w) (fun _ _ _ _ => 0)
      case atStart => exact ⟨rfl, rfl, rfl⟩
      case round =>
        obtain ⟨rfl, rfl, rfl⟩ := hrel
        go_wp2
        go_ret
        exact ⟨rfl, Below.refl _ _⟩
    · obtain ⟨m', A, c, vs, hm', hN, hown, hun, hkids⟩ := h.tree h1
      obtain rfl : m = m' := by omega
      obtain ⟨g, A0, c0, rfl, _, q0, q1, _⟩ := hN.cells
      have hp := (splitOK_all hs).1
      have hD := depF_many (m := m) hs h1
      rw [hD]
      have HF := hide (foldD_rng m)
      have HG := hide (dep_rng m)
      have HP := hide (fun z hz => pcsP_at hp z hz)
      have hpc := pcsP_len hp
      obtain ⟨R, hR⟩ : ∃ R, pcsP zs = R := ⟨_, rfl⟩
      rw [hR] at hown hun hkids q1 HP hpc ⊢
      have HK := hide hkids
      have hvl : vs.length = R.length := by simpa using hown.1
      have hrd := Reads.of_own_at hown
      clear hN h hs hD hp hR hkids hun hown
      go_enter Tryz.func45, Tryz.ntmps45
      go_wp2
      go_loopw [3, 5, 11] (fun b _ i wr => ∃ k : Nat, k ≤ R.length ∧ i = .int .i64 k ∧ b = .int .i64 (foldD m (R.take k)) ∧ Below w.heap.size w wr) (fun _ _ i _ => R.length - (intOf i).toNat)
      case atStart => exact ⟨0, Nat.zero_le _, rfl, rfl, Below.refl _ _⟩
      case round =>
        obtain ⟨k, hk, rfl, rfl, hbr⟩ := hrel
        have hf := unhide HF (R.take k)
        by_cases hlt : k < R.length
        · obtain ⟨ad, x, rfl, _, hx, hcell⟩ := (hrd.below hbr).at_ hlt
          obtain ⟨z, hz⟩ : ∃ z, R[k]? = some z := ⟨_, List.getElem?_eq_getElem hlt⟩
          have hGz := unhide HK k x z hx hz
          have hzp := unhide HP z (List.mem_of_getElem? hz)
          obtain ⟨gx, rfl⟩ := hGz.ptr
          have HI := hide (ih _ lo hi z wr (hGz.below hbr hh) (Nat.le_trans hh hbr.size) (splitOK_yes hzp.1 hzp.2.1) (by omega))
          have HT := hide (take_snoc_r hz)
          have hd := unhide HG z
          clear hz hGz hzp hx
          obtain ⟨D, hD⟩ : ∃ D, depF m z = D := ⟨_, rfl⟩
          have HD := hide hD
          rw [hD] at HI hd
          obtain ⟨F, hF⟩ : ∃ F, foldD m (R.take k) = F := ⟨_, rfl⟩
          have HFF := hide hF
          rw [hF] at hf ⊢
          clear hD hF
          have hmx := max_if F (1 + D)
          go_wp2_with fail
          refine (unhide HI).mono ?_
          rintro e w4 ⟨rfl, hb4⟩
          have hb5 := below_after hbr hb4
          have hE : Hid (max F (1 + D) = foldD m (R.take (k + 1))) := hide (by rw [unhide HT, foldD_snoc, unhide HFF, unhide HD])
          clear HI hb4 hbr hcell
          go_wp2
          go_roundw
          case rel => exact ⟨k + 1, by omega, by go_num, by rw [unhide hE], hb5⟩
          case measure => simp [intOf]; omega
        · obtain rfl : R.length = k := by omega
          rw [List.take_length]
          go_wp2
          go_ret
          exact ⟨rfl, hbr⟩

set_option maxHeartbeats 1600000 in
theorem idepth_any (m : Nat) (A : Option Addr) (n c B : Nat) (zs : List Int) (w : World) (h : Arg w B A n c zs) (hn : n ≤ m + 1) (hm : m ≤ 1000) :
    Calls Tryz.prog 14 #[.slice A n c] w (fun e w' => e = .returned (.int .i64 (depF m zs)) ∧ Below w.heap.size w w') := by
  obtain ⟨b, hb⟩ : ∃ b, splitOK zs = b := ⟨_, rfl⟩
  cases b with
  | false =>
    have H0 := hide (grow_no A n c B zs w h hb)
    rw [depF_no hb]
    clear h hb
    go_enter Tryz.func14, Tryz.ntmps14
    go_wp2_with fail
    refine (unhide H0).mono ?_
    rintro e w2 ⟨rfl, hb2⟩
    clear H0
    go_wp2
    go_ret
    exact ⟨rfl, hb2⟩
  | true =>
    have H0 := hide (grow_any m A n c B zs w h hb hn hm)
    have HB := hide hb
    clear h hb
    go_enter Tryz.func14, Tryz.ntmps14
    go_wp2_with fail
    refine (unhide H0).mono ?_
    rintro e w2 ⟨v, rfl, hG, hb2⟩
    have H1 := hide (depth_any m v _ _ zs w2 hG (Nat.le_refl _) (unhide HB) hm)
    clear H0 hG
    go_wp2_with fail
    refine (unhide H1).mono ?_
    rintro e w3 ⟨rfl, hb3⟩
    clear H1
    go_wp2
    go_ret
    exact ⟨rfl, below_after hb2 hb3⟩
end Go.Proofs.YtinnlhfdgbeibaaGreat


/-
  spec.FormatInt, by its contract: the decimal numeral.
-/

namespace Go.Proofs.YtinnlhfdgbeibaaGreat
set_option maxRecDepth 100000
open Go.RowKit

/-- What is still to be written of m, ahead of l. -/
def decR (m : Nat) (l : List UInt8) : List UInt8 := if m = 0 then l else Lib.decDigits m ++ l
theorem decR_step {m : Nat} (h : m ≠ 0) (l : List UInt8) : decR m l = decR (m / 10) (UInt8.ofNat (48 + m % 10) :: l) := by
  unfold decR
  rw [if_neg h]
  by_cases h10 : m < 10
  · rw [if_pos (by omega), Lib.decDigits_one h10, Nat.mod_eq_of_lt h10]; rfl
  · rw [if_neg (by omega)]
    rw [Lib.decDigits, dif_neg h10, List.append_assoc]; rfl

theorem cv_one {P : Program} {src dst e : TypeId} (hs : P.underlying src = some (.slice e)) (he : P.underlying e = some (.int .u8)) (hd : P.underlying dst = some .string) (W : World) (x : Int) :
    (convert src dst (.slice (some ⟨W.heap.size, 0, none⟩) 1 1)).run P (W.alloc (.cells #[.int .u8 x] e)) = .ok (.string ⟨#[UInt8.ofNat x.toNat]⟩) (W.alloc (.cells #[.int .u8 x] e)) := by
  rw [run_convert_bytes_string _ src dst e _ 1 1 hs he hd]
  have h := run_bytesToString (P := P) (W.alloc (.cells #[.int .u8 x] e)) ⟨W.heap.size, 0, none⟩ 1 1 [x] (by rw [show (1 : Nat) = ([Value.int .u8 x] : List Value).length from rfl]; exact run_loadCells_list (P := P) _ _ [Value.int .u8 x] (fun j v hj => by
    match j, hj with
    | 0, hj => simp at hj; subst hj; simp [Addr.add]))
  exact h

theorem one_app {b b' : UInt8} (l : List UInt8) (h : b = b') : Value.string (⟨#[b]⟩ ++ ⟨l.toArray⟩) = .string ⟨(b' :: l).toArray⟩ := by
  subst h
  congr 1
theorem neg_rem {m : Int} (h : m ≤ 0) : m.tmod 10 = -((m.natAbs % 10 : Nat) : Int) := by
  obtain ⟨u, rfl⟩ : ∃ u : Nat, m = -(u : Int) := ⟨m.natAbs, by omega⟩
  rw [Int.neg_tmod, Int.natAbs_neg, Int.natAbs_natCast]; rfl
theorem neg_quo {m : Int} (h : m ≤ 0) : m.tdiv 10 = -((m.natAbs / 10 : Nat) : Int) := by
  obtain ⟨u, rfl⟩ : ∃ u : Nat, m = -(u : Int) := ⟨m.natAbs, by omega⟩
  rw [Int.neg_tdiv, Int.natAbs_neg, Int.natAbs_natCast]; rfl
theorem left_short {m n : Int} {l : List UInt8} (h0 : -9223372036854775808 ≤ n) (h1 : n ≤ 9223372036854775807) (h : decR m.natAbs l = Lib.decDigits n.natAbs) : l.length ≤ 21 := by
  have h2 := Lib.itoa_length_le n h0 h1
  have h3 : (Lib.decDigits n.natAbs).length ≤ (Lib.itoa n).length := by
    unfold Lib.itoa
    by_cases hn : n < 0
    · rw [if_pos hn]; simp
    · rw [if_neg hn, show n.natAbs = n.toNat from by omega]; exact Nat.le_refl _
  have h4 : l.length ≤ (decR m.natAbs l).length := by
    unfold decR
    split <;> simp
  rw [h] at h4
  omega

set_option maxRecDepth 100000 in
set_option maxHeartbeats 1600000 in
theorem sfmt_any (n : Int) (h0 : -9223372036854775808 ≤ n) (h1 : n ≤ 9223372036854775807) (w : World) :
    Calls Tryz.prog 74 #[.int .i64 n] w fun e w' => e = .returned (.string ⟨(Lib.itoa n).toArray⟩) ∧ Below w.heap.size w w' := by
  by_cases hz : n = 0
  · subst hz
    go_enter Tryz.func74, Tryz.ntmps74
    go_wp2
    go_ret
    exact ⟨ret_str (by rw [show Lib.itoa 0 = [48] from by rw [Lib.itoa, if_neg (by omega)]; exact Lib.decDigits_one (by omega)]), Below.refl _ _⟩
  · by_cases hneg : n < 0
    · go_enter Tryz.func74, Tryz.ntmps74
      go_wp2
      go_loopw [0, 4] (fun nv o wr => ∃ (m : Int) (l : List UInt8), nv = .int .i64 m ∧ o = .string ⟨l.toArray⟩ ∧ m ≤ 0 ∧ -9223372036854775808 ≤ m ∧ Below w.heap.size w wr ∧ Hid (decR m.natAbs l = Lib.decDigits n.natAbs)) (fun nv _ _ => (intOf nv).natAbs)
      case atStart => exact ⟨n, [], rfl, rfl, by omega, h0, Below.refl _ _, by unfold Hid decR; rw [if_neg (by omega), List.append_nil]⟩
      case round =>
        obtain ⟨m, l, rfl, rfl, hm0, hm1, hb, hd⟩ := hrel
        by_cases hmz : m = 0
        · subst hmz
          have hl := left_short h0 h1 (unhide hd)
          have HI := hide (show Lib.itoa n = 45 :: l by
            have h := unhide hd
            simp only [decR, Int.natAbs_zero, if_true] at h
            rw [Lib.itoa, if_pos hneg, ← h])
          clear hd h0 h1
          go_wp2
          go_ret
          exact ⟨by rw [unhide HI]; exact congrArg Ending.returned (one_app l rfl), hb⟩
        · have hR := neg_rem hm0
          have hA : -10 < m.tmod 10 := by omega
          have hB : m.tmod 10 ≤ 0 := by omega
          have hl := left_short h0 h1 (unhide hd)
          have HM := hide hR
          have HQ := hide (neg_quo hm0)
          have hq0 : m.tdiv 10 ≤ 0 := by rw [unhide HQ]; omega
          have hq1 : -9223372036854775808 ≤ m.tdiv 10 := by rw [unhide HQ]; omega
          have hst := hide (show decR (m.tdiv 10).natAbs (UInt8.ofNat (48 + m.natAbs % 10) :: l) = Lib.decDigits n.natAbs by
            rw [← unhide hd, decR_step (m := m.natAbs) (by omega) l, neg_quo hm0, Int.natAbs_neg, Int.natAbs_natCast])
          have hms := hide (show (m.tdiv 10).natAbs < m.natAbs by rw [neg_quo hm0]; omega)
          clear hR h0 h1
          have hcv := cv_one (P := Tryz.prog) Tryz.underlying22 Tryz.underlying5 Tryz.underlying9 wr
          go_wp2
          all_goals go_roundw
          case measure => exact unhide hms
          case measure => exact unhide hms
          case rel => exact ⟨_, _, rfl, one_app l (congrArg UInt8.ofNat (by have := unhide HM; omega)), hq0, hq1, hb.alloc hb.size _, hst⟩
          case rel => exact ⟨_, _, rfl, one_app l (congrArg UInt8.ofNat (by have := unhide HM; omega)), hq0, hq1, hb.alloc hb.size _, hst⟩
    · go_enter Tryz.func74, Tryz.ntmps74
      go_wp2
      go_loopw [0, 4] (fun nv o wr => ∃ (m : Int) (l : List UInt8), nv = .int .i64 m ∧ o = .string ⟨l.toArray⟩ ∧ 0 ≤ m ∧ m ≤ 9223372036854775807 ∧ Below w.heap.size w wr ∧ Hid (decR m.natAbs l = Lib.decDigits n.natAbs)) (fun nv _ _ => (intOf nv).natAbs)
      case atStart => exact ⟨n, [], rfl, rfl, by omega, h1, Below.refl _ _, by unfold Hid decR; rw [if_neg (by omega), List.append_nil]⟩
      case round =>
        obtain ⟨m, l, rfl, rfl, hm0, hm1, hb, hd⟩ := hrel
        by_cases hmz : m = 0
        · subst hmz
          have hl := left_short h0 h1 (unhide hd)
          have HI := hide (show Lib.itoa n = l by
            have h := unhide hd
            simp only [decR, Int.natAbs_zero, if_true] at h
            rw [Lib.itoa, if_neg (by omega), show n.toNat = n.natAbs from by omega, ← h])
          clear hd h0 h1
          go_wp2
          go_ret
          exact ⟨by rw [unhide HI]; rfl, hb⟩
        · have hA : 0 ≤ m % 10 := by omega
          have hB : m % 10 < 10 := by omega
          have hl := left_short h0 h1 (unhide hd)
          have HM := hide (show m % 10 = ((m.natAbs % 10 : Nat) : Int) by omega)
          have hq0 : 0 ≤ m / 10 := by omega
          have hq1 : m / 10 ≤ 9223372036854775807 := by omega
          have hst := hide (show decR (m / 10).natAbs (UInt8.ofNat (48 + m.natAbs % 10) :: l) = Lib.decDigits n.natAbs by
            rw [← unhide hd, decR_step (m := m.natAbs) (by omega) l]; congr 1; omega)
          have hms := hide (show (m / 10).natAbs < m.natAbs by omega)
          clear h0 h1
          have hcv := cv_one (P := Tryz.prog) Tryz.underlying22 Tryz.underlying5 Tryz.underlying9 wr
          go_wp2
          go_roundw
          case measure => exact unhide hms
          case rel => exact ⟨_, _, rfl, one_app l (congrArg UInt8.ofNat (by have := unhide HM; omega)), hq0, hq1, hb.alloc hb.size _, hst⟩

end Go.Proofs.YtinnlhfdgbeibaaGreat


/-
  spec.PermText and impl.PermText, by their contracts.
-/

namespace Go.Proofs.YtinnlhfdgbeibaaGreat
set_option maxRecDepth 100000
open Go.RowKit

theorem cat_list (a b : List UInt8) : (⟨a.toArray⟩ ++ ⟨b.toArray⟩ : ByteArray) = ⟨(a ++ b).toArray⟩ := by
  refine ByteArray.ext ?_
  simp
theorem fmt1_any (z : Int) (h0 : 1 ≤ z) (h1 : z ≤ 8) (w : World) :
    Calls Tryz.prog 74 #[.int .i64 z] w fun e w' => e = .returned (.string ⟨[dgt z].toArray⟩) ∧ Below w.heap.size w w' := by
  have h := sfmt_any z (by omega) (by omega) w
  rw [itoa_one h0 h1] at h
  exact h
theorem str_eq {a b : ByteArray} (h : a = b) : Value.string a = .string b := by rw [h]

set_option maxHeartbeats 800000 in
theorem stext_any (A : Option Addr) (n c B : Nat) (zs : List Int) (w : World) (h : Arg w B A n c zs) :
    Calls Tryz.prog 43 #[.slice A n c] w (GivesS w (ptext zs)) := by
  obtain ⟨bp, hp⟩ : ∃ b, isP zs = b := ⟨_, rfl⟩
  have H1 := hide (sisperm_any A n c B zs bp hp w h.reads h.le h.cap)
  have hl := h.len
  cases bp with
  | false =>
    rw [ptext_no hp]
    clear hp h hl
    go_enter Tryz.func43, Tryz.ntmps43
    go_wp2_with fail
    refine (unhide H1).mono ?_
    rintro e w1 ⟨rfl, hd⟩
    have hb := hd.below w.heap.size
    clear hd H1
    go_wp2
    go_ret
    exact ⟨rfl, hb⟩
  | true =>
    by_cases h0 : n = 0
    · subst h0
      rw [ptext_nil hp hl]
      clear hp h hl
      go_enter Tryz.func43, Tryz.ntmps43
      go_wp2_with fail
      refine (unhide H1).mono ?_
      rintro e w1 ⟨rfl, hd⟩
      have hb := hd.below w.heap.size
      clear hd H1
      go_wp2
      go_ret
      exact ⟨rfl, hb⟩
    · rw [ptext_yes hp (by omega)]
      have hr := h.reads
      have hB := h.under
      have hn8 : n ≤ 8 := by have := isP_le hp; omega
      have HP := hide (fun k z hz => isP_range hp (k := k) (z := z) hz)
      have HL := hide hl
      have h0' : ((n : Int) == 0) = false := by simp; omega
      clear hp h hl
      go_enter Tryz.func43, Tryz.ntmps43
      go_wp2_with fail
      refine (unhide H1).mono ?_
      rintro e w1 ⟨rfl, hd⟩
      have hb1 := hd.below w.heap.size
      clear hd H1
      go_wp2
      go_loopw [3, 4] (fun o i wr => ∃ k : Nat, k ≤ n ∧ i = .int .i64 k ∧ o = .string ⟨(textL (zs.take k)).toArray⟩ ∧ Below w.heap.size w wr) (fun _ i _ => n - (intOf i).toNat)
      case atStart => exact ⟨0, Nat.zero_le _, rfl, rfl, hb1⟩
      case round =>
        obtain ⟨k, hk, rfl, rfl, hb⟩ := hrel
        clear hb1
        have htl : (textL (zs.take k)).length ≤ 8 := by rw [textL_length]; have := List.length_take_le k zs; omega
        by_cases hlt : k < n
        · obtain ⟨ad, u, rfl, had, hu, hc⟩ := ((hr.more hB).below hb).at_ hlt
          obtain ⟨z, hz, rfl⟩ := i64_at hu
          obtain ⟨hz1, hz2⟩ := unhide HP k z hz
          rw [unhide HL] at hz2
          have H2 := hide (fmt1_any z hz1 (by omega) wr)
          have hstep := hide (textL_step hz)
          clear hu hz
          go_wp2_with fail
          refine (unhide H2).mono ?_
          rintro e w2 ⟨rfl, hb2⟩
          have hb3 := below_after hb hb2
          clear H2 hb2 hb
          go_wp2
          go_roundw
          case rel => exact ⟨k + 1, by omega, by go_num, str_eq (by rw [unhide hstep, ← cat_list]), hb3⟩
          case measure => simp [intOf]; omega
        · obtain rfl : n = k := by omega
          have e : zs.take n = zs := List.take_of_length_le (by rw [unhide HL]; exact Nat.le_refl _)
          rw [e] at htl ⊢
          clear e
          go_wp2
          go_ret
          exact ⟨rfl, hb⟩

theorem byteInfo : (Tryz.prog.info? 5).map (fun i => (i.zero, i.size, i.bytes)) = some (some (.int .u8 0), 1, 1) := by kernel_rfl
def u8c (ns : List Int) : List Value := ns.map (Value.int .u8)
theorem cv_row {P : Program} {src dst e : TypeId} (hs : P.underlying src = some (.slice e)) (he : P.underlying e = some (.int .u8)) (hd : P.underlying dst = some .string) (w : World) (B g n c : Nat) (t : TypeId) (ns : List Int)
    (hown : w.ownsRow B t 1 (.slice (some ⟨g, 0, none⟩) n c) n (u8c ns)) :
    (convert src dst (.slice (some ⟨g, 0, none⟩) n c)).run P w = .ok (.string ⟨(ns.map fun n => UInt8.ofNat n.toNat).toArray⟩) w := by
  rw [run_convert_bytes_string _ src dst e _ n c hs he hd]
  have hn : n = (u8c ns).length := by have := hown.1; omega
  have h := run_bytesToString (P := P) w ⟨g, 0, none⟩ n c ns (by
    have := run_loadCells_list (P := P) (w := w) ⟨g, 0, none⟩ (u8c ns) (fun j v hj => hown.cells (g := g) rfl j v hj)
    rwa [← hn] at this)
  rw [push_list] at h
  simpa using h

set_option maxHeartbeats 800000 in
theorem itext_any (A : Option Addr) (n c B : Nat) (zs : List Int) (w : World) (h : Arg w B A n c zs) :
    Calls Tryz.prog 72 #[.slice A n c] w (GivesS w (ptext zs)) := by
  obtain ⟨bp, hp⟩ : ∃ b, isP zs = b := ⟨_, rfl⟩
  have H1 := hide (iisperm_any A n c B zs bp hp w h.reads h.under h.le h.small)
  have hl := h.len
  cases bp with
  | false =>
    rw [ptext_no hp]
    clear hp h hl
    go_enter Tryz.func72, Tryz.ntmps72
    go_wp2_with fail
    refine (unhide H1).mono ?_
    rintro e w1 ⟨rfl, hb⟩
    clear H1
    go_wp2
    go_ret
    exact ⟨rfl, hb⟩
  | true =>
    by_cases h0 : n = 0
    · subst h0
      rw [ptext_nil hp hl]
      clear hp h hl
      go_enter Tryz.func72, Tryz.ntmps72
      go_wp2_with fail
      refine (unhide H1).mono ?_
      rintro e w1 ⟨rfl, hb⟩
      clear H1
      go_wp2
      go_ret
      exact ⟨rfl, hb⟩
    · rw [ptext_yes hp (by omega)]
      obtain ⟨i0, hi, hz0, hz1, hz2⟩ := info_parts byteInfo
      have hr := h.reads
      have hB := h.under
      have hn8 : n ≤ 8 := by have := isP_le hp; omega
      have HP := hide (fun k z hz => isP_range hp (k := k) (z := z) hz)
      have HT := hide (textI_bytes (l := zs) (fun z hz => by have := (isP_true.1 hp).2.1 z hz; omega))
      have HL := hide hl
      have h0' : ((n : Int) == 0) = false := by simp; omega
      clear hp h hl
      go_enter Tryz.func72, Tryz.ntmps72
      go_wp2_with fail
      refine (unhide H1).mono ?_
      rintro e w0 ⟨rfl, hb0⟩
      have hs0 := hb0.size
      clear H1
      go_wp2_with (first
        | (at_make; refine wpList_make_full _ rfl (.tmp 13) (.tmp 13) 22 rfl w.heap.size 5 i0 (.int .u8 0) 1 Tryz.underlying22 hi hz0 hz1 _ _ _ _ n rfl rfl (by first | rfl | omega) (by first | rfl | omega) (by rw [hz2]; omega) (by unfold maxLen; omega) hs0 ?_; intro w1 hown hg))
      have hb1 := hb0.grown hg hs0 (by simp)
      clear hg hb0
      obtain ⟨g, hg⟩ : ∃ g, g = w0.heap.size := ⟨_, rfl⟩
      rw [← hg] at hown ⊢
      clear hg hs0
      go_loopw [4, 5, 17] (fun _ _ i wr => ∃ (k : Nat) (xs : List Value), k ≤ n ∧ i = .int .i64 k ∧ Below w.heap.size w wr ∧ wr.ownsRow w.heap.size 5 1 (.slice (some ⟨g, 0, none⟩) n n) n xs ∧ Hid (xs.take k = (u8c (textI zs)).take k)) (fun _ _ i _ => n - (intOf i).toNat)
      case atStart => exact ⟨0, _, Nat.zero_le _, rfl, hb1, hown, by exact rfl⟩
      case round =>
        obtain ⟨k, xs, hk, rfl, hb, hown', hx⟩ := hrel
        clear hown hb1
        have hlx : xs.length = n := by simpa using hown'.1
        by_cases hlt : k < n
        · obtain ⟨ad, u, rfl, had, hu, hc⟩ := ((hr.more hB).below hb).at_ hlt
          obtain ⟨z, hz, rfl⟩ := i64_at hu
          obtain ⟨hz1', hz2'⟩ := unhide HP k z hz
          rw [unhide HL] at hz2'
          have hz8 : z ≤ 8 := by omega
          obtain ⟨old, hold⟩ : ∃ old, wr.cell? ⟨g, k, none⟩ = some old := ⟨_, by rw [hown'.cellAt k (by omega)]; exact List.getElem?_eq_getElem (by omega)⟩
          have hfz := hown'.frozenAt k
          have hst := hide (take_set_i (u := .int .u8 (48 + z)) (unhide hx) (by unfold u8c; rw [List.getElem?_map, textI_at hz]; rfl) (by omega))
          have ho2 := (hown'.stored k (.int .u8 (48 + z))).1
          have hb2 := below_set_i hb hown' k (.int .u8 (48 + z))
          clear hx hlx hu hz hown' hb
          go_wp2
          go_roundw
          case rel => exact ⟨k + 1, _, by omega, by go_num, hb2, ho2, hst⟩
          case measure => simp [intOf]; omega
        · obtain rfl : n = k := by omega
          have : xs = u8c (textI zs) := by
            have h := unhide hx
            have h2 : (u8c (textI zs)).length = n := by unfold u8c; rw [List.length_map, textI_length, unhide HL]
            rwa [List.take_of_length_le (by omega), List.take_of_length_le (by omega)] at h
          subst this
          have hcv := cv_row (P := Tryz.prog) Tryz.underlying22 Tryz.underlying5 Tryz.underlying9 wr w.heap.size g n n 5 (textI zs) hown'
          rw [unhide HT] at hcv
          clear hx hlx hown'
          go_wp2
          go_ret
          exact ⟨rfl, hb⟩
end Go.Proofs.YtinnlhfdgbeibaaGreat
