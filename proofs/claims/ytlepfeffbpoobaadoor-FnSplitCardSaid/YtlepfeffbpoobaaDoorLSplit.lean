/-
  For every code the law FnSplit answers true and leaves its argument as it was.
  Conditions: the variables of Go's library that the row lists hold what the program's text lays (the card ties that).
-/
import Derived.Test.YtlepfeffbpoobaaDoorSplit
import Derived.Test.YtlepfeffbpoobaaDoorIJoin
import Derived.Test.YtlepfeffbpoobaaDoorDraw1
import Derived.Test.YtlepfeffbpoobaaDoorBig
import Derived.Test.YtlepfeffbpoobaaDoorLaidS
namespace Go.Proofs.YtlepfeffbpoobaaDoor.fnSplit
open Go.ChangeShapes Go.WideShapes Go.ChangeAt Go.RowKit

set_option maxRecDepth 100000 in
set_option maxHeartbeats 3200000 in
theorem walk (A : Option Addr) (n c : Nat) (bs : List UInt8) (m : Int) (w : World) (hr : Reads w w.heap.size A n (u8s bs)) (hn : n ≤ maxLen) (hm : w.cell? ⟨3, 0, none⟩ = some (.int .i64 m)) :
    Calls Tryd.prog 4 #[.slice A n c] w fun e w' => e = .returned (.bool true) ∧ Below w.heap.size w w' := by
  unfold maxLen at hn
  have HG := hide (big_any A n c hn w)
  by_cases hbig : n ≤ 1048576
  · rw [show decide (1048576 < n) = false from decide_eq_false (by omega)] at HG
    have H1 := hide (dsplit_any A n c bs w hr hbig)
    have hmb : 3 < w.heap.size := World.block_lt_of_cell? w _ hm
    have HM := hide (fun w' (hb : Below w.heap.size w w') => (hb.cell (p := ⟨3, 0, none⟩) hmb).trans hm)
    clear hr hn hm hmb
    go_enter Tryd.func4, Tryd.ntmps4
    go_wp2_with fail
    refine (unhide HG).mono ?_
    rintro e w0 ⟨rfl, rfl⟩
    clear HG
    go_wp2_with fail
    refine (unhide H1).mono ?_
    rintro e w1 ⟨v, rfl, ⟨s, b, rfl, hs, hb0, hb1⟩, hbel1⟩
    have H2 := hide (isplit_any s (by omega) b m w1 (unhide HM w1 hbel1))
    have HB1 := hide hbel1
    have hpl := pieces_le s (byteOf b)
    have hpn : 0 < (pieces s (byteOf b)).length := by rw [pieces_length]; omega
    have HJ := hide (join_pieces s (byteOf b))
    have HS := hide (fun W => ssplit_any s (by omega) b hb0 hb1 W)
    have HP := hide (fun p (hp : p ∈ pieces s (byteOf b)) W hW => isplit_any p (by have := (pieces_parts hp).2; omega) b m W (unhide HM W hW))
    have HQ := hide (fun p (hp : p ∈ pieces s (byteOf b)) => (pieces_parts hp).1)
    obtain ⟨ps, hps⟩ : ∃ ps, ps = pieces s (byteOf b) := ⟨_, rfl⟩
    rw [← hps] at H2 hpl hpn HJ
    simp only [← hps] at HS HP HQ
    have hple : ps.length ≤ 17 := by omega
    have hss : s.data.toList.length ≤ 16 := by rw [size_list']; exact hs
    clear hps hbel1 H1 hpl
    go_wp2_with fail
    refine (unhide H2).mono ?_
    rintro e w2 ⟨v2, rfl, hown2, hb2⟩
    obtain ⟨g, c2, rfl⟩ := own_head hown2 hpn
    have HO2 := hide hown2
    have HB2 := hide (below_after (unhide HB1) hb2)
    clear hown2 hb2 H2 HB1
    have hcv := cv_one (P := Tryd.prog) Tryd.underlying22 Tryd.underlying5 Tryd.underlying9 w2 b
    have HJ2 := hide (ijoin_row g _ c2 ps ⟨#[byteOf b]⟩ (w2.alloc (.cells #[.int .u8 b] 5)) _ ((unhide HO2).alloc _) (by omega) (own_cap (unhide HO2)) (by rw [show (⟨#[byteOf b]⟩ : ByteArray).data.toList = [byteOf b] from rfl, unhide HJ]; omega))
    rw [show (⟨#[byteOf b]⟩ : ByteArray).data.toList = [byteOf b] from rfl, unhide HJ] at HJ2
    clear HJ
    go_wp2_with fail
    refine (unhide HJ2).mono ?_
    rintro e w3 ⟨rfl, hb3⟩
    have HO3 := hide (own_below (own_below (unhide HO2) ((Below.refl _ _).alloc (Nat.le_refl _) (.cells #[.int .u8 b] 5))) hb3)
    have HB3 := hide (below_after ((unhide HB2).alloc (unhide HB2).size (.cells #[.int .u8 b] 5)) hb3)
    have hself : (s.data.toList == s.toList) = true := by rw [ByteArray.toList_eq]; exact beq_self_eq_true _
    clear hb3 hcv HJ2 HB2 HO2
    go_wp2_with fail
    refine (unhide HS _).mono ?_
    rintro e w4 ⟨v4, rfl, hown4, hb4⟩
    obtain ⟨A4, c4, rfl, -⟩ := Reads.of_own hown4
    have HO4 := hide (own_below (unhide HO3) hb4)
    have HB4 := hide (below_after (unhide HB3) hb4)
    clear hown4 hb4 HO3 HB3 HS hself hss
    go_wp2_with fail
    obtain ⟨base, hbase⟩ : ∃ base, base = w1.heap.size := ⟨_, rfl⟩
    rw [← hbase] at HO4
    have HBASE := hide hbase
    clear hbase
    go_loopw [6] (fun i wr => ∃ k : Nat, k ≤ ps.length ∧ i = .int .i64 k ∧ Below w.heap.size w wr ∧ wr.ownsRow base 9 1 (.slice (some ⟨g, 0, none⟩) ps.length c2) ps.length (ps.map Value.string)) (fun i _ => ps.length - (intOf i).toNat)
    case atStart => exact ⟨0, Nat.zero_le _, rfl, unhide HB4, unhide HO4⟩
    case round =>
      obtain ⟨k, hk, rfl, hb, hown⟩ := hrel
      by_cases hlt : k < ps.length
      · have hp : ps[k]? = some ps[k] := List.getElem?_eq_getElem hlt
        have hmem : ps[k] ∈ ps := List.getElem_mem _
        generalize ps[k] = p at hp hmem
        have hc : wr.cell? ⟨g, k, none⟩ = some (.string p) := by rw [hown.cellAt k (by omega), List.getElem?_map, hp]; rfl
        have HK := hide (unhide HP p hmem wr hb)
        have HL := hide (unhide HQ p hmem)
        have HW := hide hb
        have HO := hide hown
        clear hp hmem hb hown
        go_wp2_with fail
        refine (unhide HK).mono ?_
        rintro e w5 ⟨v5, rfl, hown5, hb5⟩
        obtain ⟨A5, c5, rfl, -⟩ := Reads.of_own hown5
        rw [unhide HL]
        have hb6 := below_after (unhide HW) hb5
        have ho6 := own_below (unhide HO) hb5
        clear hown5 hb5 HK
        go_wp2
        go_roundw
        case rel => exact ⟨k + 1, by omega, by go_num, hb6, ho6⟩
        case measure => simp [intOf]; omega
      · go_wp2
        go_ret
        exact ⟨rfl, hb⟩
  · rw [show decide (1048576 < n) = true from decide_eq_true (by omega)] at HG
    clear hr hn hm
    go_enter Tryd.func4, Tryd.ntmps4
    go_wp2_with fail
    refine (unhide HG).mono ?_
    rintro e w0 ⟨rfl, rfl⟩
    go_wp2
    go_ret
    exact ⟨rfl, Below.refl _ _⟩

theorem params_ok : ∀ t ∈ (#[22] : Array TypeId).toList, Tryd.prog.readableRec t = true ∧ t < Tryd.prog.types.size := by
  intro t ht
  simp only [List.mem_cons, List.not_mem_nil, or_false] at ht
  subst ht
  exact ⟨by kernel_rfl, of_decide_eq_true (by kernel_rfl)⟩

set_option maxRecDepth 100000 in
/-- WHAT THE WALK GIVES, FOR EVERY ARGUMENT. -/
theorem contract (H : Type) (enc : TypeId × Value → H) (W : World) (base : Nat) (args : Array Value) (ds gs : List (DataW H)) (before : List MemPlace)
    (hval : ∀ (j : Nat) t v, Tryd.f4.params[j]? = some t → args[j]? = some v → Value.okWide Tryd.prog W .any base t v)
    (hW : DataW.Whole enc Tryd.prog Tryd.f4.params.toList Rows.fnSplitSpec.vars false W args.toList ds gs before) (hL : laidMetH Tryd.prog Rows.fnSplitRow.laid W) (hS : W.ShapedOpen Tryd.prog) :
    Calls Tryd.prog 4 args W fun e W' => ∃ v, e = .returned v ∧ Rows.fnSplitSpec.post enc Tryd.prog Tryd.f4 false true false false W args v W' := by
  have hW' := hW
  obtain ⟨p, q, hA0, hV, rfl, hfz, hnd⟩ := hW
  have hA : DataW.TrodAll enc Tryd.prog W 0 (fun _ => true) true Tryd.f4.params.toList args.toList ds p := hA0
  rw [Tryd.params4] at hA hval
  obtain ⟨v0, d0, rfl, rfl, h0⟩ := trodAll_one hA
  obtain ⟨rfl, rfl⟩ := trodVars_none hV
  obtain ⟨Abs, nbs, cbs, bs, rfl, hrbs, hnbs⟩ := open_bytes_reads Tryd.underlying22 Tryd.underlying5 cellsByte (hval 0 22 v0 rfl rfl) h0 (fun x hx => by simpa using hW'.lt x (by simp [hx]))
  have hL' : laidMet Tryd.prog Rows.fnSplitRow.laid W := hL
  refine (let ⟨m, hm⟩ := Tryd.laysM146.s1_3 W hS; walk Abs nbs cbs bs m W hrbs hnbs hm).mono fun e W' ⟨he, hb⟩ => ?_
  subst he
  exact ⟨_, rfl, law_end laidOut (by rw [Tryd.params4]; exact params_ok) Tryd.underlying4 rfl rfl hW' rfl hb⟩

set_option maxRecDepth 100000 in
theorem laid_met (os : Os) : laidMet Tryd.prog Rows.fnSplitRow.laid ((laidWorldS os).forCall (fun _ _ => 0) ⟨#[], #[.slice none 0 0], []⟩).memory :=
  laidMet_of_run' 8 (by kernel_rfl) (by kernel_rfl)
set_option maxRecDepth 100000 in
theorem reads (os : Os) {H : Type} (enc : TypeId × Value → H) : ∃ places, DataW.whole enc Tryd.prog ((laidWorldS os).forCall (fun _ _ => 0) ⟨#[], #[.slice none 0 0], []⟩).memory Tryd.f4.params.toList Rows.fnSplitSpec.vars false #[Value.slice none 0 0].toList 8 = some ([.nil], [], places) :=
  ⟨[], by kernel_rfl⟩

set_option maxRecDepth 100000 in
theorem lifted (os : Os) (started : os.Started) (H : Type) (enc : TypeId × Value → H) (F : Stop.Interp) :
    ReturnsInHanded {} Tryd.checked os 4 .any ((OpenSpec.ofChange Rows.fnSplitSpec).preRow enc Tryd.prog Tryd.f4 Rows.fnSplitRow.domain false Rows.fnSplitRow.laid) (((OpenSpec.ofChange Rows.fnSplitSpec).at F).post enc Tryd.prog Tryd.f4 false true false false) := by
  obtain ⟨places, hx⟩ := reads os enc
  refine returnsInHanded_of_row (C := Tryd.checked) (s := OpenSpec.ofChange Rows.fnSplitSpec) own started (by kernel_rfl) Tryd.func4
    (witness_row_at (enc := enc) (C := Tryd.checked) false (laidWorldS os) #[.slice none 0 0] rfl (by kernel_rfl) (by kernel_rfl) (by kernel_rfl)
      (OpenSpec.preRow_of_cond 8 hx (by kernel_rfl) (fun k hk => by cases hk) (by kernel_rfl) (laid_met os))) ?_
  intro W base args ds gs before hval hW _ _ _ hL hS _
  exact contract H enc W base args ds gs before hval hW hL hS

theorem said : Rows.FnSplitSaid :=
  OpenClaim.holds_of_cond 4 Tryd.f4 rfl rfl rfl rfl rfl rfl rfl ⟨rfl, rfl, rfl, rfl, rfl⟩ rfl rfl rfl rfl rfl (by kernel_rfl) Tryd.func4 (by kernel_rfl)
    (of_decide_eq_true (by kernel_rfl)) (by unfold Func.isWrapper; first | (rw [if_pos (by decide +kernel)]; kernel_rfl) | (rw [if_neg (by decide +kernel)]; exact ⟨rfl, rfl⟩))
    (fun os started H enc _ F => by rw [OpenClaim.pre_eq_preRow]; exact lifted os started H enc F)

theorem plain (f : FuncId) (fn : Func) (hf : Tryd.pinned.checked.prog.funcNamed "loop.example/g03101/laws.FnSplit" = some f) (hfn : Tryd.pinned.checked.prog.funcs[f]? = some fn) :
    true = Tryd.pinned.checked.prog.looks [] ∧ ∀ (j : Nat) t, fn.params[j]? = some t → Tryd.pinned.checked.prog.wantsStandIn t = false := by
  obtain rfl : f = 4 := Option.some.inj ((show Tryd.prog.funcNamed "loop.example/g03101/laws.FnSplit" = some 4 by kernel_rfl).symm.trans hf) |>.symm
  obtain rfl : fn = Tryd.f4 := (Option.some.inj (Tryd.func4.symm.trans hfn)).symm
  refine ⟨by kernel_rfl, fun j t ht => ?_⟩
  rw [Tryd.params4] at ht
  obtain rfl : t = 22 := by simpa using Array.mem_of_getElem? ht
  exact (show Tryd.prog.wantsStandIn 22 = false by kernel_rfl)

theorem card : Rows.FnSplitCardSaid :=
  Claim7.holds_tied_plain_at .later [] _ _ _ _ said (fun _ h => by cases h) (by kernel_rfl) (fun _ h => by cases h) fnSplit_row_tie rfl ⟨rfl, rfl⟩ (by kernel_rfl) rfl plain (by kernel_rfl)
end Go.Proofs.YtlepfeffbpoobaaDoor.fnSplit
