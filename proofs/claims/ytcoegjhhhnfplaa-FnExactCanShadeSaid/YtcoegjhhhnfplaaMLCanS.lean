/-
  For every struct of a list and a list of lists and any two integers the law FnExactCanShade answers true and leaves its arguments as they were.
  Conditions: none beyond the row's own (what is read lies within the row's reach).
-/
import Derived.Test.YtcoegjhhhnfplaaB11
import Derived.Test.YtcoegjhhhnfplaaB6
import Derived.Test.YtcoegjhhhnfplaaB5
import Derived.Test.YtcoegjhhhnfplaaB2
import Derived.Deep.RegionHeld3








namespace Go.Proofs.Ytcoegjhhhnfplaa.fnExactCanShade
set_option maxRecDepth 100000
open Go.ChangeShapes Go.WideShapes Go.ChangeAt Go.RowKit

theorem keep2 {wr w : World} {p q : Addr} {v u : Value} (h : wr.cell? p = some v) (h' : wr.cell? q = some u) (hp : p.block < wr.heap.size) (hq : q.block < wr.heap.size) (hb : Below wr.heap.size wr w) :
    w.cell? p = some v ∧ w.cell? q = some u ∧ Below wr.heap.size wr w := ⟨(hb.cell hp).trans h, (hb.cell hq).trans h', hb⟩
theorem keep4 {wr w : World} {p q r s : Addr} {v u x y : Value} (h : wr.cell? p = some v) (h' : wr.cell? q = some u) (h2 : wr.cell? r = some x) (h3 : wr.cell? s = some y) (hp : p.block < wr.heap.size) (hq : q.block < wr.heap.size) (hr : r.block < wr.heap.size) (hs : s.block < wr.heap.size) (hb : Below wr.heap.size wr w) :
    w.cell? p = some v ∧ w.cell? q = some u ∧ w.cell? r = some x ∧ w.cell? s = some y ∧ Below wr.heap.size wr w :=
  ⟨(hb.cell hp).trans h, (hb.cell hq).trans h', (hb.cell hr).trans h2, (hb.cell hs).trans h3, hb⟩
theorem inf_arg {w : World} {B n c : Nat} {A : Option Addr} {pv : Value} {p : List Int} {pss : List (List Int)} (h : InfAt w B (.slice A n c) pv p pss) (hn : n ≤ 1048576) (hs : Small p) : Arg w w.heap.size A n c p := h.row.arg hn h.row.cap hs
theorem inf_rows {w : World} {B n c : Nat} {A : Option Addr} {rv : Value} {p : List Int} {pss : List (List Int)} (h : InfAt w B rv (.slice A n c) p pss) (hs : ∀ z ∈ pss, z.length ≤ 1048576 ∧ Small z) : AtS w A n pss := h.pcs.intsS.atS hs
set_option maxRecDepth 100000 in
set_option maxHeartbeats 3200000 in
theorem walk (w : World) (A P : Option Addr) (n c m d : Nat) (q : List Int) (S : List (List Int)) (h1 : Reads w w.heap.size A n (i64s q)) (h2 : ReadsS w w.heap.size P m S) (hn : n ≤ maxLen) (hm : m ≤ maxLen) (hq : Small q) (hJ : ∀ z ∈ S, z.length ≤ maxLen ∧ Small z) (u : Int) (v : Int) (b : Bool)
    (Sp : Hid (∀ (w : World) (A P : Option Addr) (n c B m d : Nat), Arg w B A n c q → AtS w P m S → m ≤ 1048576 → Calls Try.prog 28 #[.agg #[.slice A n c, .slice P m d], .int .i64 u, .int .i64 v] w (GivesB w b)))
    (I : Hid (∀ (w : World) (A P : Option Addr) (n c B m d : Nat), Arg w B A n c q → AtS w P m S → m ≤ 1048576 → Calls Try.prog 27 #[.agg #[.slice A n c, .slice P m d], .int .i64 u, .int .i64 v] w (GivesB w b))) :
    Calls Try.prog 9 #[.agg #[.slice A n c, .slice P m d], .int .i64 u, .int .i64 v] w fun e w' => e = .returned (.bool true) ∧ Below w.heap.size w w' := by
  have b1 := (Below.refl _ w).alloc (Nat.le_refl _) (.cells #[.slice A n c, .slice P m d] 48)
  have g1 := Whole.new w 48 #[.slice A n c, .slice P m d]
  have l1 := g1.lt
  have S1 := hide (szmesh_any A P n c m d w.heap.size S 1048576 (by omega) (w.alloc (.cells #[.slice A n c, .slice P m d] 48)) (h2.below b1) b1.size hn hm (fun z hz => (hJ z hz).1))
  by_cases hA : n + m + tot S ≤ 1048576
  rotate_left
  · have e1 : szX 1048576 n m S = -1 := by unfold szX; rw [if_pos (by omega)]
    rw [e1] at S1
    clear e1 h1 h2 hA hq hJ g1 l1 Sp I
    go_enter Try.func9, Try.ntmps9
    go_wp2_with fail
    refine (unhide S1).mono ?_
    rintro e w3 ⟨rfl, d⟩
    have hb := below_after b1 d
    clear S1 d b1
    go_wp2
    go_ret
    exact ⟨rfl, hb⟩
  obtain ⟨L, hL⟩ : ∃ L, szX 1048576 n m S = L := ⟨_, rfl⟩
  have hL0 : ¬ L < 0 := by rw [← hL]; unfold szX; rw [if_neg (by omega)]; omega
  rw [hL] at S1
  have ht : ∀ z ∈ S, z.length ≤ 1048576 ∧ Small z := small_of_tot (by have := h2.len; omega) hJ
  have T1 := hide (fun (w' : World) (hb : Below w.heap.size w w') => tomesh_any A P n c m d w.heap.size q S w' (h1.below hb) (h2.below hb) hb.size (by omega) (by omega) (fun z hz => (ht z hz).1))
  have hl1 : q.length = n := by have := h1.1; rwa [i64_length] at this
  have hl2 : S.length = m := h2.len
  have hql : q.length ≤ 1048576 := by omega
  have hjl : S.length ≤ 1048576 := by omega
  have htl : tot S ≤ 1048576 := by omega
  have SP := hide (fun (w' : World) B A P c d (x : InfAt w' B (.slice A q.length c) (.slice P S.length d) q S) => unhide Sp w' A P q.length c _ S.length d (inf_arg x (by omega) hq) (inf_rows x ht) (by omega))
  have IM := hide (fun (w' : World) B A P c d (x : InfAt w' B (.slice A q.length c) (.slice P S.length d) q S) => unhide I w' A P q.length c _ S.length d (inf_arg x (by omega) hq) (inf_rows x ht) (by omega))
  have ED := hide (fun (w' : World) B B' A P c d A' P' c' d' (x : InfAt w' B (.slice A q.length c) (.slice P S.length d) q S) (y : InfAt w' B' (.slice A' q.length c') (.slice P' S.length d') q S) => eqmesh_any A P A' P' q.length c S.length d q.length c' S.length d' B B' q S w' x y (by omega) (by omega) (by omega))
  clear Sp I h1 h2 hq hJ ht hL hA hn hm hl1 hl2 hql hjl htl
  cases b
  all_goals
    go_enter Try.func9, Try.ntmps9
    go_wp2_with fail
    refine (unhide S1).mono ?_
    rintro e w1 ⟨rfl, d⟩
    have hb := below_after b1 d
    have k1 := g1.below d l1
    clear S1 d b1 g1 l1
    have q0_k1 := k1.cell 0
    have q1_k1 := k1.cell 1
    have q2_k1 := k1.lt
    simp only [List.getElem?_toArray, List.getElem?_cons_zero, List.getElem?_cons_succ] at q0_k1 q1_k1
    go_wp2_with fail
    refine (unhide T1 _ hb).mono ?_
    rintro e w2 ⟨A2, c2, P2, d2, rfl, i2, d⟩
    clear q0_k1 q1_k1 q2_k1
    have SP2 := hide (unhide SP w2 _ _ _ _ _ i2)
    clear SP
    replace hb := below_after hb d
    replace k1 := k1.below d k1.lt
    clear d
    go_wp2_with fail
    refine (unhide SP2).mono ?_
    rintro e w3 ⟨rfl, d⟩
    clear SP2 i2
    replace hb := below_after hb d
    replace k1 := k1.below d k1.lt
    clear d
    have q0_k1 := k1.cell 0
    have q1_k1 := k1.cell 1
    have q2_k1 := k1.lt
    simp only [List.getElem?_toArray, List.getElem?_cons_zero, List.getElem?_cons_succ] at q0_k1 q1_k1
    go_wp2_with fail
    refine (unhide T1 _ hb).mono ?_
    rintro e w4 ⟨A4, c4, P4, d4, rfl, i4, d⟩
    clear q0_k1 q1_k1 q2_k1
    replace hb := below_after hb d
    replace k1 := k1.below d k1.lt
    clear d
    go_wp2_with fail
    obtain ⟨w5, hw⟩ : ∃ W : World, W = w4.alloc (.cells #[.slice A4 q.length c4, .slice P4 S.length d4] 27) := ⟨_, rfl⟩
    rw [← hw]
    have d : Below w4.heap.size w4 w5 := by rw [hw]; exact (Below.refl _ _).alloc (Nat.le_refl _) _
    have kx : Whole w5 w4.heap.size 27 #[.slice A4 q.length c4, .slice P4 S.length d4] := by rw [hw]; exact Whole.new _ _ _
    clear hw
    replace i4 := i4.below d
    replace hb := below_after hb d
    replace k1 := k1.below d k1.lt
    clear d
    refine (unhide IM w5 _ _ _ _ _ i4).mono ?_
    rintro e w6 ⟨rfl, d⟩
    replace i4 := i4.below d
    replace kx := kx.below d kx.lt
    replace hb := below_after hb d
    replace k1 := k1.below d k1.lt
    clear d
    clear IM
    have q0_k1 := k1.cell 0
    have q1_k1 := k1.cell 1
    have q2_k1 := k1.lt
    simp only [List.getElem?_toArray, List.getElem?_cons_zero, List.getElem?_cons_succ] at q0_k1 q1_k1
    have q0_kx := kx.cell 0
    have q1_kx := kx.cell 1
    have q2_kx := kx.lt
    simp only [List.getElem?_toArray, List.getElem?_cons_zero, List.getElem?_cons_succ] at q0_kx q1_kx
    have hb0 := Below.refl w6.heap.size w6
    have hbd : Below w.heap.size w w6.drew := hb.drew
    go_wp2
    go_region_held3 (fun w' => w'.cell? ⟨w.heap.size, 0, none⟩ = some (.slice A n c) ∧ w'.cell? ⟨w.heap.size, 1, none⟩ = some (.slice P m d) ∧ w'.cell? ⟨w4.heap.size, 0, none⟩ = some (.slice A4 q.length c4) ∧ w'.cell? ⟨w4.heap.size, 1, none⟩ = some (.slice P4 S.length d4) ∧ Below w6.heap.size w6 w') ((refine keep4 q0_k1 q1_k1 q0_kx q1_kx q2_k1 q2_k1 q2_kx q2_kx ?_; first | assumption | (apply Below.drew; assumption)))
      (first
        | (have hbd2 := hbd; clear hbd; go_simp; go_at_call 31; refine (unhide T1 _ hbd2).mono ?_; clear hbd2; rintro e w7 ⟨A7, c7, P7, d7, rfl, i7, x7⟩; have hb3 : Below w6.heap.size w6 w7 := (hb0.drew).trans x7; have j4 := i4.below hb3; have HS := hide (unhide ED w7 _ _ _ _ _ _ _ _ _ _ j4 i7))
        | (go_simp; go_at_call 32; refine (unhide HS).mono ?_; rintro e w8 ⟨rfl, x5⟩; have hb5 := below_after hb3 x5))
    clear i7 x7 hb3 j4 HS x5 hb0
    clear q0_k1 q1_k1 q2_k1
    clear q0_kx q1_kx q2_kx
    replace hb := below_after hb hb5
    clear hb5 ED T1 kx i4 k1
    go_wp2
    go_ret
    exact ⟨rfl, hb⟩

theorem params_ok : ∀ t ∈ (#[48, 3, 3] : Array TypeId).toList, Try.prog.readableRec t = true ∧ t < Try.prog.types.size := by
  intro t ht
  simp only [List.mem_cons, List.not_mem_nil, or_false] at ht
  rcases ht with rfl | rfl | rfl
  all_goals exact ⟨by kernel_rfl, of_decide_eq_true (by kernel_rfl)⟩

set_option maxRecDepth 100000 in
/-- WHAT THE WALK GIVES, FOR EVERY ARGUMENT. -/
theorem contract (H : Type) (enc : TypeId × Value → H) (W : World) (base : Nat) (args : Array Value) (ds gs : List (DataW H)) (before : List MemPlace)
    (hval : ∀ (j : Nat) t v, Try.f9.params[j]? = some t → args[j]? = some v → Value.okWide Try.prog W .any base t v)
    (hW : DataW.Whole enc Try.prog Try.f9.params.toList Rows.fnExactCanShadeSpec.vars false W args.toList ds gs before) :
    Calls Try.prog 9 args W fun e W' => ∃ v, e = .returned v ∧ Rows.fnExactCanShadeSpec.post enc Try.prog Try.f9 false true false false W args v W' := by
  have hW' := hW
  obtain ⟨p, q, hA0, hV, rfl, hfz, hnd⟩ := hW
  have hA : DataW.TrodAll enc Try.prog W 0 (fun _ => true) true Try.f9.params.toList args.toList ds p := hA0
  rw [Try.params9] at hA hval
  obtain ⟨v0, vs0, d0, ds0, p0, q0, ha0, rfl, rfl, h0, r0⟩ := trodAll_cons hA
  obtain ⟨v1, vs1, d1, ds1, p1, q1, ha1, rfl, rfl, h1, r1⟩ := trodAll_cons r0
  obtain ⟨v2, vs2, d2, ds2, p2, q2, ha2, rfl, rfl, h2, r2⟩ := trodAll_cons r1
  obtain ⟨hz, rfl, rfl⟩ := trodAll_nil r2
  obtain rfl : args = #[v0, v1, v2] := by cases args; simp_all
  obtain ⟨rfl, rfl⟩ := trodVars_none hV
  obtain ⟨v, rfl, rfl, rfl, wv⟩ := open_int Try.underlying3 (hval 2 3 v2 rfl rfl) h2
  have hv : -9223372036854775808 ≤ v ∧ v ≤ 9223372036854775807 := by simpa [Lit.wf, IntKind.min, IntKind.max, IntKind.signed, IntKind.bits] using wv
  obtain ⟨u, rfl, rfl, rfl, wu⟩ := open_int Try.underlying3 (hval 1 3 v1 rfl rfl) h1
  have hu : -9223372036854775808 ≤ u ∧ u ≤ 9223372036854775807 := by simpa [Lit.wf, IntKind.min, IntKind.max, IntKind.signed, IntKind.bits] using wu
  obtain ⟨f00, f10, y00, y10, k0, rfl, rfl, hpl0, t00, t10⟩ := Go.Joins.open_agg2 Try.underlying48 (by kernel_rfl) (by kernel_rfl) (hval 0 48 v0 rfl rfl) h0
  obtain ⟨Ax, nx, cx, x, rfl, hrx, hnx, smx⟩ := open_ints_cell Try.underlying24 Try.underlying3 cellsInt t00 (fun x hx => by simpa using hW'.lt x (by simp [hpl0, hx]))
  obtain ⟨Px, mx, dx, xx, rfl, hqx, hmx, snx⟩ := open_intss_cell Try.underlying25 Try.underlying24 Try.underlying3 cellsRow cellsInt t10 (fun x hx => by simpa using hW'.lt x (by simp [hpl0, hx]))
  refine (walk W Ax Px nx cx mx dx x xx hrx hqx hnx hmx smx snx u v (canR x xx u v) (hide (fun w A P n c B m d h1 h2 h3 => scans_any A P n c B m d x xx u v w h1 h2 h3)) (hide (fun w A P n c B m d h1 h2 h3 => icans_any A P n c B m d x xx u v w h1 h2 h3))).mono fun e W' ⟨he, hb⟩ => ?_
  subst he
  exact ⟨_, rfl, law_end laidOut (by rw [Try.params9]; exact params_ok) Try.underlying4 rfl rfl hW' rfl hb⟩

set_option maxRecDepth 100000 in
theorem lifted (os : Os) (started : os.Started) (H : Type) (enc : TypeId × Value → H) :
    ReturnsInHanded {} Try.checked os 9 .any (Rows.fnExactCanShadeSpec.pre6 enc Try.prog Try.f9 Rows.fnExactCanShadeRow.domain false) (Rows.fnExactCanShadeSpec.post enc Try.prog Try.f9 false true false false) := by
  refine returnsInHanded_of_change (C := Try.checked) own started (by kernel_rfl) Try.func9
    (ChangeSpec.witness6 (enc := enc) (C := Try.checked) false ⟨#[], #[.agg #[.slice none 0 0, .slice none 0 0], .int .i64 0, .int .i64 0], []⟩ 8 (by kernel_rfl) (by kernel_rfl) (by kernel_rfl) (by kernel_rfl)) ?_
  intro W base args ds gs before hval hW _ _
  exact contract H enc W base args ds gs before hval hW

theorem proved : Rows.FnExactCanShadeSaid :=
  OpenClaim.holds_of_wide 9 Try.f9 rfl rfl rfl rfl rfl rfl rfl ⟨rfl, rfl, rfl, rfl, rfl⟩ rfl rfl rfl rfl rfl (by kernel_rfl) Try.func9 (by kernel_rfl)
    (of_decide_eq_true (by kernel_rfl)) (by unfold Func.isWrapper; first | (rw [if_pos (by decide +kernel)]; kernel_rfl) | (rw [if_neg (by decide +kernel)]; exact ⟨rfl, rfl⟩))
    (fun os started H enc _ => lifted os started H enc)
end Go.Proofs.Ytcoegjhhhnfplaa.fnExactCanShade
