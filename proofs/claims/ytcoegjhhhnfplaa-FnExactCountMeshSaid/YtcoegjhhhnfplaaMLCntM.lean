/-
  For every list of integers and every struct of a list and a list of lists the law FnExactCountMesh answers true and leaves its arguments as they were.
  Conditions: none beyond the row's own (what is read lies within the row's reach).
-/
import Derived.Test.YtcoegjhhhnfplaaB6
import Derived.Test.YtcoegjhhhnfplaaB8
import Derived.Test.YtcoegjhhhnfplaaB5
import Derived.Test.YtcoegjhhhnfplaaB2
import Derived.Deep.RegionHeld3








namespace Go.Proofs.Ytcoegjhhhnfplaa.fnExactCountMesh
set_option maxRecDepth 100000
open Go.ChangeShapes Go.WideShapes Go.ChangeAt Go.RowKit

theorem keep2 {wr w : World} {p q : Addr} {v u : Value} (h : wr.cell? p = some v) (h' : wr.cell? q = some u) (hp : p.block < wr.heap.size) (hq : q.block < wr.heap.size) (hb : Below wr.heap.size wr w) :
    w.cell? p = some v ∧ w.cell? q = some u ∧ Below wr.heap.size wr w := ⟨(hb.cell hp).trans h, (hb.cell hq).trans h', hb⟩
theorem keep4 {wr w : World} {p q r s : Addr} {v u x y : Value} (h : wr.cell? p = some v) (h' : wr.cell? q = some u) (h2 : wr.cell? r = some x) (h3 : wr.cell? s = some y) (hp : p.block < wr.heap.size) (hq : q.block < wr.heap.size) (hr : r.block < wr.heap.size) (hs : s.block < wr.heap.size) (hb : Below wr.heap.size wr w) :
    w.cell? p = some v ∧ w.cell? q = some u ∧ w.cell? r = some x ∧ w.cell? s = some y ∧ Below wr.heap.size wr w :=
  ⟨(hb.cell hp).trans h, (hb.cell hq).trans h', (hb.cell hr).trans h2, (hb.cell hs).trans h3, hb⟩
theorem inf_arg {w : World} {B n c : Nat} {A : Option Addr} {pv : Value} {p : List Int} {pss : List (List Int)} (h : InfAt w B (.slice A n c) pv p pss) (hn : n ≤ 1048576) (hs : Small p) : Arg w w.heap.size A n c p := h.row.arg hn h.row.cap hs
theorem inf_rows {w : World} {B n c : Nat} {A : Option Addr} {rv : Value} {p : List Int} {pss : List (List Int)} (h : InfAt w B rv (.slice A n c) p pss) (hs : ∀ z ∈ pss, z.length ≤ 1048576 ∧ Small z) : AtS w A n pss := h.pcs.intsS.atS hs
set_option maxRecDepth 100000 in
set_option maxHeartbeats 3200000 in
theorem walk (w : World) (Ap : Option Addr) (np cp : Nat) (p : List Int) (hp : Reads w w.heap.size Ap np (i64s p)) (hmp : np ≤ maxLen) (hsp : Small p) (A P : Option Addr) (n c m d : Nat) (q : List Int) (S : List (List Int)) (h1 : Reads w w.heap.size A n (i64s q)) (h2 : ReadsS w w.heap.size P m S) (hn : n ≤ maxLen) (hm : m ≤ maxLen) (hq : Small q) (hJ : ∀ z ∈ S, z.length ≤ maxLen ∧ Small z) (R : Int)
    (Sp : Hid (∀ (w : World) (A0 : Option Addr) (n0 c0 B0 : Nat) (A P : Option Addr) (n c B m d : Nat), Arg w B0 A0 n0 c0 p → Arg w B A n c q → AtS w P m S → m ≤ 1048576 → Calls Try.prog 18 #[.slice A0 n0 c0, .agg #[.slice A n c, .slice P m d]] w (GivesN w R)))
    (I : Hid (∀ (w : World) (A0 : Option Addr) (n0 c0 B0 : Nat) (A P : Option Addr) (n c B m d : Nat), Arg w B0 A0 n0 c0 p → Arg w B A n c q → AtS w P m S → m ≤ 1048576 → Calls Try.prog 12 #[.slice A0 n0 c0, .agg #[.slice A n c, .slice P m d]] w (GivesN w R))) :
    Calls Try.prog 6 #[.slice Ap np cp, .agg #[.slice A n c, .slice P m d]] w fun e w' => e = .returned (.bool true) ∧ Below w.heap.size w w' := by
  have b1 := (Below.refl _ w).alloc (Nat.le_refl _) (.cells #[.slice A n c, .slice P m d] 48)
  have g1 := Whole.new w 48 #[.slice A n c, .slice P m d]
  have l1 := g1.lt
  have S1 := hide (szmesh_any A P n c m d w.heap.size S 1048576 (by omega) (w.alloc (.cells #[.slice A n c, .slice P m d] 48)) (h2.below b1) b1.size hn hm (fun z hz => (hJ z hz).1))
  unfold maxLen at hmp
  by_cases hnp : np ≤ 1048576
  rotate_left
  · have hbig : 1048576 < np := by omega
    clear S1 Sp I hp h1 h2 hsp hq hJ g1 l1
    go_enter Try.func6, Try.ntmps6
    go_wp2
    go_ret
    exact ⟨rfl, b1⟩
  by_cases hA : n + m + tot S ≤ 1048576
  rotate_left
  · have e1 : szX 1048576 n m S = -1 := by unfold szX; rw [if_pos (by omega)]
    rw [e1] at S1
    clear e1 h1 h2 hA hq hJ g1 l1 Sp I hp hsp
    go_enter Try.func6, Try.ntmps6
    go_wp2_with fail
    refine (unhide S1).mono ?_
    rintro e w3 ⟨rfl, d⟩
    have hb := below_after b1 d
    clear S1 d b1
    go_wp2
    go_ret
    exact ⟨rfl, hb⟩
  obtain ⟨L, hL⟩ : ∃ L, szX 1048576 n m S = L := ⟨_, rfl⟩
  have hL0 : ¬ L < 0 := by rw [← hL]; unfold szX; rw [if_neg (by omega)]; omega
  rw [hL] at S1
  have ht : ∀ z ∈ S, z.length ≤ 1048576 ∧ Small z := small_of_tot (by have := h2.len; omega) hJ
  have T1 := hide (fun (w' : World) (hb : Below w.heap.size w w') => tomesh_any A P n c m d w.heap.size q S w' (h1.below hb) (h2.below hb) hb.size (by omega) (by omega) (fun z hz => (ht z hz).1))
  have hl1 : q.length = n := by have := h1.1; rwa [i64_length] at this
  have hl2 : S.length = m := h2.len
  have hql : q.length ≤ 1048576 := by omega
  have hjl : S.length ≤ 1048576 := by omega
  have htl : tot S ≤ 1048576 := by omega
  have T0 := hide (fun (w' : World) (hb : Below w.heap.size w w') => toi_any Ap np cp w.heap.size p w' (hp.below hb) hb.size (by omega))
  have hl0 : p.length = np := by have := hp.1; rwa [i64_length] at this
  have SP := hide (fun (w' : World) B0 A0 B A P c d (y : Ints w' B0 (.slice A0 np np) p) (x : InfAt w' B (.slice A q.length c) (.slice P S.length d) q S) => unhide Sp w' A0 np np _ A P q.length c _ S.length d (y.arg (by omega) (Nat.le_refl _) hsp) (inf_arg x (by omega) hq) (inf_rows x ht) (by omega))
  have IM := hide (fun (w' : World) B0 A0 B A P c d (y : Ints w' B0 (.slice A0 np np) p) (x : InfAt w' B (.slice A q.length c) (.slice P S.length d) q S) => unhide I w' A0 np np _ A P q.length c _ S.length d (y.arg (by omega) (Nat.le_refl _) hsp) (inf_arg x (by omega) hq) (inf_rows x ht) (by omega))
  have ED := hide (fun (w' : World) B B' A P c d A' P' c' d' (x : InfAt w' B (.slice A q.length c) (.slice P S.length d) q S) (y : InfAt w' B' (.slice A' q.length c') (.slice P' S.length d') q S) => eqmesh_any A P A' P' q.length c S.length d q.length c' S.length d' B B' q S w' x y (by omega) (by omega) (by omega))
  have E0 := hide (fun (w' : World) B B' A A' (x : Ints w' B (.slice A np np) p) (y : Ints w' B' (.slice A' np np) p) => eqi_any A A' np np np np _ _ p w' x.reads y.reads (by omega))
  clear Sp I hp hsp h1 h2 hq hJ ht hL hA hn hm hl0 hl1 hl2 hql hjl htl
  go_enter Try.func6, Try.ntmps6
  go_wp2_with fail
  refine (unhide S1).mono ?_
  rintro e w1 ⟨rfl, d⟩
  have hb := below_after b1 d
  have k1 := g1.below d l1
  clear S1 d b1 g1 l1
  have q0_k1 := k1.cell 0
  have q1_k1 := k1.cell 1
  have q2_k1 := k1.lt
  simp only [List.getElem?_toArray, List.getElem?_cons_zero, List.getElem?_cons_succ] at q0_k1 q1_k1
  have hb0 := Below.refl w1.heap.size w1
  have hbd : Below w.heap.size w w1.drew := hb.drew
  go_wp2
  go_region_held3 (fun w' => w'.cell? ⟨w.heap.size, 0, none⟩ = some (.slice A n c) ∧ w'.cell? ⟨w.heap.size, 1, none⟩ = some (.slice P m d) ∧ Below w1.heap.size w1 w') ((refine keep2 q0_k1 q1_k1 q2_k1 q2_k1 ?_; first | assumption | (apply Below.drew; assumption)))
    (first
      | (have hbd2 := hbd; clear hbd; go_simp; go_at_call 33; refine (unhide T0 _ hbd2).mono ?_; clear hbd2; rintro e w2 ⟨rfl, i2, x2⟩; have hb2 : Below w1.heap.size w1 w2 := (hb0.drew).trans x2; have hbw2 := below_after hb hb2)
      | (go_simp; go_at_call 31; refine (unhide T1 _ hbw2).mono ?_; rintro e w3 ⟨A3, c3, P3, d3, rfl, i3, x3⟩; have hb3 := below_after hb2 x3; have j2 := i2.below x3; have HS := hide (unhide SP w3 _ _ _ _ _ _ _ j2 i3))
      | (go_simp; go_at_call 18; refine (unhide HS).mono ?_; rintro e w4 ⟨rfl, x4⟩; have hb4 := below_after hb3 x4))
  clear i2 x2 hbw2 hb2 i3 x3 hb3 j2 HS x4 hb0 SP
  clear q0_k1 q1_k1 q2_k1
  have d := hb4
  clear hb4
  replace hb := below_after hb d
  replace k1 := k1.below d k1.lt
  clear d
  go_wp2_with fail
  refine (unhide T0 _ hb).mono ?_
  rintro e w5 ⟨rfl, i5, d⟩
  replace hb := below_after hb d
  replace k1 := k1.below d k1.lt
  clear d
  have q0_k1 := k1.cell 0
  have q1_k1 := k1.cell 1
  have q2_k1 := k1.lt
  simp only [List.getElem?_toArray, List.getElem?_cons_zero, List.getElem?_cons_succ] at q0_k1 q1_k1
  go_wp2_with fail
  refine (unhide T1 _ hb).mono ?_
  rintro e w6 ⟨A6, c6, P6, d6, rfl, i6, d⟩
  clear q0_k1 q1_k1 q2_k1
  replace i5 := i5.below d
  replace hb := below_after hb d
  replace k1 := k1.below d k1.lt
  clear d
  go_wp2_with fail
  obtain ⟨w7, hw⟩ : ∃ W : World, W = w6.alloc (.cells #[.slice A6 q.length c6, .slice P6 S.length d6] 27) := ⟨_, rfl⟩
  rw [← hw]
  have d : Below w6.heap.size w6 w7 := by rw [hw]; exact (Below.refl _ _).alloc (Nat.le_refl _) _
  have kx : Whole w7 w6.heap.size 27 #[.slice A6 q.length c6, .slice P6 S.length d6] := by rw [hw]; exact Whole.new _ _ _
  clear hw
  replace i5 := i5.below d
  replace i6 := i6.below d
  replace hb := below_after hb d
  replace k1 := k1.below d k1.lt
  clear d
  refine (unhide IM w7 _ _ _ _ _ _ _ i5 i6).mono ?_
  rintro e w8 ⟨rfl, d⟩
  replace i5 := i5.below d
  replace i6 := i6.below d
  replace kx := kx.below d kx.lt
  replace hb := below_after hb d
  replace k1 := k1.below d k1.lt
  clear d
  clear IM
  go_wp2_with fail
  refine (unhide T0 _ hb).mono ?_
  rintro e w9 ⟨rfl, i9, d⟩
  replace i5 := i5.below d
  replace i6 := i6.below d
  replace kx := kx.below d kx.lt
  replace hb := below_after hb d
  replace k1 := k1.below d k1.lt
  clear d
  go_wp2_with fail
  refine (unhide E0 w9 _ _ _ _ i5 i9).mono ?_
  rintro e w10 ⟨rfl, d0⟩
  have d := d0.below w9.heap.size
  clear d0 i5 i9 E0
  replace i6 := i6.below d
  replace kx := kx.below d kx.lt
  replace hb := below_after hb d
  replace k1 := k1.below d k1.lt
  clear d
  have q0_k1 := k1.cell 0
  have q1_k1 := k1.cell 1
  have q2_k1 := k1.lt
  simp only [List.getElem?_toArray, List.getElem?_cons_zero, List.getElem?_cons_succ] at q0_k1 q1_k1
  have q0_kx := kx.cell 0
  have q1_kx := kx.cell 1
  have q2_kx := kx.lt
  simp only [List.getElem?_toArray, List.getElem?_cons_zero, List.getElem?_cons_succ] at q0_kx q1_kx
  have hb0 := Below.refl w10.heap.size w10
  have hbd : Below w.heap.size w w10.drew := hb.drew
  go_wp2
  go_region_held3 (fun w' => w'.cell? ⟨w.heap.size, 0, none⟩ = some (.slice A n c) ∧ w'.cell? ⟨w.heap.size, 1, none⟩ = some (.slice P m d) ∧ w'.cell? ⟨w6.heap.size, 0, none⟩ = some (.slice A6 q.length c6) ∧ w'.cell? ⟨w6.heap.size, 1, none⟩ = some (.slice P6 S.length d6) ∧ Below w10.heap.size w10 w') ((refine keep4 q0_k1 q1_k1 q0_kx q1_kx q2_k1 q2_k1 q2_kx q2_kx ?_; first | assumption | (apply Below.drew; assumption)))
    (first
      | (have hbd2 := hbd; clear hbd; go_simp; go_at_call 31; refine (unhide T1 _ hbd2).mono ?_; clear hbd2; rintro e w11 ⟨A7, c7, P7, d7, rfl, i7, x7⟩; have hb3 : Below w10.heap.size w10 w11 := (hb0.drew).trans x7; have j4 := i6.below hb3; have HS := hide (unhide ED w11 _ _ _ _ _ _ _ _ _ _ j4 i7))
      | (go_simp; go_at_call 32; refine (unhide HS).mono ?_; rintro e w12 ⟨rfl, x5⟩; have hb5 := below_after hb3 x5))
  clear i7 x7 hb3 j4 HS x5 hb0
  clear q0_k1 q1_k1 q2_k1
  clear q0_kx q1_kx q2_kx
  replace hb := below_after hb hb5
  clear hb5 ED T0 T1 kx i6 k1
  go_wp2
  go_ret
  exact ⟨rfl, hb⟩

theorem params_ok : ∀ t ∈ (#[24, 48] : Array TypeId).toList, Try.prog.readableRec t = true ∧ t < Try.prog.types.size := by
  intro t ht
  simp only [List.mem_cons, List.not_mem_nil, or_false] at ht
  rcases ht with rfl | rfl
  all_goals exact ⟨by kernel_rfl, of_decide_eq_true (by kernel_rfl)⟩

set_option maxRecDepth 100000 in
/-- WHAT THE WALK GIVES, FOR EVERY ARGUMENT. -/
theorem contract (H : Type) (enc : TypeId × Value → H) (W : World) (base : Nat) (args : Array Value) (ds gs : List (DataW H)) (before : List MemPlace)
    (hval : ∀ (j : Nat) t v, Try.f6.params[j]? = some t → args[j]? = some v → Value.okWide Try.prog W .any base t v)
    (hW : DataW.Whole enc Try.prog Try.f6.params.toList Rows.fnExactCountMeshSpec.vars false W args.toList ds gs before) :
    Calls Try.prog 6 args W fun e W' => ∃ v, e = .returned v ∧ Rows.fnExactCountMeshSpec.post enc Try.prog Try.f6 false true false false W args v W' := by
  have hW' := hW
  obtain ⟨p, q, hA0, hV, rfl, hfz, hnd⟩ := hW
  have hA : DataW.TrodAll enc Try.prog W 0 (fun _ => true) true Try.f6.params.toList args.toList ds p := hA0
  rw [Try.params6] at hA hval
  obtain ⟨v0, v1, d0, d1, p0, p1, rfl, rfl, rfl, h0, h1⟩ := trodAll_two hA
  obtain ⟨rfl, rfl⟩ := trodVars_none hV
  obtain ⟨f01, f11, y01, y11, k1, rfl, rfl, hpl1, t01, t11⟩ := Go.Joins.open_agg2 Try.underlying48 (by kernel_rfl) (by kernel_rfl) (hval 1 48 v1 rfl rfl) h1
  obtain ⟨Ax, nx, cx, x, rfl, hrx, hnx, smx⟩ := open_ints_cell Try.underlying24 Try.underlying3 cellsInt t01 (fun x hx => by simpa using hW'.lt x (by simp [hpl1, hx]))
  obtain ⟨Px, mx, dx, xx, rfl, hqx, hmx, snx⟩ := open_intss_cell Try.underlying25 Try.underlying24 Try.underlying3 cellsRow cellsInt t11 (fun x hx => by simpa using hW'.lt x (by simp [hpl1, hx]))
  obtain ⟨Ap, np, cp, p, rfl, hrp, hnp, wfp⟩ := open_ints_reads Try.underlying24 Try.underlying3 cellsInt (hval 0 24 v0 rfl rfl) h0 (fun x hx => by simpa using hW'.lt x (by simp [hx]))
  have hsp : Small p := small_of_wf wfp
  refine (walk W Ap np cp p hrp hnp hsp Ax Px nx cx mx dx x xx hrx hqx hnx hmx smx snx (numMesh p x xx) (hide (fun w A0 n0 c0 B0 A P n c B m d h0 h1 h2 h3 => scntm_any A0 A P n0 c0 B0 n c B m d p x xx w h0 h1 h2 h3)) (hide (fun w A0 n0 c0 B0 A P n c B m d h0 h1 h2 h3 => icntm_any A0 A P n0 c0 B0 n c B m d p x xx w h0 h1 h2 h3))).mono fun e W' ⟨he, hb⟩ => ?_
  subst he
  exact ⟨_, rfl, law_end laidOut (by rw [Try.params6]; exact params_ok) Try.underlying4 rfl rfl hW' rfl hb⟩

set_option maxRecDepth 100000 in
theorem lifted (os : Os) (started : os.Started) (H : Type) (enc : TypeId × Value → H) :
    ReturnsInHanded {} Try.checked os 6 .any (Rows.fnExactCountMeshSpec.pre6 enc Try.prog Try.f6 Rows.fnExactCountMeshRow.domain false) (Rows.fnExactCountMeshSpec.post enc Try.prog Try.f6 false true false false) := by
  refine returnsInHanded_of_change (C := Try.checked) own started (by kernel_rfl) Try.func6
    (ChangeSpec.witness6 (enc := enc) (C := Try.checked) false ⟨#[], #[.slice none 0 0, .agg #[.slice none 0 0, .slice none 0 0]], []⟩ 8 (by kernel_rfl) (by kernel_rfl) (by kernel_rfl) (by kernel_rfl)) ?_
  intro W base args ds gs before hval hW _ _
  exact contract H enc W base args ds gs before hval hW

theorem proved : Rows.FnExactCountMeshSaid :=
  OpenClaim.holds_of_wide 6 Try.f6 rfl rfl rfl rfl rfl rfl rfl ⟨rfl, rfl, rfl, rfl, rfl⟩ rfl rfl rfl rfl rfl (by kernel_rfl) Try.func6 (by kernel_rfl)
    (of_decide_eq_true (by kernel_rfl)) (by unfold Func.isWrapper; first | (rw [if_pos (by decide +kernel)]; kernel_rfl) | (rw [if_neg (by decide +kernel)]; exact ⟨rfl, rfl⟩))
    (fun os started H enc _ => lifted os started H enc)
end Go.Proofs.Ytcoegjhhhnfplaa.fnExactCountMesh
