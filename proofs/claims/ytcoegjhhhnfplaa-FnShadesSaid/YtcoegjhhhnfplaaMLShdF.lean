/-
  For every code the law FnShades answers true and leaves its argument as it was: a box that can be shaded changes nothing for short permutations.
-/
import Derived.Test.YtcoegjhhhnfplaaB12
import Derived.Test.YtcoegjhhhnfplaaB11
import Derived.Test.YtcoegjhhhnfplaaB6
import Derived.Test.YtcoegjhhhnfplaaB5
import Derived.Test.YtcoegjhhhnfplaaB8










namespace Go.Proofs.Ytcoegjhhhnfplaa.fnShades
set_option maxRecDepth 100000
open Go.RowKit Go.ChangeShapes Go.WideShapes Go.ChangeAt

/-- 'list = append(list, row)', the list its own, the rows others' too. -/
theorem wpList_push_mix {ops : Array Oper} {rest : List Oper} {o : Oper} {a : Act} {W : World} {Q : Exit → Act → World → Prop} (hgd : o.guard = none) (sl x : Operand)
    (ho : o.op = .call { callee := .builtin .append, args := #[sl, x], argTypes := #[25, 25] })
    (base B : Nat) (wr : World) (v u : Value) (vs : List Value) (zss : List (List Int)) (zs : List Int) (hs : a.eval sl = v) (hx : a.eval x = .slice (some ⟨wr.heap.size, 0, none⟩) 1 1) (hW : W = wr.alloc (.cells #[u] 24))
    (hown : wr.ownsRow base 24 1 v zss.length vs) (hin : Inner wr B vs zss) (hu : Ints wr B u zs) (ha : ∀ x ∈ vs, Away x u) (hn : zss.length ≤ 1048576) (hbase : base ≤ wr.heap.size)
    (K : ∀ v' w', w'.ownsRow base 24 1 v' (zss ++ [zs]).length (vs ++ [u]) → Inner w' B (vs ++ [u]) (zss ++ [zs]) → Below base wr w' → KeepI wr w' → wpList Try.prog ops Q rest (a.put o.dst v') w') : wpList Try.prog ops Q (o :: rest) a W := by
  obtain ⟨i0, hi, hz0, hz1, hz2⟩ := info_parts rowsInfo
  obtain ⟨A1, c1, rfl⟩ := hu.slice
  refine wpList_append_one hgd sl x 25 ho base 24 i0 (.slice none 0 0) 24 Try.underlying25 hi hz0 hz1 hz2 rfl wr wr v _ _ hs hown _ hx hW rfl (by omega) (by unfold maxLen; omega) (Below.refl _ _) hbase fun v' w' h1 h2 h3 => K v' w' (by rw [List.length_append]; exact h1) ?_ h2 (KeepI.of_grown hown h3)
  have hk := KeepI.of_grown hown h3
  exact (hin.keepI hk).push (hu.keepI hk) ha
theorem keep5 {B : Nat} {wr w' : World} {a b c d e : Addr} {t u v x y : Value} (h1 : wr.cell? a = some t) (h2 : wr.cell? b = some u) (h3 : wr.cell? c = some v) (h4 : wr.cell? d = some x) (h5 : wr.cell? e = some y) (ha : a.block < B) (hb : b.block < B) (hc : c.block < B) (hd : d.block < B) (he : e.block < B)
    (h : Below B wr w') : w'.cell? a = some t ∧ w'.cell? b = some u ∧ w'.cell? c = some v ∧ w'.cell? d = some x ∧ w'.cell? e = some y ∧ Below B wr w' := ⟨(h.cell ha).trans h1, (h.cell hb).trans h2, (h.cell hc).trans h3, (h.cell hd).trans h4, (h.cell he).trans h5, h⟩
/-! plain -/
/-- [x, y] stands ahead of [a, b]. -/
def ahead (x y a b : Int) : Bool := decide (x < a) || decide (a = x) && decide (y < b)
theorem canR_parts {q : List Int} {S : List (List Int)} {x y : Int} (h : canR q S x y = true) : meshOK q S = true ∧ boxB q.length x y = true ∧ [x, y] ∉ S := by
  refine ⟨?_, ?_, fun h3 => ?_⟩
  · cases e : meshOK q S with
    | true => rfl
    | false => rw [canR_no (.inl e)] at h; cases h
  · cases e : boxB q.length x y with
    | true => rfl
    | false => rw [canR_no (.inr (.inl e))] at h; cases h
  · rw [canR_no (.inr (.inr h3))] at h; cases h
theorem canR_four {q : List Int} {S T : List (List Int)} {x y : Int} (h : canR q S x y = true) (hT : ∀ s, s ∈ T ↔ s ∈ S ∨ s = [x, y]) {k : Nat} {p : List Int} (hp : (permL 4)[k]? = some p) : canB q S T p = true := by
  obtain ⟨h1, h2, h3⟩ := canR_parts h
  rw [canR_yes h1 h2 h3] at h
  refine canN_at ?_ hp
  rw [canN_same (R := S ++ [[x, y]]) (fun s => by rw [hT, List.mem_append, List.mem_singleton])]
  cases e : canN q S (S ++ [[x, y]]) 4 with
  | true => rfl
  | false => rw [canL_no (k := 4) (by omega) e] at h; cases h
/-- The boxes with the new one, and what is asked of them. -/
structure MoreOK (q : List Int) (S : List (List Int)) (x y : Int) (T : List (List Int)) : Prop where
  ok : meshOK q T = true
  mem : ∀ s, s ∈ T ↔ s ∈ S ∨ s = [x, y]
  few : T.length ≤ 2
theorem box_at {n : Nat} {x y : Int} (h : boxB n x y = true) : boxOK n [x, y] = true := by
  unfold boxB at h
  rw [Bool.and_eq_true] at h
  unfold boxOK at0
  simp only [List.length_cons, List.length_nil, List.getD_cons_zero, List.getD_cons_succ]
  rw [h.1, h.2]
  rfl
theorem befL_two (x y a b : Int) : befL [x, y] [a, b] = ahead x y a b := by
  rw [befL_eq (p := [x, y]) (q := [a, b]) rfl]
  unfold ahead
  simp only [lexL]
  by_cases h : x = a
  · subst h; simp; omega
  · by_cases h2 : x < a
    · simp [h, h2]
    · have h3 : ¬ a = x := fun e => h e.symm
      simp [h, h2, h3]
theorem more_one {q : List Int} {x y : Int} (h : canR q [] x y = true) : MoreOK q [] x y [[x, y]] := by
  obtain ⟨h1, h2, h3⟩ := canR_parts h
  have h4 := meshOK_iff.1 h1
  refine ⟨meshOK_iff.2 ⟨h4.1, h4.2.1, ?_⟩, fun s => by simp, by simp⟩
  simp only [List.length_cons, List.length_nil, boxesK, Nat.zero_add, List.getD_cons_zero, box_at h2]
  rfl
theorem more_two {q : List Int} {x y a b : Int} (h : canR q [[a, b]] x y = true) (hn : ahead x y a b = true) : MoreOK q [[a, b]] x y [[x, y], [a, b]] := by
  obtain ⟨h1, h2, h3⟩ := canR_parts h
  have h4 := meshOK_iff.1 h1
  have h5 := boxesK_box h4.2.2 (show 0 < [[a, b]].length by simp)
  refine ⟨meshOK_iff.2 ⟨h4.1, h4.2.1, ?_⟩, fun s => by simp [or_comm], by simp⟩
  simp only [List.getD_cons_zero] at h5
  simp only [List.length_cons, List.length_nil, boxesK, Nat.zero_add, List.getD_cons_zero, List.getD_cons_succ, box_at h2, h5]
  simp [befL_two, hn]
theorem more_end {q : List Int} {x y a b : Int} (h : canR q [[a, b]] x y = true) (hn : ahead x y a b = false) : MoreOK q [[a, b]] x y [[a, b], [x, y]] := by
  obtain ⟨h1, h2, h3⟩ := canR_parts h
  have h4 := meshOK_iff.1 h1
  have h5 := boxesK_box h4.2.2 (show 0 < [[a, b]].length by simp)
  have h6 : ahead a b x y = true := by
    have h7 : ¬ (x = a ∧ y = b) := fun e => h3 (by rw [e.1, e.2]; simp)
    unfold ahead at hn ⊢
    simp at hn ⊢
    omega
  refine ⟨meshOK_iff.2 ⟨h4.1, h4.2.1, ?_⟩, fun s => by simp, by simp⟩
  simp only [List.getD_cons_zero] at h5
  simp only [List.length_cons, List.length_nil, boxesK, Nat.zero_add, List.getD_cons_zero, List.getD_cons_succ, box_at h2, h5]
  simp [befL_two, h6]
/-- What the loop has put. -/
def Sofar (S : List (List Int)) (x y : Int) (k : Nat) (b : Bool) (T : List (List Int)) : Prop :=
  (k = 0 ∧ b = false ∧ T = []) ∨ ∃ a1 b1 : Int, S = [[a1, b1]] ∧ k = 1 ∧ ((b = true ∧ T = [[x, y], [a1, b1]] ∧ ahead x y a1 b1 = true) ∨ (b = false ∧ T = [[a1, b1]] ∧ ahead x y a1 b1 = false))
/-- The other struct while it is filled. -/
structure Filling (w2 : World) (L g : Nat) (A : Option Addr) (n c : Nat) (P : Option Addr) (d : Nat) (T : List (List Int)) (vs : List Value) (wr : World) : Prop where
  hG : Whole wr g 27 #[.slice A n c, .slice P T.length d]
  hO : wr.ownsRow (g + 1) 24 1 (.slice P T.length d) T.length vs
  hI : Inner wr L vs T
  hB : Below g w2 wr
  hX : ∀ v ∈ vs, v.ownBlock = none ∨ v.ownBlock ≠ some g
theorem Filling.push {w2 wr w' : World} {L g n c d d' : Nat} {A P P' : Option Addr} {T T' : List (List Int)} {vs vs' : List Value} (h : Filling w2 L g A n c P d T vs wr) (hb : Below (g + 1) wr w') (ho : w'.ownsRow (g + 1) 24 1 (.slice P' T'.length d') T'.length vs') (hi : Inner w' L vs' T') (hoff : ∀ v ∈ vs', v.ownBlock = none ∨ v.ownBlock ≠ some g) :
    Filling w2 L g A n c P' d' T' vs' (w'.setCell ⟨g, 1, none⟩ (.slice P' T'.length d')) :=
  ⟨(h.hG.below hb (Nat.lt_succ_self g)).put 1 _, own_past ho (p := ⟨g, 1, none⟩) (Nat.lt_succ_self g) _,
    ⟨hi.len, fun i u zs hu hz => (hi.row i u zs hu hz).kept (grownBy_setCellA w' ⟨g, 1, none⟩ (.slice P' T'.length d')) (hoff u (List.mem_of_getElem? hu)), hi.away⟩,
    (h.hB.trans (hb.mono (Nat.le_succ g))).setCell (p := ⟨g, 1, none⟩) (Nat.le_refl _) _, hoff⟩
theorem fours : ∃ F : List (List Int), (∀ w', Calls Try.prog 29 #[.int .i64 4] w' (GivesSS w' F)) ∧ F.length ≤ 720 ∧ (∀ z ∈ F, isP z = true ∧ z.length = 4 ∧ ∀ v ∈ z, 1 ≤ v ∧ v ≤ 6) ∧
    ∀ (q : List Int) (S T : List (List Int)) (x y : Int), canR q S x y = true → (∀ s, s ∈ T ↔ s ∈ S ∨ s = [x, y]) → ∀ (k : Nat) (p : List Int), F[k]? = some p → canB q S T p = true := by
  refine ⟨permL 4, fun w' => ?_, (permL_small 4 (by omega)).1, fun z hz => ⟨permL_isP 4 (by omega) z hz, permL_rows 4 (by omega) z hz⟩, fun q S T x y h hT k p hp => canR_four h hT hp⟩
  have h := sperms_any ((4 : Nat) : Int) (by omega) w'
  rw [permsR_yes (by omega)] at h
  exact h
theorem row_past {w w' : World} {B g : Nat} {v u : Value} {z : List Int} (h : Ints w B v z) (hu : Until g v) (hb : Below (g + 1) w w') : Ints (w'.setCell ⟨g, 1, none⟩ u) B v z := (ints_under h hu hb).kept (grownBy_setCellA w' ⟨g, 1, none⟩ u) (away_block hu)
theorem int_pair {w : World} {B n c : Nat} {A : Option Addr} {f t : Int} (h : Ints w B (.slice A n c) [f, t]) : ∃ g, A = some ⟨g, 0, none⟩ ∧ n = 2 ∧ B ≤ g ∧ g < w.heap.size ∧ w.cell? ⟨g, 0, none⟩ = some (.int .i64 f) ∧ w.cell? ⟨g, 1, none⟩ = some (.int .i64 t) := by
  have hl := h.len
  have h' : Row w B (.slice A n c) 2 (i64s [f, t]) := h
  rcases h'.2 with ⟨_, h0⟩ | ⟨g, cap, cur, e, hv, hb, hg, _⟩
  · cases h0
  · injection hv with hA hn
    subst hA
    have c0 := Row.cells (g := g) h' rfl 0 (by omega)
    have c1 := Row.cells (g := g) h' rfl 1 (by omega)
    exact ⟨g, rfl, by simpa using hl.symm, hb, (Array.getElem?_eq_some_iff.1 hg).1, c0, c1⟩
theorem sofar_end {q : List Int} {S T : List (List Int)} {x y : Int} {m : Nat} {b : Bool} (h : canR q S x y = true) (hm : m = S.length) (hs : Sofar S x y m b T) : (b = true → MoreOK q S x y T) ∧ (b = false → MoreOK q S x y (T ++ [[x, y]]) ∧ T.length ≤ 1) := by
  rcases hs with ⟨rfl, rfl, rfl⟩ | ⟨a1, b1, rfl, rfl, ⟨rfl, rfl, h1⟩ | ⟨rfl, rfl, h1⟩⟩
  · have h0 : S = [] := List.eq_nil_of_length_eq_zero hm.symm
    subst h0
    exact ⟨fun e => (by cases e), fun _ => ⟨more_one h, by simp⟩⟩
  · exact ⟨fun _ => more_two h h1, fun e => (by cases e)⟩
  · exact ⟨fun e => (by cases e), fun _ => ⟨more_end h h1, by simp⟩⟩
theorem more_small {q : List Int} {S T : List (List Int)} {x y : Int} (h : MoreOK q S x y T) (hq : q.length ≤ 9) : ∀ z ∈ T, z.length ≤ 1048576 ∧ Small z := fun z hz => by
  obtain ⟨u, v, rfl, hu, hv⟩ := (boxL_mesh h.ok).two z hz
  refine ⟨by simp, fun t ht => ?_⟩
  simp at ht
  rcases ht with rfl | rfl <;> omega
theorem same_b {q p : List Int} {S T : List (List Int)} {L1 L2 : Nat} (h1 : L1 = (meshR p q S).length) (h2 : L2 = (meshR p q T).length) (h : canB q S T p = true) : (!(decide (0 < L1) == decide (0 < L2))) = false := by
  unfold canB at h
  rw [← h1, ← h2] at h
  by_cases e1 : 0 < L1 <;> by_cases e2 : 0 < L2 <;> simp [e1, e2] at h ⊢

set_option maxRecDepth 100000 in
set_option maxHeartbeats 12800000 in
theorem walk (A : Option Addr) (n c : Nat) (bs : List UInt8) (w : World) (hr : Reads w w.heap.size A n (u8s bs)) (hn : n ≤ maxLen) :
    Calls Try.prog 4 #[.slice A n c] w fun e w' => e = .returned (.bool true) ∧ Below w.heap.size w w' := by
  unfold maxLen at hn
  have HG := hide (big_any A n c hn w)
  by_cases hbig : n ≤ 1048576
  · rw [show decide (1048576 < n) = false from decide_eq_false (by omega)] at HG
    go_enter Try.func4, Try.ntmps4
    go_wp2_with fail
    refine (unhide HG).mono ?_
    rintro e w0 ⟨rfl, rfl⟩
    clear HG
    have hb := Below.refl w.heap.size w
    go_wp2_with fail
    refine (dcan_any A n c w.heap.size bs w (hr.below hb) hbig hb.size).mono ?_
    rintro e w1 ⟨A_q, c_q, P_s, d_s, q, S, x, y, rfl, l_q, hS, hx, hy, o, d⟩
    replace hb := below_after hb d
    clear d hr
    obtain ⟨m, hm⟩ : ∃ m, m = S.length := ⟨_, rfl⟩
    have hm1 : m ≤ 1 := by rcases hS with rfl | ⟨a, b, rfl, _⟩ <;> simp at hm <;> omega
    obtain ⟨n_q, hnq⟩ : ∃ k, k = q.length := ⟨_, rfl⟩
    rw [← hm] at o ⊢
    rw [← hnq] at o ⊢
    have HNQ := hide hnq
    have HM := hide hm
    have HS := hide hS
    clear hm hS hnq
    obtain ⟨w2, hw2⟩ : ∃ w2, w2 = w1.alloc (.cells #[.slice A_q n_q c_q, .slice P_s m d_s] 27) := ⟨_, rfl⟩
    have d2 : Below w1.heap.size w1 w2 := by rw [hw2]; exact (Below.refl _ w1).alloc (Nat.le_refl _) _
    obtain ⟨g1, hg1⟩ : ∃ g, g = w1.heap.size := ⟨_, rfl⟩
    have K1 : Whole w2 g1 27 #[.slice A_q n_q c_q, .slice P_s m d_s] := by rw [hw2, hg1]; exact Whole.new _ _ _
    have oR := o.row.below d2
    have oS := o.pcs.intsS.below d2
    have hb2 := below_after hb d2
    have hL1 : w.heap.size ≤ g1 := by rw [hg1]; exact hb.size
    have aq : Arg w2 w2.heap.size A_q n_q c_q q := l_q.arg oR (by omega)
    have hsm : ∀ z ∈ S, z.length ≤ 1048576 ∧ Small z := fun z hz => by
      rcases unhide HS with rfl | ⟨a, b, rfl, h1, h2⟩
      · simp at hz
      · simp at hz
        subst hz
        refine ⟨by simp, fun t ht => ?_⟩
        simp at ht
        rcases ht with rfl | rfl <;> omega
    have aS : AtS w2 P_s m S := oS.atS hsm
    obtain ⟨can, hcan⟩ : ∃ b, canR q S x y = b := ⟨_, rfl⟩
    have HC := hide hcan
    have H1 := hide (icans_any A_q P_s n_q c_q _ m d_s q S x y w2 aq aS (by omega))
    have HW2 := hide hw2
    have HG1 := hide hg1
    have HAQ := hide aq
    have HAS := hide aS
    have HOR := hide oR
    have HOS := hide oS
    have HSM := hide hsm
    rw [hcan] at H1
    have k0 := K1.cell 0
    have k1 := K1.cell 1
    have kl := K1.lt
    simp only [List.getElem?_toArray, List.getElem?_cons_zero, List.getElem?_cons_succ] at k0 k1
    clear hw2 hg1 aq aS oR oS hsm hcan o d2 hb K1
    go_wp2_with fail
    rw [← unhide HW2, ← unhide HG1]
    refine (unhide H1).mono ?_
    rintro e w3 ⟨rfl, d3⟩
    have d3' := d3
    have p0 := (d3.cell (p := ⟨g1, 0, none⟩) kl).trans k0
    have p1 := (d3.cell (p := ⟨g1, 1, none⟩) kl).trans k1
    have pl : g1 < w3.heap.size := Nat.lt_of_lt_of_le kl d3.size
    have hb3 := below_after hb2 d3
    have HAQ3 := hide ((unhide HAQ).below d3)
    have HAS3 := hide ((unhide HAS).below d3)
    have HOR3 := hide ((unhide HOR).below d3)
    have HOS3 := hide ((unhide HOS).below d3)
    have H2 := hide (scans_any A_q P_s n_q c_q _ m d_s q S x y w3 (unhide HAQ3) (unhide HAS3) (by omega))
    rw [unhide HC] at H2
    clear H1 HW2 HAQ HAS HOR HOS d3 d3' k0 k1 kl hb2 HG1
    go_wp2_with fail
    refine (unhide H2).mono ?_
    rintro e w4 ⟨rfl, d4⟩
    have r0 := (d4.cell (p := ⟨g1, 0, none⟩) pl).trans p0
    have r1 := (d4.cell (p := ⟨g1, 1, none⟩) pl).trans p1
    have rl : g1 < w4.heap.size := Nat.lt_of_lt_of_le pl d4.size
    have hb4 := below_after hb3 d4
    have HAQ4 := hide ((unhide HAQ3).below d4)
    have HAS4 := hide ((unhide HAS3).below d4)
    have HOR4 := hide ((unhide HOR3).below d4)
    have HOS4 := hide ((unhide HOS3).below d4)
    clear H2 HAQ3 HAS3 HOR3 HOS3 d4 p0 p1 pl hb3
    cases can with
    | false =>
      go_wp2
      go_ret
      exact ⟨rfl, hb4⟩
    | true =>
      obtain ⟨w5, hw5⟩ : ∃ w5, w5 = w4.alloc (.cells #[.slice A_q n_q c_q, .slice none 0 0] 27) := ⟨_, rfl⟩
      obtain ⟨g, hg⟩ : ∃ g, g = w4.heap.size := ⟨_, rfl⟩
      have hF : Filling w4 w.heap.size g A_q n_q c_q none 0 [] [] w5 :=
        ⟨by rw [hw5, hg]; exact Whole.new _ _ _, World.ownsRow_nil _ _ _ _, Inner.nil _ _, by rw [hw5, hg]; exact (Below.refl _ w4).alloc (Nat.le_refl _) _, fun v hv => by simp at hv⟩
      have HW5 := hide hw5
      have HG := hide hg
      have hgg : g1 < g := by omega
      have hbs := hb4.size
      have HF5 := hide hF
      clear hw5 hg hF
      go_wp2
      rw [← unhide HW5, ← unhide HG]
      clear HW5
      go_loopw [8, 9, 10] (fun b i _ wr => ∃ (bb : Bool) (k : Nat) (P : Option Addr) (d : Nat) (T : List (List Int)) (vs : List Value), b = .bool bb ∧ k ≤ m ∧ i = .int .i64 k ∧ Filling w4 w.heap.size g A_q n_q c_q P d T vs wr ∧ Hid (Sofar S x y k bb T)) (fun _ i _ _ => m - (intOf i).toNat)
      case atStart => exact ⟨false, 0, none, 0, [], [], rfl, Nat.zero_le _, rfl, unhide HF5, hide (.inl ⟨rfl, rfl, rfl⟩)⟩
      case round =>
        obtain ⟨bb, k, P, d, T, vs, rfl, hk, rfl, hF, hT⟩ := hrel
        clear HF5
        have hB := hF.hB
        have q0 := (hB.cell (p := ⟨g1, 0, none⟩) hgg).trans r0
        have q1 := (hB.cell (p := ⟨g1, 1, none⟩) hgg).trans r1
        have gl := hF.hG.lt
        have s0 := hF.hG.cell 0
        have s1 := hF.hG.cell 1
        have f1 := hF.hG.frozen 1
        simp only [List.getElem?_toArray, List.getElem?_cons_zero, List.getElem?_cons_succ] at s0 s1
        have hbw := hb4.trans (hB.mono (by omega))
        have hlow : w.heap.size ≤ wr.heap.size := hbw.size
        by_cases hlt : k < m
        · obtain ⟨rfl, rfl, rfl⟩ : k = 0 ∧ bb = false ∧ T = [] := by
            rcases unhide hT with h | ⟨a1, b1, h1, rfl, h2⟩
            · exact h
            · omega
      
          obtain ⟨a1, b1, hS1⟩ : ∃ a1 b1 : Int, S = [[a1, b1]] := by
            rcases unhide HS with h0 | ⟨a1, b1, h0, _⟩
            · have := unhide HM; rw [h0] at this; simp at this; omega
            · exact ⟨a1, b1, h0⟩
          obtain ⟨ad, A6, c6, z, hPs, hz, hc4, hI4⟩ := (unhide HOS4).at_ hlt
          obtain rfl : z = [a1, b1] := by rw [hS1] at hz; simpa using hz.symm
          obtain ⟨g6, rfl, _, _, l6, y0, y1⟩ := int_pair hI4
          have hU6 : Until g (.slice (some ⟨g6, 0, none⟩) [a1, b1].length c6) := by rw [unhide HG]; exact hI4.until_
          have hB4 : Below w4.heap.size w4 wr := by rw [← unhide HG]; exact hB
          have hI6 := hI4.below hB4
          have y0 := (hB4.cell l6).trans y0
          have y1 := (hB4.cell l6).trans y1
          have hcell := (hB4.cell (World.block_lt_of_cell? _ _ hc4)).trans hc4
          subst hPs
          have hcell0 : wr.cell? ad = some (.slice (some ⟨g6, 0, none⟩) 2 c6) := by
            have h9 := hcell
            rwa [show ad.add 0 = ad from by cases ad; rfl] at h9
          simp only [List.length_cons, List.length_nil, Nat.zero_add] at hcell hU6 hI6
          have HX := hide (And.intro hU6 hI6)
          have hvs : vs = [] := List.eq_nil_of_length_eq_zero hF.hI.len
          subst hvs
          have HF := hide hF
          have al : Below wr.heap.size wr (wr.alloc (.cells #[.int .i64 x, .int .i64 y] 3)) := (Below.refl _ _).alloc (Nat.le_refl _) _
          have hglt : g + 1 ≤ wr.heap.size := gl
          clear hc4 hI4 l6 hU6 hI6 hB4 hz hF hB
          by_cases hx1 : x < a1
          · have hah : ahead x y a1 b1 = true := by simp [ahead, hx1]
            have hun := (Ints.two2 wr wr.heap.size x y (Nat.le_refl _)).since
            go_wp2_with (at_builtin; refine wpList_push_mix rfl (.tmp 72) (.tmp 76) rfl (g + 1) w.heap.size (wr.alloc (.cells #[.int .i64 x, .int .i64 y] 3)) _ (.slice (some ⟨wr.heap.size, 0, none⟩) 2 2) [] [] [x, y] rfl (by first | rfl | (rw [World.size_alloc]; rfl)) rfl (own_below (unhide HF).hO al) ((unhide HF).hI.keepI (KeepI.of_below al)) ((Ints.two2 wr _ x y (Nat.le_refl _)).low hlow) (fun v hv => by simp at hv) (by simp) (by simp; omega) ?_)
            intro v' w' ho hi hb' hk'
            obtain ⟨P', d', rfl, _⟩ := Reads.of_own ho
            have hb1 : Below (g + 1) wr w' := (al.mono hglt).trans hb'
            have hG1 := (unhide HF).hG.below hb1 (Nat.lt_succ_self g)
            have t1 := hG1.cell 1
            have tf := hG1.frozen 1
            have tl := hG1.lt
            simp only [List.getElem?_toArray, List.getElem?_cons_zero, List.getElem?_cons_succ] at t1
            have hF1 := hide (show Filling w4 w.heap.size g A_q n_q c_q P' d' [[x, y]] [.slice (some ⟨wr.heap.size, 0, none⟩) 2 2] (w'.setCell ⟨g, 1, none⟩ (.slice P' 1 d')) from (unhide HF).push hb1 ho hi (fun v hv => by simp at hv; subst hv; exact .inr (fun e => by have e' : some wr.heap.size = some g := e; injection e' with e'; omega)))
            have hI7 := row_past (u := .slice P' 1 d') (unhide HX).2 (unhide HX).1 hb1
            clear ho hi hb' hk' hb1 hG1
            go_wp2_with (at_builtin; refine wpList_push_mix rfl (.tmp 80) (.tmp 82) rfl (g + 1) w.heap.size (w'.setCell ⟨g, 1, none⟩ (.slice P' 1 d')) _ (.slice (some ⟨g6, 0, none⟩) 2 c6) [.slice (some ⟨wr.heap.size, 0, none⟩) 2 2] [[x, y]] [a1, b1] rfl (by first | rfl | (rw [World.size_setCell]; rfl)) rfl (unhide hF1).hO (unhide hF1).hI hI7 (fun v hv => by simp at hv; subst hv; exact apart' hun (unhide HX).1 (by omega)) (by simp) (by simp; omega) ?_)
            intro v' w'' ho hi hb' hk'
            obtain ⟨P2, d2, rfl, _⟩ := Reads.of_own ho
            have hG1 := (unhide hF1).hG.below hb' (Nat.lt_succ_self g)
            have t1 := hG1.cell 1
            have tf := hG1.frozen 1
            have tl := hG1.lt
            simp only [List.getElem?_toArray, List.getElem?_cons_zero, List.getElem?_cons_succ] at t1
            have hF2 := hide (show Filling w4 w.heap.size g A_q n_q c_q P2 d2 [[x, y], [a1, b1]] [.slice (some ⟨wr.heap.size, 0, none⟩) 2 2, .slice (some ⟨g6, 0, none⟩) 2 c6] (w''.setCell ⟨g, 1, none⟩ (.slice P2 2 d2)) from (unhide hF1).push hb' ho hi (fun v hv => by
              simp at hv
              rcases hv with rfl | rfl
              · exact .inr (fun e => by have e' : some wr.heap.size = some g := e; injection e' with e'; omega)
              · exact away_block (unhide HX).1))
            clear ho hi hb' hk' hG1 hF1 hI7
            go_wp2
            go_roundw
            case rel => exact ⟨true, 1, P2, d2, [[x, y], [a1, b1]], _, rfl, by omega, by go_num, unhide hF2, hide (.inr ⟨a1, b1, hS1, rfl, .inl ⟨rfl, rfl, hah⟩⟩)⟩
            case measure => simp [intOf]; omega
          · by_cases hx2 : a1 = x
            · have hx2' : x = a1 := hx2.symm
              subst hx2'
              clear hx2
              by_cases hx3 : y < b1
              · have hah : ahead x y x b1 = true := by simp [ahead, hx3]
                have hun := (Ints.two2 wr wr.heap.size x y (Nat.le_refl _)).since
                go_wp2_with (at_builtin; refine wpList_push_mix rfl (.tmp 72) (.tmp 76) rfl (g + 1) w.heap.size (wr.alloc (.cells #[.int .i64 x, .int .i64 y] 3)) _ (.slice (some ⟨wr.heap.size, 0, none⟩) 2 2) [] [] [x, y] rfl (by first | rfl | (rw [World.size_alloc]; rfl)) rfl (own_below (unhide HF).hO al) ((unhide HF).hI.keepI (KeepI.of_below al)) ((Ints.two2 wr _ x y (Nat.le_refl _)).low hlow) (fun v hv => by simp at hv) (by simp) (by simp; omega) ?_)
                intro v' w' ho hi hb' hk'
                obtain ⟨P', d', rfl, _⟩ := Reads.of_own ho
                have hb1 : Below (g + 1) wr w' := (al.mono hglt).trans hb'
                have hG1 := (unhide HF).hG.below hb1 (Nat.lt_succ_self g)
                have t1 := hG1.cell 1
                have tf := hG1.frozen 1
                have tl := hG1.lt
                simp only [List.getElem?_toArray, List.getElem?_cons_zero, List.getElem?_cons_succ] at t1
                have hF1 := hide (show Filling w4 w.heap.size g A_q n_q c_q P' d' [[x, y]] [.slice (some ⟨wr.heap.size, 0, none⟩) 2 2] (w'.setCell ⟨g, 1, none⟩ (.slice P' 1 d')) from (unhide HF).push hb1 ho hi (fun v hv => by simp at hv; subst hv; exact .inr (fun e => by have e' : some wr.heap.size = some g := e; injection e' with e'; omega)))
                have hI7 := row_past (u := .slice P' 1 d') (unhide HX).2 (unhide HX).1 hb1
                clear ho hi hb' hk' hb1 hG1
                go_wp2_with (at_builtin; refine wpList_push_mix rfl (.tmp 80) (.tmp 82) rfl (g + 1) w.heap.size (w'.setCell ⟨g, 1, none⟩ (.slice P' 1 d')) _ (.slice (some ⟨g6, 0, none⟩) 2 c6) [.slice (some ⟨wr.heap.size, 0, none⟩) 2 2] [[x, y]] [x, b1] rfl (by first | rfl | (rw [World.size_setCell]; rfl)) rfl (unhide hF1).hO (unhide hF1).hI hI7 (fun v hv => by simp at hv; subst hv; exact apart' hun (unhide HX).1 (by omega)) (by simp) (by simp; omega) ?_)
                intro v' w'' ho hi hb' hk'
                obtain ⟨P2, d2, rfl, _⟩ := Reads.of_own ho
                have hG1 := (unhide hF1).hG.below hb' (Nat.lt_succ_self g)
                have t1 := hG1.cell 1
                have tf := hG1.frozen 1
                have tl := hG1.lt
                simp only [List.getElem?_toArray, List.getElem?_cons_zero, List.getElem?_cons_succ] at t1
                have hF2 := hide (show Filling w4 w.heap.size g A_q n_q c_q P2 d2 [[x, y], [x, b1]] [.slice (some ⟨wr.heap.size, 0, none⟩) 2 2, .slice (some ⟨g6, 0, none⟩) 2 c6] (w''.setCell ⟨g, 1, none⟩ (.slice P2 2 d2)) from (unhide hF1).push hb' ho hi (fun v hv => by
                  simp at hv
                  rcases hv with rfl | rfl
                  · exact .inr (fun e => by have e' : some wr.heap.size = some g := e; injection e' with e'; omega)
                  · exact away_block (unhide HX).1))
                clear ho hi hb' hk' hG1 hF1 hI7
                go_wp2
                go_roundw
                case rel => exact ⟨true, 1, P2, d2, [[x, y], [x, b1]], _, rfl, by omega, by go_num, unhide hF2, hide (.inr ⟨x, b1, hS1, rfl, .inl ⟨rfl, rfl, hah⟩⟩)⟩
                case measure => simp [intOf]; omega
              · have hah : ahead x y x b1 = false := by simp [ahead, hx3]
                go_wp2_with (at_builtin; refine wpList_push_mix rfl (.tmp 80) (.tmp 82) rfl (g + 1) w.heap.size wr _ (.slice (some ⟨g6, 0, none⟩) 2 c6) [] [] [x, b1] rfl rfl rfl (unhide HF).hO (unhide HF).hI (unhide HX).2 (fun v hv => by simp at hv) (by simp) (by omega) ?_)
                intro v' w' ho hi hb' hk'
                obtain ⟨P', d', rfl, _⟩ := Reads.of_own ho
                have hG1 := (unhide HF).hG.below hb' (Nat.lt_succ_self g)
                have t1 := hG1.cell 1
                have tf := hG1.frozen 1
                have tl := hG1.lt
                simp only [List.getElem?_toArray, List.getElem?_cons_zero, List.getElem?_cons_succ] at t1
                have hF1 := hide (show Filling w4 w.heap.size g A_q n_q c_q P' d' [[x, b1]] [.slice (some ⟨g6, 0, none⟩) 2 c6] (w'.setCell ⟨g, 1, none⟩ (.slice P' 1 d')) from (unhide HF).push hb' ho hi (fun v hv => by simp at hv; subst hv; exact away_block (unhide HX).1))
                clear ho hi hb' hk' hG1
                go_wp2
                go_roundw
                case rel => exact ⟨false, 1, P', d', [[x, b1]], _, rfl, by omega, by go_num, unhide hF1, hide (.inr ⟨x, b1, hS1, rfl, .inr ⟨rfl, rfl, hah⟩⟩)⟩
                case measure => simp [intOf]; omega
            · have hah : ahead x y a1 b1 = false := by simp [ahead, hx1, hx2]
              go_wp2_with (at_builtin; refine wpList_push_mix rfl (.tmp 80) (.tmp 82) rfl (g + 1) w.heap.size wr _ (.slice (some ⟨g6, 0, none⟩) 2 c6) [] [] [a1, b1] rfl rfl rfl (unhide HF).hO (unhide HF).hI (unhide HX).2 (fun v hv => by simp at hv) (by simp) (by omega) ?_)
              intro v' w' ho hi hb' hk'
              obtain ⟨P', d', rfl, _⟩ := Reads.of_own ho
              have hG1 := (unhide HF).hG.below hb' (Nat.lt_succ_self g)
              have t1 := hG1.cell 1
              have tf := hG1.frozen 1
              have tl := hG1.lt
              simp only [List.getElem?_toArray, List.getElem?_cons_zero, List.getElem?_cons_succ] at t1
              have hF1 := hide (show Filling w4 w.heap.size g A_q n_q c_q P' d' [[a1, b1]] [.slice (some ⟨g6, 0, none⟩) 2 c6] (w'.setCell ⟨g, 1, none⟩ (.slice P' 1 d')) from (unhide HF).push hb' ho hi (fun v hv => by simp at hv; subst hv; exact away_block (unhide HX).1))
              clear ho hi hb' hk' hG1
              go_wp2
              go_roundw
              case rel => exact ⟨false, 1, P', d', [[a1, b1]], _, rfl, by omega, by go_num, unhide hF1, hide (.inr ⟨a1, b1, hS1, rfl, .inr ⟨rfl, rfl, hah⟩⟩)⟩
              case measure => simp [intOf]; omega
        · obtain rfl : m = k := by omega
          have HE := hide (sofar_end (unhide HC) (unhide HM) (unhide hT))
          clear hT
          cases bb with
          | true =>
            have HOK := hide ((unhide HE).1 rfl)
            clear HE
            have HF := hide hF
            clear hF hB
            obtain ⟨F, h3, hFl, hFp, hFc⟩ := fours
            have H3 := hide h3
            have HFP := hide hFp
            have HFC := hide (hFc q S _ x y (unhide HC) (unhide HOK).mem)
            clear h3 hFp hFc
            go_wp2_with fail
            skip
            refine (unhide H3 _).mono ?_
            rintro e w9 ⟨A9, c9, rfl, o9, d9⟩
            have hF := unhide HF
            have hB : Below g w4 wr := hF.hB
            have gl := hF.hG.lt
            have s0 := hF.hG.cell 0
            have s1 := hF.hG.cell 1
            simp only [List.getElem?_toArray, List.getElem?_cons_zero, List.getElem?_cons_succ] at s0 s1
            have hB49 : Below w4.heap.size w4 w9 := by rw [← unhide HG]; exact hB.trans (d9.mono (Nat.le_of_lt gl))
            have a0 := (hB49.cell (p := ⟨g1, 0, none⟩) rl).trans r0
            have a1 := (hB49.cell (p := ⟨g1, 1, none⟩) rl).trans r1
            have a2 := (d9.cell (p := ⟨g, 0, none⟩) gl).trans s0
            have a3 := (d9.cell (p := ⟨g, 1, none⟩) gl).trans s1
            have x1 : g1 < w9.heap.size := Nat.lt_of_lt_of_le rl hB49.size
            have x2 : g < w9.heap.size := Nat.lt_of_lt_of_le gl d9.size
            have hq4 := (meshOK_iff.1 (unhide HOK).ok).2.1
            have HAQ9 := hide ((unhide HAQ4).below hB49)
            have HAS9 := hide ((unhide HAS4).below hB49)
            have hIT : IntsS wr w.heap.size (.slice P (T).length d) (T) := ⟨_, own_base hF.hO (by omega), hF.hI⟩
            have HAT9 := hide ((hIT.atS (more_small (unhide HOK) (by omega))).below d9)
            have hb9 := below_after hb4 hB49
            have HO := hide o9
            have few := (unhide HOK).few
            obtain ⟨N, hN⟩ : ∃ N, N = F.length := ⟨_, rfl⟩
            have hN7 : N ≤ 720 := by rw [hN]; exact hFl
            obtain ⟨t, ht⟩ : ∃ t, t = (T).length := ⟨_, rfl⟩
            rw [← hN] at HO ⊢
            rw [← ht] at HAT9 a3 few
            clear ht H3 o9 d9 hFl hF hB s0 s1 gl hB49 hIT hN HF r0 r1 rl
            go_wp2
            go_loopw [12] (fun i wr => ∃ j : Nat, j ≤ N ∧ i = .int .i64 j ∧ Below w9.heap.size w9 wr) (fun i _ => N - (intOf i).toNat)
            case atStart => exact ⟨0, Nat.zero_le _, rfl, Below.refl _ _⟩
            case round =>
              obtain ⟨j, hj, rfl, hdj⟩ := hrel
              by_cases hltj : j < N
              · obtain ⟨ad9, A6, c6, z, rfl, hz, hcell, hI⟩ := ((unhide HO).below hdj).at_ hltj
                have hzm := List.mem_of_getElem? hz
                obtain ⟨hzp, hzl, hzr⟩ := unhide HFP z hzm
                have ha := hI.arg (by omega) hI.cap fun v hv => by have := hzr v hv; omega
                have hbw9 := below_after hb9 hdj
                have e0 := (hdj.cell (p := ⟨g1, 0, none⟩) x1).trans a0
                have e1 := (hdj.cell (p := ⟨g1, 1, none⟩) x1).trans a1
                have e2 := (hdj.cell (p := ⟨g, 0, none⟩) x2).trans a2
                have e3 := (hdj.cell (p := ⟨g, 1, none⟩) x2).trans a3
                have z1 : g1 < wr.heap.size := Nat.lt_of_lt_of_le x1 hdj.size
                have z2 : g < wr.heap.size := Nat.lt_of_lt_of_le x2 hdj.size
                have z3 := World.block_lt_of_cell? _ _ hcell
                have hok := (canR_parts (unhide HC)).1
                obtain ⟨L1, hL1⟩ : ∃ L, L = (meshR z q S).length := ⟨_, rfl⟩
                obtain ⟨L2, hL2⟩ : ∃ L, L = (meshR z q (T)).length := ⟨_, rfl⟩
                have H1 := hide (show ∀ w', Below wr.heap.size wr w' → Calls Try.prog 18 #[.slice A6 z.length c6, .agg #[.slice A_q n_q c_q, .slice P_s m d_s]] w' (GivesN w' (L1 : Nat)) from fun W9 D9 => by
                  rw [hL1, ← numMesh_yes hzp hok]; exact scntm_any A6 A_q P_s _ c6 _ n_q c_q _ m d_s z q S W9 (ha.below D9) ((unhide HAQ9).below (below_after hdj D9)) ((unhide HAS9).below (below_after hdj D9)) (by omega))
                have H2 := hide (show ∀ w', Below wr.heap.size wr w' → Calls Try.prog 18 #[.slice A6 z.length c6, .agg #[.slice A_q n_q c_q, .slice P t d]] w' (GivesN w' (L2 : Nat)) from fun W9 D9 => by
                  rw [hL2, ← numMesh_yes hzp (unhide HOK).ok]; exact scntm_any A6 A_q P _ c6 _ n_q c_q _ t d z q _ W9 (ha.below D9) ((unhide HAQ9).below (below_after hdj D9)) ((unhide HAT9).below (below_after hdj D9)) (by omega))
                have hcc := same_b hL1 hL2 (unhide HFC _ _ hz)
                have HDJ := hide hdj
                have hbd := Below.refl wr.heap.size wr
                clear hz hzm hzp hzl hzr ha hI hdj hok hL1 hL2
                go_wp2
                go_region_held3 (fun w' => w'.cell? ⟨g1, 0, none⟩ = some (.slice A_q n_q c_q) ∧ w'.cell? ⟨g1, 1, none⟩ = some (.slice P_s m d_s) ∧ w'.cell? ⟨g, 0, none⟩ = some (.slice A_q n_q c_q) ∧ w'.cell? ⟨g, 1, none⟩ = some (.slice P t d) ∧ w'.cell? (ad9.add j) = some (.slice A6 z.length c6) ∧ Below wr.heap.size wr w') ((refine keep5 e0 e1 e2 e3 hcell z1 z1 z2 z2 z3 ?_; first | assumption | (apply Below.drew; assumption)))
                  (first
                    | (go_at_call 18; refine (unhide H1 _ (by first | assumption | (apply Below.drew; assumption))).mono ?_; rintro e w6 ⟨rfl, hb6⟩; have hb6' : Below wr.heap.size wr w6 := below_after (hbd.drew) hb6; clear H1)
                    | (go_at_call 18; refine (unhide H2 _ (by first | assumption | (apply Below.drew; assumption))).mono ?_; rintro e w7 ⟨rfl, hb7⟩; have hb7' : Below wr.heap.size wr w7 := below_after hb6' hb7; clear H2))
                have hrel' := hide (below_after (unhide HDJ) hb7')
                clear hb6 hb6' hb7 hb7' hbd HDJ e0 e1 e2 e3 hcell
                go_wp2
                all_goals (rename_i hh; try exact absurd (hcc.symm.trans hh) (by decide))
                go_roundw
                case rel => exact ⟨j + 1, by omega, by go_num, unhide hrel'⟩
                case measure => simp [intOf]; omega
              · have hbw9 := below_after hb9 hdj
                have e2 := (hdj.cell (p := ⟨g, 0, none⟩) x2).trans a2
                have e3 := (hdj.cell (p := ⟨g, 1, none⟩) x2).trans a3
                have z2 : g < wr.heap.size := Nat.lt_of_lt_of_le x2 hdj.size
                have H5 := hide (smesh_any A_q P n_q c_q _ t d q _ wr ((unhide HAQ9).below hdj) ((unhide HAT9).below hdj) (by omega))
                rw [(unhide HOK).ok] at H5
                clear hdj
                go_wp2_with fail
                refine (unhide H5).mono ?_
                rintro e w10 ⟨rfl, d10⟩
                have hend := below_after hbw9 d10
                go_wp2
                go_ret
                exact ⟨rfl, hend⟩
          | false =>
            obtain ⟨h1, hT1⟩ := (unhide HE).2 rfl
            have HOK := hide h1
            clear HE h1
            have HF := hide hF
            have hIn := hF.hI
            have hOn := hF.hO
            have al : Below wr.heap.size wr (wr.alloc (.cells #[.int .i64 x, .int .i64 y] 3)) := (Below.refl _ _).alloc (Nat.le_refl _) _
            have hglt : g + 1 ≤ wr.heap.size := gl
            clear hF hB
            go_wp2_with (at_builtin; refine wpList_push_mix rfl (.tmp 88) (.tmp 92) rfl (g + 1) w.heap.size (wr.alloc (.cells #[.int .i64 x, .int .i64 y] 3)) _ (.slice (some ⟨wr.heap.size, 0, none⟩) 2 2) vs T [x, y] rfl (by first | rfl | (rw [World.size_alloc]; rfl)) rfl (own_below hOn al) (hIn.keepI (KeepI.of_below al)) ((Ints.two2 wr _ x y (Nat.le_refl _)).low hlow) (hIn.away_new (Ints.two2 wr _ x y (Nat.le_refl _)).since (Nat.le_refl _)) (by omega) (by simp; omega) ?_)
            intro v' w' ho hi hb' hk'
            obtain ⟨P', d', rfl, _⟩ := Reads.of_own ho
            have hb1 : Below (g + 1) wr w' := (al.mono hglt).trans hb'
            have hG1 := (unhide HF).hG.below hb1 (Nat.lt_succ_self g)
            have t1 := hG1.cell 1
            have tf := hG1.frozen 1
            have tl := hG1.lt
            simp only [List.getElem?_toArray, List.getElem?_cons_zero, List.getElem?_cons_succ] at t1
            have HF9 := hide ((unhide HF).push (T' := T ++ [[x, y]]) hb1 (by rw [List.length_append]; exact ho) hi (fun v hv => by
              rcases List.mem_append.1 hv with hv | hv
              · exact (unhide HF).hX v hv
              · obtain rfl := List.mem_singleton.1 hv
                exact .inr (fun e => by have e' : some wr.heap.size = some g := e; injection e' with e'; omega)))
            clear ho hi hb' hk' hb1 hG1 HF hIn hOn al hglt hT1 s0 s1 f1 gl q0 q1 hbw
            have HF := HF9
            clear HF9
            simp only [List.length_append, List.length_cons, List.length_nil, Nat.zero_add] at HF
            obtain ⟨F, h3, hFl, hFp, hFc⟩ := fours
            have H3 := hide h3
            have HFP := hide hFp
            have HFC := hide (hFc q S _ x y (unhide HC) (unhide HOK).mem)
            clear h3 hFp hFc
            go_wp2_with fail
            generalize w'.setCell ⟨g, 1, none⟩ (.slice P' (T.length + 1) d') = w' at HF ⊢
            refine (unhide H3 _).mono ?_
            rintro e w9 ⟨A9, c9, rfl, o9, d9⟩
            have hF := unhide HF
            have hB : Below g w4 w' := hF.hB
            have gl := hF.hG.lt
            have s0 := hF.hG.cell 0
            have s1 := hF.hG.cell 1
            simp only [List.getElem?_toArray, List.getElem?_cons_zero, List.getElem?_cons_succ] at s0 s1
            have hB49 : Below w4.heap.size w4 w9 := by rw [← unhide HG]; exact hB.trans (d9.mono (Nat.le_of_lt gl))
            have a0 := (hB49.cell (p := ⟨g1, 0, none⟩) rl).trans r0
            have a1 := (hB49.cell (p := ⟨g1, 1, none⟩) rl).trans r1
            have a2 := (d9.cell (p := ⟨g, 0, none⟩) gl).trans s0
            have a3 := (d9.cell (p := ⟨g, 1, none⟩) gl).trans s1
            have x1 : g1 < w9.heap.size := Nat.lt_of_lt_of_le rl hB49.size
            have x2 : g < w9.heap.size := Nat.lt_of_lt_of_le gl d9.size
            have hq4 := (meshOK_iff.1 (unhide HOK).ok).2.1
            have HAQ9 := hide ((unhide HAQ4).below hB49)
            have HAS9 := hide ((unhide HAS4).below hB49)
            have hIT : IntsS w' w.heap.size (.slice P' ((T ++ [[x, y]])).length d') ((T ++ [[x, y]])) := ⟨_, own_base hF.hO (by omega), hF.hI⟩
            have HAT9 := hide ((hIT.atS (more_small (unhide HOK) (by omega))).below d9)
            have hb9 := below_after hb4 hB49
            have HO := hide o9
            have few := (unhide HOK).few
            obtain ⟨N, hN⟩ : ∃ N, N = F.length := ⟨_, rfl⟩
            have hN7 : N ≤ 720 := by rw [hN]; exact hFl
            obtain ⟨t, ht⟩ : ∃ t, t = ((T ++ [[x, y]])).length := ⟨_, rfl⟩
            rw [← hN] at HO ⊢
            rw [← ht] at HAT9 a3 few
            clear ht H3 o9 d9 hFl hF hB s0 s1 gl hB49 hIT hN HF r0 r1 rl
            go_wp2
            go_loopw [12] (fun i wr => ∃ j : Nat, j ≤ N ∧ i = .int .i64 j ∧ Below w9.heap.size w9 wr) (fun i _ => N - (intOf i).toNat)
            case atStart => exact ⟨0, Nat.zero_le _, rfl, Below.refl _ _⟩
            case round =>
              obtain ⟨j, hj, rfl, hdj⟩ := hrel
              by_cases hltj : j < N
              · obtain ⟨ad9, A6, c6, z, rfl, hz, hcell, hI⟩ := ((unhide HO).below hdj).at_ hltj
                have hzm := List.mem_of_getElem? hz
                obtain ⟨hzp, hzl, hzr⟩ := unhide HFP z hzm
                have ha := hI.arg (by omega) hI.cap fun v hv => by have := hzr v hv; omega
                have hbw9 := below_after hb9 hdj
                have e0 := (hdj.cell (p := ⟨g1, 0, none⟩) x1).trans a0
                have e1 := (hdj.cell (p := ⟨g1, 1, none⟩) x1).trans a1
                have e2 := (hdj.cell (p := ⟨g, 0, none⟩) x2).trans a2
                have e3 := (hdj.cell (p := ⟨g, 1, none⟩) x2).trans a3
                have z1 : g1 < wr.heap.size := Nat.lt_of_lt_of_le x1 hdj.size
                have z2 : g < wr.heap.size := Nat.lt_of_lt_of_le x2 hdj.size
                have z3 := World.block_lt_of_cell? _ _ hcell
                have hok := (canR_parts (unhide HC)).1
                obtain ⟨L1, hL1⟩ : ∃ L, L = (meshR z q S).length := ⟨_, rfl⟩
                obtain ⟨L2, hL2⟩ : ∃ L, L = (meshR z q ((T ++ [[x, y]]))).length := ⟨_, rfl⟩
                have H1 := hide (show ∀ w', Below wr.heap.size wr w' → Calls Try.prog 18 #[.slice A6 z.length c6, .agg #[.slice A_q n_q c_q, .slice P_s m d_s]] w' (GivesN w' (L1 : Nat)) from fun W9 D9 => by
                  rw [hL1, ← numMesh_yes hzp hok]; exact scntm_any A6 A_q P_s _ c6 _ n_q c_q _ m d_s z q S W9 (ha.below D9) ((unhide HAQ9).below (below_after hdj D9)) ((unhide HAS9).below (below_after hdj D9)) (by omega))
                have H2 := hide (show ∀ w', Below wr.heap.size wr w' → Calls Try.prog 18 #[.slice A6 z.length c6, .agg #[.slice A_q n_q c_q, .slice P' t d']] w' (GivesN w' (L2 : Nat)) from fun W9 D9 => by
                  rw [hL2, ← numMesh_yes hzp (unhide HOK).ok]; exact scntm_any A6 A_q P' _ c6 _ n_q c_q _ t d' z q _ W9 (ha.below D9) ((unhide HAQ9).below (below_after hdj D9)) ((unhide HAT9).below (below_after hdj D9)) (by omega))
                have hcc := same_b hL1 hL2 (unhide HFC _ _ hz)
                have HDJ := hide hdj
                have hbd := Below.refl wr.heap.size wr
                clear hz hzm hzp hzl hzr ha hI hdj hok hL1 hL2
                go_wp2
                go_region_held3 (fun w' => w'.cell? ⟨g1, 0, none⟩ = some (.slice A_q n_q c_q) ∧ w'.cell? ⟨g1, 1, none⟩ = some (.slice P_s m d_s) ∧ w'.cell? ⟨g, 0, none⟩ = some (.slice A_q n_q c_q) ∧ w'.cell? ⟨g, 1, none⟩ = some (.slice P' t d') ∧ w'.cell? (ad9.add j) = some (.slice A6 z.length c6) ∧ Below wr.heap.size wr w') ((refine keep5 e0 e1 e2 e3 hcell z1 z1 z2 z2 z3 ?_; first | assumption | (apply Below.drew; assumption)))
                  (first
                    | (go_at_call 18; refine (unhide H1 _ (by first | assumption | (apply Below.drew; assumption))).mono ?_; rintro e w6 ⟨rfl, hb6⟩; have hb6' : Below wr.heap.size wr w6 := below_after (hbd.drew) hb6; clear H1)
                    | (go_at_call 18; refine (unhide H2 _ (by first | assumption | (apply Below.drew; assumption))).mono ?_; rintro e w7 ⟨rfl, hb7⟩; have hb7' : Below wr.heap.size wr w7 := below_after hb6' hb7; clear H2))
                have hrel' := hide (below_after (unhide HDJ) hb7')
                clear hb6 hb6' hb7 hb7' hbd HDJ e0 e1 e2 e3 hcell
                go_wp2
                all_goals (rename_i hh; try exact absurd (hcc.symm.trans hh) (by decide))
                go_roundw
                case rel => exact ⟨j + 1, by omega, by go_num, unhide hrel'⟩
                case measure => simp [intOf]; omega
              · have hbw9 := below_after hb9 hdj
                have e2 := (hdj.cell (p := ⟨g, 0, none⟩) x2).trans a2
                have e3 := (hdj.cell (p := ⟨g, 1, none⟩) x2).trans a3
                have z2 : g < wr.heap.size := Nat.lt_of_lt_of_le x2 hdj.size
                have H5 := hide (smesh_any A_q P' n_q c_q _ t d' q _ wr ((unhide HAQ9).below hdj) ((unhide HAT9).below hdj) (by omega))
                rw [(unhide HOK).ok] at H5
                clear hdj
                go_wp2_with fail
                refine (unhide H5).mono ?_
                rintro e w10 ⟨rfl, d10⟩
                have hend := below_after hbw9 d10
                go_wp2
                go_ret
                exact ⟨rfl, hend⟩
  · rw [show decide (1048576 < n) = true from decide_eq_true (by omega)] at HG
    clear hr hn
    go_enter Try.func4, Try.ntmps4
    go_wp2_with fail
    refine (unhide HG).mono ?_
    rintro e w0 ⟨rfl, rfl⟩
    go_wp2
    go_ret
    exact ⟨rfl, Below.refl _ _⟩
theorem params_ok : ∀ t ∈ (#[22] : Array TypeId).toList, Try.prog.readableRec t = true ∧ t < Try.prog.types.size := by
  intro t ht
  simp only [List.mem_cons, List.not_mem_nil, or_false] at ht
  subst ht
  exact ⟨by kernel_rfl, of_decide_eq_true (by kernel_rfl)⟩

set_option maxRecDepth 100000 in
/-- WHAT THE WALK GIVES, FOR EVERY ARGUMENT. -/
theorem contract (H : Type) (enc : TypeId × Value → H) (W : World) (base : Nat) (args : Array Value) (ds gs : List (DataW H)) (before : List MemPlace)
    (hval : ∀ (j : Nat) t v, Try.f4.params[j]? = some t → args[j]? = some v → Value.okWide Try.prog W .any base t v)
    (hW : DataW.Whole enc Try.prog Try.f4.params.toList Rows.fnShadesSpec.vars false W args.toList ds gs before) :
    Calls Try.prog 4 args W fun e W' => ∃ v, e = .returned v ∧ Rows.fnShadesSpec.post enc Try.prog Try.f4 false true false false W args v W' := by
  have hW' := hW
  obtain ⟨p, q, hA0, hV, rfl, hfz, hnd⟩ := hW
  have hA : DataW.TrodAll enc Try.prog W 0 (fun _ => true) true Try.f4.params.toList args.toList ds p := hA0
  rw [Try.params4] at hA hval
  obtain ⟨v0, d0, rfl, rfl, h0⟩ := trodAll_one hA
  obtain ⟨rfl, rfl⟩ := trodVars_none hV
  obtain ⟨Abs, nbs, cbs, bs, rfl, hrbs, hnbs⟩ := open_bytes_reads Try.underlying22 Try.underlying5 cellsByte (hval 0 22 v0 rfl rfl) h0 (fun x hx => by simpa using hW'.lt x (by simp [hx]))
  refine (walk Abs nbs cbs bs W hrbs hnbs).mono fun e W' ⟨he, hb⟩ => ?_
  subst he
  exact ⟨_, rfl, law_end laidOut (by rw [Try.params4]; exact params_ok) Try.underlying4 rfl rfl hW' rfl hb⟩

set_option maxRecDepth 100000 in
theorem lifted (os : Os) (started : os.Started) (H : Type) (enc : TypeId × Value → H) :
    ReturnsInHanded {} Try.checked os 4 .any (Rows.fnShadesSpec.pre6 enc Try.prog Try.f4 Rows.fnShadesRow.domain false) (Rows.fnShadesSpec.post enc Try.prog Try.f4 false true false false) := by
  refine returnsInHanded_of_change (C := Try.checked) own started (by kernel_rfl) Try.func4
    (ChangeSpec.witness6 (enc := enc) (C := Try.checked) false ⟨#[], #[.slice none 0 0], []⟩ 8 (by kernel_rfl) (by kernel_rfl) (by kernel_rfl) (by kernel_rfl)) ?_
  intro W base args ds gs before hval hW _ _
  exact contract H enc W base args ds gs before hval hW

theorem proved : Rows.FnShadesSaid :=
  OpenClaim.holds_of_wide 4 Try.f4 rfl rfl rfl rfl rfl rfl rfl ⟨rfl, rfl, rfl, rfl, rfl⟩ rfl rfl rfl rfl rfl (by kernel_rfl) Try.func4 (by kernel_rfl)
    (of_decide_eq_true (by kernel_rfl)) (by unfold Func.isWrapper; first | (rw [if_pos (by decide +kernel)]; kernel_rfl) | (rw [if_neg (by decide +kernel)]; exact ⟨rfl, rfl⟩))
    (fun os started H enc _ => lifted os started H enc)
end Go.Proofs.Ytcoegjhhhnfplaa.fnShades
