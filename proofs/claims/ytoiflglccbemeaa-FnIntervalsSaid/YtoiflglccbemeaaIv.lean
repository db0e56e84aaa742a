
/-
  impl.CountIntervals, slices.Index and slices.Contains over pairs, impl.IsInterval, by their contracts.
-/
import Derived.Test.YtoiflglccbemeaaSpan
import Derived.Test.YtoiflglccbemeaaPush
import Derived.Laws.StructEq
namespace Go.Proofs.Ytoiflglccbemeaa
set_option maxRecDepth 100000
open Go.RowKit

def GivesN (w : World) (z : Int) (e : Ending) (w' : World) : Prop := e = .returned (.int .i64 z) ∧ Below w.heap.size w w'

theorem eqPair (a b c d : Int) (w : World) : (Op.equalIn 10000 54 (.agg #[.int .i64 a, .int .i64 b]) (.agg #[.int .i64 c, .int .i64 d])).run Try.prog w = .ok (a == c && b == d) w := by
  have u3 := Try.underlying3
  have hS : Try.prog.underlying 54 = some (.struct (Try.prog.fieldsOf 54)) := by kernel_rfl
  rw [show (10000 : Nat) = 9999 + 1 from rfl, run_equalIn_agg w 9999 54 _ _ hS (by kernel_rfl)]
  simp only [Program.fieldsOf, Try.underlying54]
  go_simp
  by_cases h1 : a = c <;> by_cases h2 : b = d <;> simp [h1, h2]

theorem icnt_any (A : Option Addr) (n c B : Nat) (zs : List Int) (w : World) (h : Arg w B A n c zs) :
    Calls Try.prog 27 #[.slice A n c] w (GivesN w (cntR zs)) := by
  obtain ⟨b, hb⟩ : ∃ b, isP zs = b := ⟨_, rfl⟩
  have H0 := hide (iisperm_any A n c B zs b hb w h.reads h.under h.le h.small)
  cases b with
  | false =>
    rw [cntR_no hb]
    clear hb h
    go_enter Try.func27, Try.ntmps27
    go_wp2_with fail
    refine (unhide H0).mono ?_
    rintro e w1 ⟨rfl, hb⟩
    clear H0
    go_wp2
    go_ret
    exact ⟨rfl, hb⟩
  | true =>
    rw [cntR_yes hb]
    have H1 := hide (fun w' (hb' : Below w.heap.size w w') => iall_any A n c B zs w' (h.below hb') hb)
    clear hb h
    go_enter Try.func27, Try.ntmps27
    go_wp2_with fail
    refine (unhide H0).mono ?_
    rintro e w1 ⟨rfl, hb1⟩
    have H2 := hide (unhide H1 w1 hb1)
    clear H0 H1
    go_wp2_with fail
    refine (unhide H2).mono ?_
    rintro e w2 ⟨A2, c2, rfl, hP2, hb2⟩
    have hb3 := below_after hb1 hb2
    clear H2 hP2 hb1 hb2
    go_wp2
    go_ret
    exact ⟨rfl, hb3⟩

set_option maxHeartbeats 800000 in
theorem index_any (A : Option Addr) (c B : Nat) (l : List (Int × Int)) (f t : Int) (w : World) (h : Prs w B (.slice A l.length c) l) (hn : l.length ≤ 1048576) :
    Calls Try.prog 65 #[.slice A l.length c, .agg #[.int .i64 f, .int .i64 t]] w fun e w' =>
      ∃ z : Int, e = .returned (.int .i64 z) ∧ (z ≥ 0 ↔ (f, t) ∈ l) ∧ Below w.heap.size w w' := by
  have heq := eqPair
  have hbel := (Below.refl w.heap.size w).alloc (Nat.le_refl _) (.cells #[.int .i64 f, .int .i64 t] 54)
  have hW := Whole.new w 54 #[.int .i64 f, .int .i64 t]
  have hP := h.below hbel
  obtain ⟨n, hln⟩ : ∃ n, n = l.length := ⟨_, rfl⟩
  rw [← hln] at hn h hP ⊢
  have HLN := hide hln
  clear h hln
  go_enter Try.func65, Try.ntmps65
  go_wp2
  go_loopw [5, 8] (fun _ i wr => ∃ k : Nat, k ≤ n ∧ i = .int .i64 k ∧ Drew (w.alloc (.cells #[.int .i64 f, .int .i64 t] 54)) wr ∧ Hid ((f, t) ∉ l.take k)) (fun _ i _ => n - (intOf i).toNat)
  case atStart => exact ⟨0, Nat.zero_le _, rfl, Drew.refl _, by exact (by simp : (f, t) ∉ l.take 0)⟩
  case round =>
    obtain ⟨k, hk, rfl, hd, hno⟩ := hrel
    have hWr := hW.below (hd.below (w.heap.size + 1)) (by omega)
    have w0 := hWr.cell 0
    have w1 := hWr.cell 1
    simp at w0 w1
    by_cases hlt : k < n
    · obtain ⟨x, hx⟩ : ∃ x, l[k]? = some x := ⟨_, List.getElem?_eq_getElem (by rw [← unhide HLN]; exact hlt)⟩
      obtain ⟨g, rfl, _, hc0, hc1⟩ := (hP.below (hd.below _)).at_ hx
      have HX := hide hx
      have HD := hide hd
      clear hx hd hP hW hWr
      by_cases he : x = (f, t)
      · subst he
        have hin : Hid ((f, t) ∈ l) := hide (List.mem_of_getElem? (unhide HX))
        simp only at hc0 hc1
        go_wp2
        go_quiet (fail)
        go_wp2
        go_ret
        exact ⟨_, rfl, ⟨fun _ => unhide hin, fun _ => by omega⟩, hbel.trans (((unhide HD).more _).below _)⟩
      · have hnext := hide (show (f, t) ∉ l.take (k + 1) from fun hm => by
          rw [List.take_add_one, unhide HX] at hm
          rcases List.mem_append.1 hm with hm | hm
          · exact unhide hno hm
          · simp at hm
            exact he hm.symm)
        have hne : (f == x.1 && t == x.2) = false := by
          rw [Bool.eq_false_iff]
          intro e
          simp only [Bool.and_eq_true, beq_iff_eq] at e
          exact he (Prod.ext e.1.symm e.2.symm)
        obtain ⟨x1, x2⟩ := x
        simp only at hc0 hc1 hne
        clear he hno HX
        go_wp2
        go_quiet (fail)
        go_wp2
        go_roundw
        case rel => exact ⟨k + 1, by omega, by go_num, (unhide HD).more _, hnext⟩
        case measure => simp [intOf]; omega
    · obtain rfl : n = k := by omega
      have hnin : Hid ((f, t) ∉ l) := hide (by
        have h1 := unhide hno
        rwa [unhide HLN, List.take_length] at h1)
      clear hP hW hWr hno
      go_wp2
      go_ret
      exact ⟨_, rfl, ⟨fun h => absurd h (by omega), fun h => absurd h (unhide hnin)⟩, hbel.trans (hd.below _)⟩

theorem contains_any (A : Option Addr) (n c B : Nat) (l : List (Int × Int)) (f t : Int) (b : Bool) (hb : decide ((f, t) ∈ l) = b) (w : World) (h : Prs w B (.slice A n c) l) (hl : l.length = n) (hn : n ≤ 1048576) :
    Calls Try.prog 57 #[.slice A n c, .agg #[.int .i64 f, .int .i64 t]] w (GivesB w b) := by
  have hbel := (Below.refl w.heap.size w).alloc (Nat.le_refl _) (.cells #[.int .i64 f, .int .i64 t] 54)
  have hW := Whole.new w 54 #[.int .i64 f, .int .i64 t]
  have w0 := hW.cell 0
  have w1 := hW.cell 1
  simp at w0 w1
  have HB := hide hb
  subst hl
  have H1 := hide (index_any A c B l f t _ (h.below hbel) hn)
  clear h hb hW
  go_enter Try.func57, Try.ntmps57
  go_wp2_with fail
  refine (unhide H1).mono ?_
  rintro e w2 ⟨z, rfl, hz, hb2⟩
  have hb3 := below_after hbel hb2
  have hzb : decide (z ≥ 0) = b := by rw [← unhide HB]; exact decide_eq_decide.2 hz
  clear H1 hb2 hbel hz
  go_wp2
  go_ret
  exact ⟨rfl, hb3⟩

theorem iisiv_any (A : Option Addr) (n c B : Nat) (zs : List Int) (f t : Int) (w : World) (h : Arg w B A n c zs) :
    Calls Try.prog 21 #[.slice A n c, .int .i64 f, .int .i64 t] w (GivesB w (isIv zs f t)) := by
  obtain ⟨b, hb⟩ : ∃ b, isP zs = b := ⟨_, rfl⟩
  have H0 := hide (iisperm_any A n c B zs b hb w h.reads h.under h.le h.small)
  rw [isIv_mem, hb]
  cases b with
  | false =>
    clear hb h
    rw [Bool.false_and]
    go_enter Try.func21, Try.ntmps21
    go_wp2_with fail
    refine (unhide H0).mono ?_
    rintro e w1 ⟨rfl, hb⟩
    clear H0
    go_wp2
    go_ret
    exact ⟨rfl, hb⟩
  | true =>
    rw [Bool.true_and]
    have H1 := hide (fun w' (hb' : Below w.heap.size w w') => iall_any A n c B zs w' (h.below hb') hb)
    have HL := hide (ivL_le hb)
    obtain ⟨b2, hb2⟩ : ∃ b2, decide ((f, t) ∈ ivL zs) = b2 := ⟨_, rfl⟩
    have HB2 := hide hb2
    rw [hb2]
    clear hb h hb2
    go_enter Try.func21, Try.ntmps21
    go_wp2_with fail
    refine (unhide H0).mono ?_
    rintro e w1 ⟨rfl, hb1⟩
    have H2 := hide (unhide H1 w1 hb1)
    clear H0 H1
    go_wp2_with fail
    refine (unhide H2).mono ?_
    rintro e w2 ⟨A2, c2, rfl, hP2, hb2⟩
    have H3 := hide (contains_any A2 _ c2 _ (ivL zs) f t b2 (unhide HB2) w2 hP2 rfl (by have := unhide HL; omega))
    have hb3 := below_after hb1 hb2
    clear H2 hP2 hb1 hb2
    go_wp2_with fail
    refine (unhide H3).mono ?_
    rintro e w4 ⟨rfl, hb4⟩
    have hb5 := below_after hb3 hb4
    clear H3 hb3 hb4
    go_wp2
    go_ret
    exact ⟨rfl, hb5⟩

theorem Ints.made2 (w : World) (B : Nat) (a b : Int) (hB : B ≤ w.heap.size) : Ints (w.alloc (.cells #[.int .i64 a, .int .i64 b] 3)) B (.slice (some ⟨w.heap.size, 0, none⟩) 2 2) [a, b] :=
  Ints.of_own (zs := [a, b]) ⟨rfl, .inr ⟨w.heap.size, 2, #[.int .i64 a, .int .i64 b], rfl, hB, heap_alloc_new w _, Nat.le_refl _, by unfold maxLen; omega, rfl, rfl⟩⟩

theorem Prs.keepI {w w' : World} {B : Nat} {v : Value} {l : List (Int × Int)} (h : Prs w B v l) (hk : KeepI w w') : Prs w' B v l := by
  refine ⟨h.1, ?_⟩
  rcases h.2 with h0 | ⟨g', cap, cur, rfl, hb, hg, hr⟩
  · exact .inl h0
  · exact .inr ⟨g', cap, cur, rfl, hb, (hk.block g' _ _ _ hg (by decide)).trans hg, hr⟩
theorem wpList_push_row_keep {ops : Array Oper} {rest : List Oper} {o : Oper} {a : Act} {W : World} {Q : Exit → Act → World → Prop} (hgd : o.guard = none) (sl x : Operand)
    (ho : o.op = .call { callee := .builtin .append, args := #[sl, x], argTypes := #[30, 30] })
    (base : Nat) (W0 w0 wr : World) (v u : Value) (zss : List (List Int)) (zs : List Int) (hs : a.eval sl = v) (hx : a.eval x = .slice (some ⟨wr.heap.size, 0, none⟩) 1 1) (hW : W = wr.alloc (.cells #[u] 24))
    (hS : IntsS w0 base v zss) (hb0 : Below w0.heap.size w0 wr) (hu : Ints wr w0.heap.size u zs) (hn : zss.length ≤ 1048576) (hb : Below base W0 wr) (hbase : base ≤ w0.heap.size)
    (K : ∀ v' w', IntsS w' base v' (zss ++ [zs]) → Below base W0 w' → KeepI wr w' → wpList Try.prog ops Q rest (a.put o.dst v') w') : wpList Try.prog ops Q (o :: rest) a W := by
  obtain ⟨i0, hi, hz0, hz1, hz2⟩ := info_parts rowsInfo
  obtain ⟨vs, hown, hin⟩ := hS
  have hown1 := own_below hown hb0
  obtain ⟨A1, c1, rfl⟩ := hu.slice
  refine wpList_append_one hgd sl x 30 ho base 24 i0 (.slice none 0 0) 24 Try.underlying30 hi hz0 hz1 hz2 rfl W0 wr v _ _ hs hown1 _ hx hW rfl (by omega) (by unfold maxLen; omega) hb (Nat.le_trans hbase hb0.size) fun v' w' h1 h2 h3 => K v' w' ?_ h2 (KeepI.of_grown hown1 h3)
  have hk := KeepI.of_grown hown1 h3
  refine ⟨vs ++ [.slice A1 zs.length c1], by rw [List.length_append]; exact h1, ?_⟩
  exact ((hin.keepI (KeepI.of_below hb0)).keepI hk).push ((hu.low hbase).keepI hk) (hin.away_new hu.since (Nat.le_refl _))
theorem take_snoc_p {l : List (Int × Int)} {k : Nat} {x : Int × Int} (h : l[k]? = some x) : l.take (k + 1) = l.take k ++ [x] := by rw [List.take_add_one, h]; rfl
theorem inner_cases (n : Nat) (f t : Int) : (f < t ∧ inner n (f, t) = !(f == 1 && t == (n : Int))) ∨ (¬ f < t ∧ inner n (f, t) = false) := by
  by_cases h : f < t
  · left
    refine ⟨h, ?_⟩
    rw [Bool.eq_iff_iff]
    simp [inner, h]
  · right
    exact ⟨h, by simp [inner, h]⟩

set_option maxHeartbeats 800000 in
theorem iivs_any (A : Option Addr) (n c B : Nat) (zs : List Int) (w : World) (h : Arg w B A n c zs) :
    Calls Try.prog 19 #[.slice A n c] w (GivesSS w (ivsR zs)) := by
  obtain ⟨b, hb⟩ : ∃ b, isP zs = b := ⟨_, rfl⟩
  have H0 := hide (iisperm_any A n c B zs b hb w h.reads h.under h.le h.small)
  cases b with
  | false =>
    rw [ivsR_no hb]
    clear hb h
    go_enter Try.func19, Try.ntmps19
    go_wp2_with fail
    refine (unhide H0).mono ?_
    rintro e w1 ⟨rfl, hb⟩
    clear H0
    go_wp2
    go_ret
    exact GivesSS.mk (v := .slice none 0 0) (IntsS.nil _ _) hb
  | true =>
    have H1 := hide (fun w' (hb' : Below w.heap.size w w') => iall_any A n c B zs w' (h.below hb') hb)
    have hl8 := ivL_le hb
    have HR : Hid (ivsR zs = pick n (ivL zs)) := hide (by rw [ivsR_yes hb, ← pick_all, h.len])
    have heq := eqPair
    obtain ⟨l, hl⟩ : ∃ l, l = ivL zs := ⟨_, rfl⟩
    rw [← hl] at H1 hl8 HR
    have HN := hide h.le
    clear hb h hl
    go_enter Try.func19, Try.ntmps19
    go_wp2_with fail
    refine (unhide H0).mono ?_
    rintro e w1 ⟨rfl, hb1⟩
    have H2 := hide (unhide H1 w1 hb1)
    have hI1 := IntsS.nil w1 w.heap.size
    clear H0 H1
    go_wp2_with fail
    refine (unhide H2).mono ?_
    rintro e w2 ⟨A2, c2, rfl, hP2, hb2⟩
    have hI2 := hI1.below hb2
    have hb3 := below_after hb1 hb2
    have hP3 := hP2.low hb1.size
    clear H2 hb2 hb1 hP2 hI1
    go_wp2
    go_loopw [3, 5, 12] (fun v _ i wr => ∃ k : Nat, k ≤ l.length ∧ i = .int .i64 k ∧ Below w.heap.size w wr ∧ Prs wr w.heap.size (.slice A2 l.length c2) l ∧ IntsS wr w.heap.size v (pick n (l.take k))) (fun _ _ i _ => l.length - (intOf i).toNat)
    case atStart => exact ⟨0, Nat.zero_le _, rfl, hb3, hP3, hI2⟩
    case round =>
      obtain ⟨k, hk, rfl, hbw, hP, hI⟩ := hrel
      clear hb3 hP3 hI2
      by_cases hlt : k < l.length
      · obtain ⟨x, hx⟩ : ∃ x, l[k]? = some x := ⟨_, List.getElem?_eq_getElem hlt⟩
        obtain ⟨g, rfl, hgl, hc0, hc1⟩ := hP.at_ hx
        obtain ⟨f, t⟩ := x
        simp only at hc0 hc1
        have hst := take_snoc_p hx
        have hbelp := (Below.refl wr.heap.size wr).alloc (Nat.le_refl _) (.cells #[.int .i64 f, .int .i64 t] 54)
        have hWp := Whole.new wr 54 #[.int .i64 f, .int .i64 t]
        have p0 := hWp.cell 0
        have p1 := hWp.cell 1
        have hPp := hP.below hbelp
        have hIp := hI.below hbelp
        have hbp := below_after hbw hbelp
        have hsz := hbw.size
        have hpl : (pick n (l.take k)).length ≤ 1048576 := by
          have h1 := pick_le n (l.take k)
          rw [List.length_take] at h1
          omega
        simp at p0 p1
        have HPT := hide (fun (h : inner n (f, t) = true) => (congrArg (pick n) hst).trans (pick_yes h))
        have HPF := hide (fun (h : inner n (f, t) = false) => (congrArg (pick n) hst).trans (pick_no h))
        clear hx hst hP hI hWp
        rcases inner_cases n f t with ⟨hft, hin⟩ | ⟨hft, hin⟩
        · cases hc : (f == 1 && t == (n : Int)) with
          | true =>
            rw [hc] at hin
            have hI5 : Hid (IntsS (wr.alloc (.cells #[.int .i64 f, .int .i64 t] 54)) w.heap.size u3 (pick n (l.take (k + 1)))) := hide (by rw [unhide HPF hin]; exact hIp)
            clear hin HPF HPT hIp
            go_wp2
            go_roundw
            case rel => exact ⟨k + 1, by omega, by go_num, hbp, hPp, unhide hI5⟩
            case measure => simp [intOf]; omega
          | false =>
            rw [hc] at hin
            have hnext := hide (unhide HPT hin)
            have hszp : w.heap.size ≤ (wr.alloc (.cells #[.int .i64 f, .int .i64 t] 54)).heap.size := by simp; omega
            have hsz1 : (wr.alloc (.cells #[.int .i64 f, .int .i64 t] 54)).heap.size = wr.heap.size + 1 := by simp
            have hbel2 := (Below.refl _ (wr.alloc (.cells #[.int .i64 f, .int .i64 t] 54))).alloc (Nat.le_refl _) (.cells #[.int .i64 f, .int .i64 t] 3)
            have hu := Ints.made2 (wr.alloc (.cells #[.int .i64 f, .int .i64 t] 54)) _ f t (Nat.le_refl _)
            have hP6 := hPp.below hbel2
            have hb6 := below_after hbp hbel2
            clear hin HPF HPT hPp
            go_wp2_with (first
              | (at_builtin; refine wpList_push_row_keep rfl (.tmp 28) (.tmp 34) rfl w.heap.size w _ _ _ _ _ _ rfl ?c1 ?c2 hIp hbel2 hu hpl hb6 hszp ?_))
            case c1 => simp; rfl
            case c2 => simp
            intro v4 w4 hI4 hb4 hk4
            have hP7 := hP6.keepI hk4
            have hI7 : IntsS w4 w.heap.size v4 (pick n (l.take (k + 1))) := by rw [unhide hnext]; exact hI4
            clear hP6 hI4 hk4 hIp hbel2 hu hb6
            go_wp2
            go_roundw
            case rel => exact ⟨k + 1, by omega, by go_num, hb4, hP7, hI7⟩
            case measure => simp [intOf]; omega
        · have hI5 : Hid (IntsS (wr.alloc (.cells #[.int .i64 f, .int .i64 t] 54)) w.heap.size u3 (pick n (l.take (k + 1)))) := hide (by rw [unhide HPF hin]; exact hIp)
          clear hin HPF HPT hIp
          go_wp2
          go_roundw
          case rel => exact ⟨k + 1, by omega, by go_num, hbp, hPp, unhide hI5⟩
          case measure => simp [intOf]; omega
      · obtain rfl : l.length = k := by omega
        have hI5 : IntsS wr w.heap.size u3 (ivsR zs) := by rw [unhide HR]; rwa [List.take_length] at hI
        clear hI hP
        go_wp2
        go_ret
        exact GivesSS.mk hI5 hbw

theorem isimple_any (A : Option Addr) (n c B : Nat) (zs : List Int) (w : World) (h : Arg w B A n c zs) :
    Calls Try.prog 23 #[.slice A n c] w (GivesB w (simpleP zs)) := by
  obtain ⟨b, hb⟩ : ∃ b, isP zs = b := ⟨_, rfl⟩
  have H0 := hide (iisperm_any A n c B zs b hb w h.reads h.under h.le h.small)
  have hl := h.len
  unfold simpleP
  rw [hb, hl]
  cases b with
  | false =>
    clear hb h hl
    simp only [Bool.false_and]
    go_enter Try.func23, Try.ntmps23
    go_wp2_with fail
    refine (unhide H0).mono ?_
    rintro e w1 ⟨rfl, hb⟩
    clear H0
    go_wp2
    go_ret
    exact ⟨rfl, hb⟩
  | true =>
    by_cases h0 : 0 < n
    · have H1 := hide (fun w' (hb' : Below w.heap.size w w') => iivs_any A n c B zs w' (h.below hb'))
      obtain ⟨m, hm⟩ : ∃ m, m = (ivsR zs).length := ⟨_, rfl⟩
      have HM := hide hm
      rw [← hm, show decide (0 < n) = true from decide_eq_true h0, Bool.true_and, Bool.true_and]
      have hm64 : m ≤ 64 := by rw [hm]; exact (ivsR_small zs).1
      have h0' : (0 : Int) < (n : Int) := by omega
      clear hb h hl hm
      go_enter Try.func23, Try.ntmps23
      go_wp2_with fail
      refine (unhide H0).mono ?_
      rintro e w1 ⟨rfl, hb1⟩
      have H2 := hide (unhide H1 w1 hb1)
      clear H0 H1
      go_wp2_with fail
      refine (unhide H2).mono ?_
      rintro e w2 ⟨A2, c2, rfl, hP2, hb2⟩
      have hb3 := below_after hb1 hb2
      rw [← unhide HM]
      clear H2 hP2 hb1 hb2
      go_wp2
      go_ret
      exact ⟨ret_bool (decide_eq_decide.2 (by omega)), hb3⟩
    · have h0' : ¬ (0 : Int) < (n : Int) := by omega
      rw [show decide (0 < n) = false from decide_eq_false h0]
      simp only [Bool.and_false, Bool.false_and]
      clear hb h hl h0
      go_enter Try.func23, Try.ntmps23
      go_wp2_with fail
      refine (unhide H0).mono ?_
      rintro e w1 ⟨rfl, hb⟩
      clear H0
      go_wp2
      go_ret
      exact ⟨rfl, hb⟩
end Go.Proofs.Ytoiflglccbemeaa
