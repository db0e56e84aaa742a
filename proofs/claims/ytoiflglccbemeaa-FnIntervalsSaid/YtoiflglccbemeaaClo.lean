
/-
  impl.isPlace, impl.ClosureOf, spec.ClosureOf, by their contracts.
-/
import Derived.Test.YtoiflglccbemeaaCloM
import Derived.Test.YtoiflglccbemeaaIvS
namespace Go.Proofs.Ytoiflglccbemeaa
set_option maxRecDepth 100000
open Go.RowKit

theorem iplace_any (A : Option Addr) (n c : Nat) (z : Int) (b : Bool) (hb : decide (1 ≤ z ∧ z ≤ (n : Int)) = b) (w : World) :
    Calls Try.prog 45 #[.slice A n c, .int .i64 z] w fun e w' => e = .returned (.bool b) ∧ w' = w := by
  by_cases h1 : 1 ≤ z
  · by_cases h2 : z ≤ (n : Int)
    · obtain rfl : b = true := by rw [← hb]; simp [h1, h2]
      clear hb
      go_enter Try.func45, Try.ntmps45
      go_wp2
      go_ret
      exact ⟨rfl, rfl⟩
    · obtain rfl : b = false := by rw [← hb]; simp [h2]
      clear hb
      go_enter Try.func45, Try.ntmps45
      go_wp2
      go_ret
      exact ⟨rfl, rfl⟩
  · obtain rfl : b = false := by rw [← hb]; simp [h1]
    clear hb
    go_enter Try.func45, Try.ntmps45
    go_wp2
    go_ret
    exact ⟨rfl, rfl⟩
theorem Drew.below_size {w w' : World} (h : Drew w w') : w.heap.size ≤ w'.heap.size := Nat.le_of_eq h.size.symm
theorem Prs.stay {w : World} {B : Nat} {v : Value} {l : List (Int × Int)} (h : Prs w B v l) {p : Addr} (hp : p.block < B) (u : Value) : Prs (w.setCell p u) B v l := by
  refine ⟨h.1, ?_⟩
  rcases h.2 with h0 | ⟨g', cap, cur, rfl, hb, hg, hr⟩
  · exact .inl h0
  · exact .inr ⟨g', cap, cur, rfl, hb, (Below.heap_setCell w p u g' (by omega)).trans hg, hr⟩
theorem Prs.upper {w w' : World} {B B' : Nat} {v : Value} {l : List (Int × Int)} (h : Prs w B v l) (hb : Below B' w w') (hB : w.heap.size ≤ B') : Prs w' B v l := h.below (hb.mono hB)

set_option maxHeartbeats 3200000 in
theorem iclo_any (A : Option Addr) (n c B : Nat) (zs : List Int) (f t : Int) (w : World) (h : Arg w B A n c zs) :
    Calls Try.prog 12 #[.slice A n c, .int .i64 f, .int .i64 t] w (GivesIB w (cloR zs f t) (cloOK zs f t)) := by
  obtain ⟨b, hb⟩ : ∃ b, isP zs = b := ⟨_, rfl⟩
  have H0 := hide (iisperm_any A n c B zs b hb w h.reads h.under h.le h.small)
  have hl := h.len
  cases b with
  | false =>
    rw [cloR_no (cloOK_no1 hb), cloOK_no1 hb]
    clear hb h hl
    go_enter Try.func12, Try.ntmps12
    go_wp2_with fail
    refine (unhide H0).mono ?_
    rintro e w1 ⟨rfl, hb⟩
    clear H0
    go_wp2
    go_ret2
    exact GivesIB.mk _ (Ints.nil _ _) hb
  | true =>
    by_cases hf : 1 ≤ f ∧ f ≤ (n : Int)
    rotate_left
    · rw [cloR_no (cloOK_no2 (by rw [hl]; exact hf)), cloOK_no2 (by rw [hl]; exact hf)]
      have H1 := hide (fun w => iplace_any A n c f false (decide_eq_false hf) w)
      clear hb h hl hf
      go_enter Try.func12, Try.ntmps12
      go_wp2_with fail
      refine (unhide H0).mono ?_
      rintro e w1 ⟨rfl, hb⟩
      go_wp2_with fail
      refine (unhide H1 _).mono ?_
      rintro e w2 ⟨rfl, rfl⟩
      clear H0 H1
      go_wp2
      go_ret2
      exact GivesIB.mk _ (Ints.nil _ _) hb
    by_cases ht : 1 ≤ t ∧ t ≤ (n : Int)
    rotate_left
    · rw [cloR_no (cloOK_no3 (by rw [hl]; exact ht)), cloOK_no3 (by rw [hl]; exact ht)]
      have H1 := hide (fun w => iplace_any A n c f true (decide_eq_true hf) w)
      have H2 := hide (fun w => iplace_any A n c t false (decide_eq_false ht) w)
      clear hb h hl hf ht
      go_enter Try.func12, Try.ntmps12
      go_wp2_with fail
      refine (unhide H0).mono ?_
      rintro e w1 ⟨rfl, hb⟩
      go_wp2_with fail
      refine (unhide H1 _).mono ?_
      rintro e w2 ⟨rfl, rfl⟩
      go_wp2_with fail
      refine (unhide H2 _).mono ?_
      rintro e w3 ⟨rfl, rfl⟩
      clear H0 H1 H2
      go_wp2
      go_ret2
      exact GivesIB.mk _ (Ints.nil _ _) hb
    have hok : cloOK zs f t = true := cloOK_yes hb (by rw [hl]; exact hf) (by rw [hl]; exact ht)
    rw [cloR_yes hok, hok]
    have H1 := hide (fun w => iplace_any A n c f true (decide_eq_true hf) w)
    have H2 := hide (fun w => iplace_any A n c t true (decide_eq_true ht) w)
    have H3 := hide (fun w' (hb' : Below w.heap.size w w') => iall_any A n c B zs w' (h.below hb') hb)
    have hl8 := ivL_le hb
    have HQ := hide (fun (x y : Int) k => And.intro (cloF_bnd zs x y k) (cloF_up hb x y k))
    have HM := hide (fun q (hq : q ∈ ivL zs) => mem_ivL.1 hq)
    have hn8 : n ≤ 8 := by have := isP_le hb; omega
    have HZ : Hid (∀ x y, cloF zs x y 0 = (1, (n : Int))) := hide (fun x y => by rw [cloF_zero, hl])
    have HL := hide hl
    obtain ⟨hf1, hf2⟩ := hf
    obtain ⟨ht1, ht2⟩ := ht
    clear hb h hl hok
    obtain ⟨x, y, hxy⟩ : ∃ x y, x = min f t ∧ y = max f t := ⟨_, _, rfl, rfl⟩
    rw [← hxy.1, ← hxy.2]
    have hxy2 : (f ≤ t ∧ x = f ∧ y = t) ∨ (t < f ∧ x = t ∧ y = f) := by omega
    clear hxy
    rcases hxy2 with ⟨hft, rfl, rfl⟩ | ⟨hft, rfl, rfl⟩
    all_goals
      go_enter Try.func12, Try.ntmps12
      go_wp2_with fail
      refine (unhide H0).mono ?_
      rintro e w1 ⟨rfl, hb1⟩
      go_wp2_with fail
      refine (unhide H1 _).mono ?_
      rintro e w2 ⟨rfl, rfl⟩
      go_wp2_with fail
      refine (unhide H2 _).mono ?_
      rintro e w3 ⟨rfl, rfl⟩
      obtain ⟨g, hg⟩ : ∃ g, g = w3.heap.size := ⟨_, rfl⟩
      have hsz := hb1.size
      have hbel := (Below.refl w3.heap.size w3).alloc (Nat.le_refl _) (.cells #[.int .i64 1, .int .i64 (n : Int)] 54)
      have hW := Whole.new w3 54 #[.int .i64 1, .int .i64 (n : Int)]
      have hb2 := below_after hb1 hbel
      have H4 := hide (unhide H3 _ hb2)
      clear H0 H1 H2 H3 hb1 hbel
      go_wp2_with fail
      refine (unhide H4).mono ?_
      rintro e w4 ⟨A4, c4, rfl, hP4, hb4⟩
      have hW4 := hW.below hb4 (by simp)
      have hb5 := below_after hb2 hb4
      have hP5 := hP4.low (B' := w3.heap.size + 1) (by simp)
      rw [← hg] at hsz hW4 hP5 ⊢
      clear H4 hP4 hb4 hb2 hW
      obtain ⟨l, hll⟩ : ∃ l, l = ivL zs := ⟨_, rfl⟩
      have hS := fun k q => cloF_step (p := zs) (x := x) (y := y) (k := k) (q := q)
      rw [← hll] at hP5 hl8 HM hS ⊢
      have HS := hide hS
      have HLL := hide hll
      have hW5 : Whole w4 g 54 #[.int .i64 (cloF zs x y 0).1, .int .i64 (cloF zs x y 0).2] := by rw [unhide HZ]; exact hW4
      clear hll hS hW4 hg
      go_wp2
      go_loopw [10, 32] (fun _ i wr => ∃ k : Nat, k ≤ l.length ∧ i = .int .i64 k ∧ Below w.heap.size w wr ∧ Prs wr (g + 1) (.slice A4 l.length c4) l ∧ Whole wr g 54 #[.int .i64 (cloF zs x y k).1, .int .i64 (cloF zs x y k).2]) (fun _ i _ => l.length - (intOf i).toNat)
      case atStart => exact ⟨0, Nat.zero_le _, rfl, hb5, hP5, hW5⟩
      case round =>
        obtain ⟨k, hk, rfl, hbw, hP, hW⟩ := hrel
        clear hP5 hW5 hb5
        have hgl := hW.lt
        obtain ⟨⟨hq1, hq2⟩, hq3, hq4⟩ := unhide HQ x y k
        by_cases hlt : k < l.length
        · obtain ⟨q, hq⟩ : ∃ q, l[k]? = some q := ⟨_, List.getElem?_eq_getElem hlt⟩
          obtain ⟨g4, rfl, hgl4, hc0, hc1⟩ := hP.at_ hq
          have hst := unhide HS k q hq
          obtain ⟨qa, qj, e1, e2, _⟩ := unhide HM q (List.mem_of_getElem? hq)
          obtain ⟨q1, q2⟩ := q
          rw [Prod.mk.injEq] at e2
          obtain ⟨c1, hc1'⟩ : ∃ c1, c1 = (cloF zs x y k).1 := ⟨_, rfl⟩
          obtain ⟨c2, hc2'⟩ : ∃ c2, c2 = (cloF zs x y k).2 := ⟨_, rfl⟩
          have hcc : cloF zs x y k = (c1, c2) := by rw [hc1', hc2']
          rw [hcc] at hst hW hq1 hq2 hq3 hq4
          simp only at hc0 hc1 hq1 hq2 hq3 hq4 hW
          unfold cloStep at hst
          simp only at hst
          have hz8 := unhide HL
          have hqb : 1 ≤ q1 ∧ q1 ≤ 8 ∧ 1 ≤ q2 ∧ q2 ≤ 8 := by omega
          obtain ⟨hb11, hb12, hb21, hb22⟩ := hqb
          have HST := hide hst
          have p0 := hW.cell 0
          have p1 := hW.cell 1
          have pf0 := hW.frozen 0
          have pf1 := hW.frozen 1
          simp only [List.getElem?_toArray, List.getElem?_cons_zero, List.getElem?_cons_succ] at p0 p1
          clear hc1' hc2' hcc e1 e2 hz8 hst hq
          by_cases hcov : q1 ≤ x ∧ y ≤ q2
          · rw [if_pos hcov] at HST
            obtain ⟨hv1, hv2⟩ := hcov
            obtain ⟨M1, hM1⟩ : ∃ M1, max c1 q1 = M1 := ⟨_, rfl⟩
            obtain ⟨M2, hM2⟩ : ∃ M2, min c2 q2 = M2 := ⟨_, rfl⟩
            rw [hM1, hM2] at HST
            have m1 := max_cases c1 q1
            have m2 := min_cases c2 q2
            rw [hM1] at m1
            rw [hM2] at m2
            have hW1 := (hW.put 0 (.int .i64 M1)).put 1 (.int .i64 M2)
            have hb1 := (hbw.setCell (p := ⟨g, 0, none⟩) hsz (.int .i64 M1)).setCell (p := ⟨g, 1, none⟩) hsz (.int .i64 M2)
            have hP1 := (hP.stay (p := ⟨g, 0, none⟩) (Nat.lt_succ_self g) (.int .i64 M1)).stay (p := ⟨g, 1, none⟩) (Nat.lt_succ_self g) (.int .i64 M2)
            have hbel := (Below.refl _ ((wr.setCell ⟨g, 0, none⟩ (.int .i64 M1)).setCell ⟨g, 1, none⟩ (.int .i64 M2))).alloc (Nat.le_refl _) (.cells #[.int .i64 q1, .int .i64 q2] 54)
            have hWq := hW1.alloc (.cells #[.int .i64 q1, .int .i64 q2] 54)
            have hPq := hP1.below hbel
            have hbq := below_after hb1 hbel
            clear hM1 hM2 hP hbw hW hW1 hb1 hP1 hbel
            rcases m1 with ⟨m1, rfl⟩ | ⟨m1, rfl⟩ <;> rcases m2 with ⟨m2, rfl⟩ | ⟨m2, rfl⟩
            all_goals
              go_wp2
              go_roundw
              case rel => exact ⟨k + 1, by omega, by go_num, hbq, hPq, by rw [unhide HST]; exact hWq⟩
              case measure => simp [intOf]; omega
          · rw [if_neg hcov] at HST
            have hbelp := (Below.refl wr.heap.size wr).alloc (Nat.le_refl _) (.cells #[.int .i64 q1, .int .i64 q2] 54)
            have hPp := hP.below hbelp
            have hbp := below_after hbw hbelp
            have hWp := hW.below hbelp hgl
            clear hP hbw hW hbelp
            by_cases hv1 : q1 ≤ x
            · have hv2 : ¬ y ≤ q2 := fun hv2 => hcov ⟨hv1, hv2⟩
              clear hcov
              go_wp2
              go_roundw
              case rel => exact ⟨k + 1, by omega, by go_num, hbp, hPp, by rw [unhide HST]; exact hWp⟩
              case measure => simp [intOf]; omega
            · clear hcov
              go_wp2
              go_roundw
              case rel => exact ⟨k + 1, by omega, by go_num, hbp, hPp, by rw [unhide HST]; exact hWp⟩
              case measure => simp [intOf]; omega
        · obtain rfl : l.length = k := by omega
          have p0 := hW.cell 0
          have p1 := hW.cell 1
          simp only [List.getElem?_toArray, List.getElem?_cons_zero, List.getElem?_cons_succ] at p0 p1
          have hI := Ints.made2 wr w.heap.size (cloF zs x y l.length).1 (cloF zs x y l.length).2 hbw.size
          have hb9 := below_after hbw ((Below.refl wr.heap.size wr).alloc (Nat.le_refl _) (.cells #[.int .i64 (cloF zs x y l.length).1, .int .i64 (cloF zs x y l.length).2] 3))
          clear hP hbw hW
          go_wp2
          go_ret2
          rw [← unhide HLL]
          exact GivesIB.mk _ hI hb9

end Go.Proofs.Ytoiflglccbemeaa
