
/-
  spec.l1Max; spec.SumParts, impl.SumParts, by their contracts.
-/
import Derived.Test.YtjfdjjigamlhfaaSumM
import Derived.Test.YtjfdjjigamlhfaaPush
import Derived.Test.YtjfdjjigamlhfaaPat
import Derived.Test.YtjfdjjigamlhfaaSame
namespace Go.Proofs.Ytjfdjjigamlhfaa
open Go.RowKit

theorem max_any (a b : Int) (w : World) : Calls Try.prog 42 #[.int .i64 a, .int .i64 b] w fun e w' => e = .returned (.int .i64 (max a b)) ∧ w' = w := by
  by_cases h : b < a
  · have e : max a b = a := by omega
    rw [e]
    go_enter Try.func42, Try.ntmps42
    go_wp2
    go_ret
    exact ⟨rfl, rfl⟩
  · have e : max a b = b := by omega
    rw [e]
    go_enter Try.func42, Try.ntmps42
    go_wp2
    go_ret
    exact ⟨rfl, rfl⟩
theorem most_range {p : List Int} (h : isP p = true) : ∀ k, 0 ≤ most (p.take k) ∧ most (p.take k) ≤ p.length := fun k => by
  induction k with
  | zero => simp [most]
  | succ k ih =>
    by_cases hk : k < p.length
    · have hz := at0_some hk
      have := isP_range h hz
      rw [most_take hz]; omega
    · rw [List.take_of_length_le (by omega)]
      rwa [List.take_of_length_le (by omega)] at ih

set_option maxHeartbeats 800000 in
theorem sparts_any (A : Option Addr) (n c B : Nat) (zs : List Int) (w : World) (h : Arg w B A n c zs) :
    Calls Try.prog 18 #[.slice A n c] w (GivesSS w (partsR zs)) := by
  obtain ⟨b, hb⟩ : ∃ b, isP zs = b := ⟨_, rfl⟩
  have hI0 := IntsS.made0 w w.heap.size (Nat.le_refl _)
  have hbel := (Below.refl w.heap.size w).alloc (Nat.le_refl _) (.cells #[] 22)
  have H1 := hide (fun w' (hb' : Below w.heap.size w w') => sisperm_any A n c B zs b hb w' (h.below hb').reads h.le h.cap)
  have H0 := hide (unhide H1 _ hbel)
  clear H1
  cases b with
  | false =>
    rw [partsR_no hb]
    clear hb h
    go_enter Try.func18, Try.ntmps18
    go_wp2_with fail
    refine (unhide H0).mono ?_
    rintro e w1 ⟨rfl, hd⟩
    have hb := hbel.trans (hd.below w.heap.size)
    have hI := hI0.below (hd.below _)
    clear hd H0 hI0 hbel
    go_wp2
    go_ret
    exact GivesSS.mk hI hb
  | true =>
    have hl := h.len
    have hn8 : n ≤ 8 := by have := isP_le hb; omega
    have HL := hide hl
    have HC := hide h
    have HP := hide hb
    have hcap := h.cap
    have HR := hide (partsR_yes hb)
    clear hb h hl
    go_enter Try.func18, Try.ntmps18
    go_wp2_with fail
    refine (unhide H0).mono ?_
    rintro e w1 ⟨rfl, hd⟩
    have hb0 := hbel.trans (hd.below w.heap.size)
    have hI1 := hI0.below (hd.below _)
    clear hd H0 hI0 hbel
    go_wp2
    go_loopw [3, 4, 5, 6] (fun v f m i wr => ∃ k : Nat, k ≤ n ∧ i = .int .i64 k ∧ f = .int .i64 (frm zs k : Int) ∧ m = .int .i64 (most (zs.take k)) ∧ Below w.heap.size w wr ∧ IntsS wr w.heap.size v (prt zs k)) (fun _ _ _ i _ => n - (intOf i).toNat)
    case atStart => exact ⟨0, Nat.zero_le _, rfl, rfl, rfl, hb0, hI1⟩
    case round =>
      obtain ⟨k, hk, rfl, rfl, rfl, hbw, hI⟩ := hrel
      clear hI1 hb0
      have hfk := frm_le zs k
      have hpl := prt_len zs k
      by_cases hlt : k < n
      · have hA := (unhide HC).below hbw
        obtain ⟨ad, u, rfl, _, hu, hc⟩ := hA.reads.at_ hlt
        obtain ⟨z, hz, rfl⟩ := i64_at hu
        have hmt := hide (most_take hz)
        have hmr := most_range (unhide HP) (k + 1)
        rw [most_take hz] at hmr
        have hsz := hbw.size
        clear hu hz
        obtain ⟨f, hf⟩ : ∃ f, f = frm zs k := ⟨_, rfl⟩
        have HF := hide hf
        rw [← hf] at hfk ⊢
        by_cases heq : max (most (zs.take k)) z = (k : Int) + 1
        · have H2 := hide (fun w' (hb' : Below wr.heap.size wr w') => l2pat_any (some (ad.add f)) (k + 1 - f) (c - f) B _ w' ((hA.cut (f := f) (m := k + 1 - f) (by omega)).below hb') (by omega))
          have hmy : most (zs.take (k + 1)) = (k : Int) + 1 := by rw [unhide hmt]; exact heq
          have hpy := hide (prt_yes hmy)
          have hfy := hide (frm_yes hmy)
          clear hf hmy hA
          go_wp2_with fail
          refine (max_any _ _ _).mono ?_
          rintro e w2 ⟨rfl, rfl⟩
          go_wp2_with fail
          refine (unhide H2 _ (Below.refl _ _)).mono ?_
          rintro e w3 ⟨A3, c3, rfl, own3, hb3⟩
          clear H2
          have hb5 := hbw.trans (hb3.mono hsz)
          go_wp2_with (first
            | (at_builtin; refine wpList_push_row rfl (.tmp 28) (.tmp 35) rfl w.heap.size w w2 w3 _ _ (prt zs k) _ rfl rfl rfl hI hb3 own3 (by omega) hb5 hsz ?_; intro v4 w4 hI4 hb4))
          clear hI hb3 own3 hb5 hbw
          go_wp2
          go_roundw
          case rel => exact ⟨k + 1, by omega, by go_num, by rw [unhide hfy]; go_num, by rw [unhide hmt, heq], hb4, by rw [unhide hpy, ← unhide HF]; exact hI4⟩
          case measure => simp [intOf]; omega
        · have hmn : ¬ most (zs.take (k + 1)) = (k : Int) + 1 := by rw [unhide hmt]; exact heq
          have hpy := hide (prt_no hmn)
          have hfy := hide (frm_no hmn)
          clear hf hmn hA
          go_wp2_with fail
          refine (max_any _ _ _).mono ?_
          rintro e w2 ⟨rfl, rfl⟩
          go_wp2
          go_roundw
          case rel => exact ⟨k + 1, by omega, by go_num, by rw [unhide hfy, ← unhide HF], by rw [unhide hmt], hbw, by rw [unhide hpy]; exact hI⟩
          case measure => simp [intOf]; omega
      · obtain rfl : n = k := by omega
        have hI2 : IntsS wr w.heap.size u3 (partsR zs) := by rw [unhide HR, unhide HL]; exact hI
        clear hI
        go_wp2
        go_ret
        exact GivesSS.mk hI2 hbw

set_option maxHeartbeats 800000 in
theorem iparts_any (A : Option Addr) (n c B : Nat) (zs : List Int) (w : World) (h : Arg w B A n c zs) :
    Calls Try.prog 19 #[.slice A n c] w (GivesSS w (partsR zs)) := by
  obtain ⟨b, hb⟩ : ∃ b, isP zs = b := ⟨_, rfl⟩
  have H0 := hide (iisperm_any A n c B zs b hb w h.reads h.under h.le h.small)
  cases b with
  | false =>
    rw [partsR_no hb]
    clear hb h
    go_enter Try.func19, Try.ntmps19
    go_wp2_with fail
    refine (unhide H0).mono ?_
    rintro e w1 ⟨rfl, hb⟩
    clear H0
    go_wp2
    go_ret
    exact GivesSS.mk (v := .slice none 0 0) (IntsS.nil _ _) hb
  | true =>
    have hl := h.len
    have hn8 : n ≤ 8 := by have := isP_le hb; omega
    have HL := hide hl
    have HC := hide h
    have HP := hide hb
    have hcap := h.cap
    have HR := hide (partsR_yes hb)
    clear hb h hl
    go_enter Try.func19, Try.ntmps19
    go_wp2_with fail
    refine (unhide H0).mono ?_
    rintro e w1 ⟨rfl, hb0⟩
    have hI1 := IntsS.nil w1 w.heap.size
    clear H0
    go_wp2
    go_loopw [3, 4, 5, 6, 7, 8, 9, 15] (fun v f m _ _ _ _ i wr => ∃ k : Nat, k ≤ n ∧ i = .int .i64 k ∧ f = .int .i64 (frm zs k : Int) ∧ m = .int .i64 (most (zs.take k)) ∧ Below w.heap.size w wr ∧ IntsS wr w.heap.size v (prt zs k)) (fun _ _ _ _ _ _ _ i _ => n - (intOf i).toNat)
    case atStart => exact ⟨0, Nat.zero_le _, rfl, rfl, rfl, hb0, hI1⟩
    case round =>
      obtain ⟨k, hk, rfl, rfl, rfl, hbw, hI⟩ := hrel
      clear hI1 hb0
      have hfk := frm_le zs k
      have hpl := prt_len zs k
      by_cases hlt : k < n
      · have hA := (unhide HC).below hbw
        obtain ⟨ad, u, rfl, _, hu, hc⟩ := hA.reads.at_ hlt
        obtain ⟨z, hz, rfl⟩ := i64_at hu
        have hmt := hide (most_take hz)
        have hmr := most_range (unhide HP) (k + 1)
        rw [most_take hz] at hmr
        have hsz := hbw.size
        clear hu hz
        obtain ⟨f, hf⟩ : ∃ f, f = frm zs k := ⟨_, rfl⟩
        have HF := hide hf
        rw [← hf] at hfk ⊢
        obtain ⟨mk, hmk⟩ : ∃ mk, mk = most (zs.take k) := ⟨_, rfl⟩
        rw [← hmk] at hmt hmr ⊢
        clear hmk
        obtain ⟨M, hM⟩ : ∃ M, max mk z = M := ⟨_, rfl⟩
        rw [hM] at hmt hmr
        have hif : (if mk < z then z else mk) = M := by rw [← hM]; split <;> omega
        clear hM
        by_cases heq : M = (k : Int) + 1
        · have hok := patOK_cut (unhide HP) f (k + 1 - f)
          have H2 := hide (fun w' (hb' : Below wr.heap.size wr w') => ipat_any (some (ad.add f)) (k + 1 - f) (c - f) B _ true hok w' ((hA.cut (f := f) (m := k + 1 - f) (by omega)).below hb'))
          rw [patR_yes hok] at H2
          have hmy : most (zs.take (k + 1)) = (k : Int) + 1 := by rw [unhide hmt]; exact heq
          have hpy := hide (prt_yes hmy)
          have hfy := hide (frm_yes hmy)
          clear hf hmy hA hok
          go_wp2_with fail
          refine (unhide H2 _ (Below.refl _ _)).mono ?_
          rintro e w3 ⟨A3, c3, rfl, own3, hb3⟩
          clear H2
          have hb5 := hbw.trans (hb3.mono hsz)
          go_wp2_with (first
            | (at_builtin; refine wpList_push_row rfl (.tmp 36) (.tmp 38) rfl w.heap.size w wr w3 _ _ (prt zs k) _ rfl rfl rfl hI hb3 own3 (by omega) hb5 hsz ?_; intro v4 w4 hI4 hb4))
          clear hI hb3 own3 hb5 hbw
          go_wp2
          go_roundw
          case rel => exact ⟨k + 1, by omega, by go_num, by rw [unhide hfy]; go_num, by rw [unhide hmt, heq], hb4, by rw [unhide hpy, ← unhide HF]; exact hI4⟩
          case measure => simp [intOf]; omega
        · have hmn : ¬ most (zs.take (k + 1)) = (k : Int) + 1 := by rw [unhide hmt]; exact heq
          have hpy := hide (prt_no hmn)
          have hfy := hide (frm_no hmn)
          clear hf hmn hA
          go_wp2
          go_roundw
          case rel => exact ⟨k + 1, by omega, by go_num, by rw [unhide hfy, ← unhide HF], by rw [unhide hmt], hbw, by rw [unhide hpy]; exact hI⟩
          case measure => simp [intOf]; omega
      · obtain rfl : n = k := by omega
        have hI2 : IntsS wr w.heap.size u3 (partsR zs) := by rw [unhide HR, unhide HL]; exact hI
        clear hI
        go_wp2
        go_ret
        exact GivesSS.mk hI2 hbw
end Go.Proofs.Ytjfdjjigamlhfaa
